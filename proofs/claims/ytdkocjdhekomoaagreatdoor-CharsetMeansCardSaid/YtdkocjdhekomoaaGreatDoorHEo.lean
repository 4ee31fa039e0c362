/-
  charset.Encode.
-/
import Derived.Test.YtdkocjdhekomoaaGreatDoorHEn
import Derived.Test.YtdkocjdhekomoaaGreatDoorHRs
import Derived.Test.YtdkocjdhekomoaaGreatDoorHU8
import Derived.Test.YtdkocjdhekomoaaGreatDoorHWg
import Derived.Lib.Join
namespace Go.Proofs.YtdkocjdhekomoaaGreatDoor
open Go Go.RowKit Go.Shelf
theorem cells_new (w : World) (l : List Value) (t : TypeId) : ∀ (j : Nat) (u : Value), l[j]? = some u → (w.alloc (.cells l.toArray t)).cell? (Addr.add ⟨w.heap.size, 0, none⟩ j) = some u := fun j u hj => by
  rw [add_plain0]
  unfold World.cell?
  rw [World.alloc_heap_new]
  simpa using hj
theorem alloc_size (w : World) (o : Obj) : (w.alloc o).heap.size = w.heap.size + 1 := by
  show (w.heap.push o).size = _
  simp

namespace Ch
theorem parts_fuel : ∀ (n m : Nat) (cur rest : List UInt8), rest.length ≤ n → rest.length ≤ m → partsF n cur rest = partsF m cur rest := by
  intro n
  induction n with
  | zero =>
    intro m cur rest h1 h2
    have : rest = [] := List.eq_nil_of_length_eq_zero (by omega)
    subst this
    cases m <;> simp [partsF]
  | succ n ih =>
    intro m cur rest h1 h2
    by_cases hne : rest = []
    · subst hne; cases m <;> simp [partsF]
    · have hl : 0 < rest.length := List.length_pos_iff.2 hne
      have hw := Lib.decodeL_width rest
      obtain ⟨m, rfl⟩ : ∃ k, m = k + 1 := ⟨m - 1, by omega⟩
      unfold partsF
      rw [if_neg hne, if_neg hne]
      rw [ih m (rest.take (Lib.decodeL rest).2) (rest.drop (Lib.decodeL rest).2) (by rw [List.length_drop]; omega) (by rw [List.length_drop]; omega)]
      rw [ih m (cur ++ rest.take (Lib.decodeL rest).2) (rest.drop (Lib.decodeL rest).2) (by rw [List.length_drop]; omega) (by rw [List.length_drop]; omega)]
def partsG (cur rest : List UInt8) : List (List UInt8) := partsF rest.length cur rest
theorem partsG_nil (cur : List UInt8) : partsG cur [] = [cur] := rfl
theorem partsG_step (cur rest : List UInt8) (hne : rest ≠ []) : partsG cur rest =
    if cur.length + (Lib.encodeRune ((Lib.decodeL rest).1 : Int)).length > 45 then cur :: partsG (rest.take (Lib.decodeL rest).2) (rest.drop (Lib.decodeL rest).2)
    else partsG (cur ++ rest.take (Lib.decodeL rest).2) (rest.drop (Lib.decodeL rest).2) := by
  have hl : 0 < rest.length := List.length_pos_iff.2 hne
  have hw := Lib.decodeL_width rest
  have hd : (rest.drop (Lib.decodeL rest).2).length = rest.length - (Lib.decodeL rest).2 := List.length_drop
  unfold partsG
  obtain ⟨n, hn⟩ : ∃ n, rest.length = n + 1 := ⟨rest.length - 1, by omega⟩
  rw [hn]
  conv => lhs; unfold partsF
  rw [if_neg hne]
  rw [parts_fuel n (rest.drop (Lib.decodeL rest).2).length (rest.take (Lib.decodeL rest).2) (rest.drop (Lib.decodeL rest).2) (by omega) (Nat.le_refl _)]
  rw [parts_fuel n (rest.drop (Lib.decodeL rest).2).length (cur ++ rest.take (Lib.decodeL rest).2) (rest.drop (Lib.decodeL rest).2) (by omega) (Nat.le_refl _)]
theorem join_sp (X : List (List UInt8)) : Lib.join X [32] = Tx.joinSp X := by
  cases X with
  | nil => rfl
  | cons x r => rw [Lib.join_cons]; rfl
theorem coded_len (p : List UInt8) : (codedWord p).length ≤ 77 * p.length + 12 := by
  have := Cd.base_len p
  unfold codedWord start
  simp only [List.length_append, List.length_cons, List.length_nil, List.length_dropLast]
  omega
end Ch

/-- The words made so far, and what is still to be divided. -/
def Pt (S : List UInt8) (L : List (List UInt8)) (start pos : Nat) : Prop :=
  ∃ done : List (List UInt8), L = done.map Ch.codedWord ∧ done ++ Ch.partsG ((S.take pos).drop start) (S.drop pos) = Ch.parts S ∧ ∀ x ∈ L, x.length ≤ 40000000
theorem Pt.start (S : List UInt8) : Pt S [] 0 0 := ⟨[], rfl, by simp [Ch.parts, Ch.partsG], fun _ h => by cases h⟩
theorem span_grow {S : List UInt8} {f u k : Nat} (hf : f ≤ u) (hu : u + k ≤ S.length) : (S.take (u + k)).drop f = (S.take u).drop f ++ (S.drop u).take k := by
  have : S.take (u + k) = S.take u ++ (S.drop u).take k := List.take_add
  rw [this, List.drop_append_of_le_length (by rw [List.length_take]; omega)]
theorem Pt.more {S : List UInt8} {L : List (List UInt8)} {start pos : Nat} (h : Pt S L start pos) (hp : pos < S.length) (hs : start ≤ pos) (hS : S.length ≤ 400000)
    (hc : pos - start + (Lib.encodeRune ((Lib.decodeL (S.drop pos)).1 : Int)).length > 45) (hk : pos + (Lib.decodeL (S.drop pos)).2 ≤ S.length) : Pt S (L ++ [Ch.codedWord ((S.take pos).drop start)]) pos (pos + (Lib.decodeL (S.drop pos)).2) := by
  obtain ⟨done, rfl, h2, h3⟩ := h
  have hne : S.drop pos ≠ [] := fun e => by have := congrArg List.length e; rw [List.length_drop] at this; simp at this; omega
  have hcl : ((S.take pos).drop start).length = pos - start := by rw [List.length_drop, List.length_take]; omega
  rw [Ch.partsG_step _ _ hne, if_pos (by rw [hcl]; exact hc)] at h2
  refine ⟨done ++ [(S.take pos).drop start], by simp, ?_, fun x hx => ?_⟩
  · rw [span_grow (Nat.le_refl _) hk, span_empty, List.nil_append, ← List.drop_drop]
    simpa using h2
  · rcases List.mem_append.1 hx with hx | hx
    · exact h3 x hx
    · obtain rfl := List.mem_singleton.1 hx
      have := Ch.coded_len ((S.take pos).drop start)
      omega
theorem Pt.next {S : List UInt8} {L : List (List UInt8)} {start pos : Nat} (h : Pt S L start pos) (hp : pos < S.length) (hs : start ≤ pos)
    (hc : ¬ pos - start + (Lib.encodeRune ((Lib.decodeL (S.drop pos)).1 : Int)).length > 45) (hk : pos + (Lib.decodeL (S.drop pos)).2 ≤ S.length) : Pt S L start (pos + (Lib.decodeL (S.drop pos)).2) := by
  obtain ⟨done, rfl, h2, h3⟩ := h
  have hne : S.drop pos ≠ [] := fun e => by have := congrArg List.length e; rw [List.length_drop] at this; simp at this; omega
  have hcl : ((S.take pos).drop start).length = pos - start := by rw [List.length_drop, List.length_take]; omega
  rw [Ch.partsG_step _ _ hne, if_neg (by rw [hcl]; exact hc)] at h2
  refine ⟨done, rfl, ?_, h3⟩
  rw [span_grow hs hk, ← List.drop_drop]
  exact h2
theorem Pt.end_ {S : List UInt8} {L : List (List UInt8)} {start : Nat} (h : Pt S L start S.length) (hS : S.length ≤ 400000) : (Ch.parts S).map Ch.codedWord = L ++ [Ch.codedWord (S.drop start)] ∧ ∀ x ∈ L ++ [Ch.codedWord (S.drop start)], x.length ≤ 40000000 := by
  obtain ⟨done, rfl, h2, h3⟩ := h
  rw [List.drop_length, List.take_length, Ch.partsG_nil] at h2
  refine ⟨by rw [← h2]; simp, fun x hx => ?_⟩
  rcases List.mem_append.1 hx with hx | hx
  · exact h3 x hx
  · obtain rfl := List.mem_singleton.1 hx
    have := Ch.coded_len (S.drop start)
    rw [List.length_drop] at this
    omega

/-! ### memory -/
theorem own_ne {w : World} {base : Nat} {v : Value} {X : List (List UInt8)} {k : Nat} {s : ByteArray} {p : Nat} (h : SOwn w base v X) (hk : w.heap[k]? = some (.stringIter s p)) : v.ownBlock ≠ some k := by
  intro e
  rcases h.2 with ⟨rfl, _⟩ | ⟨g, cap, cur, rfl, _, hg, _⟩
  · cases e
  · cases e
    rw [hk] at hg; cases hg
theorem SOwn.iterAt {w : World} {base : Nat} {v : Value} {X : List (List UInt8)} {k : Nat} {s : ByteArray} {p : Nat} (h : SOwn w base v X) (hk : w.heap[k]? = some (.stringIter s p)) (q : Nat) : SOwn (w.iterAt k s q) base v X :=
  World.ownsRow.kept (row := some k) h ⟨rfl, rfl, rfl, by rw [Lib.iterAt_size]; exact Nat.le_refl _, fun i _ hn => Lib.iterAt_other w k i s q (fun e => hn (by rw [e]))⟩ (.inr (own_ne h hk))
theorem iter_below {w w' : World} {k : Nat} {s : ByteArray} {p : Nat} (hk : w.heap[k]? = some (.stringIter s p)) (hb : Below w.heap.size w w') : w'.heap[k]? = some (.stringIter s p) :=
  (hb.block k (Array.getElem?_eq_some_iff.1 hk).1).trans hk
theorem grown_own {B : Nat} {w wr w1 : World} {base : Nat} {v : Value} {X : List (List UInt8)} (h : Below B w wr) (hB : B ≤ w.heap.size) (ho : SOwn wr base v X) (hbase : B ≤ base) (hg : wr.grownBy w1 v.ownBlock) : Below B w w1 := by
  refine h.trans ⟨hg.os, hg.tape, hg.output, hg.size, fun i hi => hg.block i (Nat.lt_of_lt_of_le hi (Nat.le_trans hB h.size)) fun e => ?_⟩
  rcases ho.2 with ⟨rfl, _⟩ | ⟨g, cap, cur, rfl, hbg, _⟩
  · cases e
  · simp [Value.ownBlock] at e; omega
theorem join_any {w : World} {xa : Option Addr} {b cap : Nat} {L : List (List UInt8)} (h : Lv w xa b 0 cap L) (h0 : 0 < L.length) (hL : L.length ≤ 1000000) (hx : ∀ x ∈ L, x.length ≤ 40000000) :
    Calls Tryz.prog 47 #[.slice xa L.length cap, .string ⟨#[32]⟩] w fun e w' => e = .returned (.string ⟨(Tx.joinSp L).toArray⟩) ∧ Below w.heap.size w w' := by
  have hxa := h.at_ h0
  subst hxa
  have hm : (L.map fun l => (⟨l.toArray⟩ : ByteArray)).map (·.data.toList) = L := by
    rw [List.map_map]
    conv => rhs; rw [← List.map_id L]
    apply List.map_congr_left
    intro x _; simp
  have := Any.strings_Join Tryz.lays156 Tryz.Builder_X156 b 0 cap (L.map fun l => (⟨l.toArray⟩ : ByteArray)) ⟨#[32]⟩ w (fun j x hj => by
    rw [List.getElem?_map] at hj
    cases hl : L[j]? with
    | none => rw [hl] at hj; cases hj
    | some l =>
      rw [hl] at hj
      cases hj
      have hjl : j < L.length := (List.getElem?_eq_some_iff.1 hl).1
      have := h.cell j hjl
      rw [List.getD_eq_getElem?_getD, hl] at this
      exact this) (h.lt h0) (by rw [List.length_map]; omega) (by rw [List.length_map]; exact h.le) (by
      rw [hm, show (⟨#[32]⟩ : ByteArray).data.toList = [32] from rfl, Ch.join_sp]
      have h1 := Tx.joinSp_len L 40000000 hx
      have h2 : L.length * (40000000 + 1) ≤ 1000000 * 40000001 := Nat.mul_le_mul_right _ hL
      omega)
  rw [hm, show (⟨#[32]⟩ : ByteArray).data.toList = [32] from rfl, Ch.join_sp, List.length_map] at this
  exact this

/-- The words lie there. -/
def RowAt (w : World) (pa : Option Addr) (pn pc : Nat) (L : List (List UInt8)) : Prop := ∃ b, pn = L.length ∧ Lv w pa b 0 pc L
theorem join_pn {w : World} {xa : Option Addr} {cap n : Nat} {L : List (List UInt8)} (h : RowAt w xa n cap L) (h0 : 0 < L.length) (hL : L.length ≤ 1000000) (hx : ∀ x ∈ L, x.length ≤ 40000000) :
    Calls Tryz.prog 47 #[.slice xa n cap, .string ⟨#[32]⟩] w fun e w' => e = .returned (.string ⟨(Tx.joinSp L).toArray⟩) ∧ Below w.heap.size w w' := by
  obtain ⟨b, rfl, h⟩ := h
  exact join_any h h0 hL hx
/-- words = append(words, word), an iterator beside it. -/
theorem wpList_app_it {w w0 : World} {ops : Array Oper} {o : Oper} {a : Act} {Q : Exit → Act → World → Prop} {rest : List Oper} {v : Value} {L : List (List UInt8)} {R : ByteArray} {p : Nat} (hgd : o.guard = none) (s x : Operand)
    (ho : o.op = .call { callee := .builtin .append, args := #[s, x], argTypes := #[29, 29] })
    (r : List UInt8) (hO : SOwn w w0.heap.size v L) (hB : Below w0.heap.size w0 w) (hit : w.heap[w0.heap.size]? = some (.stringIter R p)) (hbig : L.length ≤ 100000000)
    (hs : a.eval s = v) (hx : a.eval x = .slice (some ⟨w.heap.size, 0, none⟩) 1 1)
    (h : ∀ pa pn pc w', Hid (SOwn w' w0.heap.size (.slice pa pn pc) (L ++ [r])) → Hid (Below w0.heap.size w0 w') → w'.heap[w0.heap.size]? = some (.stringIter R p) → Hid (RowAt w' pa pn pc (L ++ [r])) → wpList Tryz.prog ops Q rest (a.put o.dst (.slice pa pn pc)) w') :
    wpList Tryz.prog ops Q (o :: rest) a (w.alloc (.cells #[.string ⟨r.toArray⟩] 9)) := by
  have hBa : Below w0.heap.size w0 (w.alloc (.cells #[.string ⟨r.toArray⟩] 9)) := hB.alloc hB.size _
  have hOa := hO.alloc (.cells #[.string ⟨r.toArray⟩] 9)
  have hia := iter_below hit ((Below.refl _ w).alloc (Nat.le_refl _) (.cells #[.string ⟨r.toArray⟩] 9))
  refine wpList_append_strs hgd s x ho w0.heap.size v L hs hOa ⟨w.heap.size, 0, none⟩ 1 1 [r] hx rfl (cells_new w (sv [r]) _) (by omega) (by rw [alloc_size]; have := hB.size; omega) fun v' w' h1 h2 => ?_
  obtain ⟨xa, b, cap, rfl, hLv⟩ := h1.row
  refine h xa _ cap w' (Lib.hid h1) (Lib.hid (grown_own hBa (Nat.le_refl _) hOa (Nat.le_refl _) h2)) ?_ (Lib.hid ⟨b, rfl, hLv⟩)
  exact (h2.block _ (Array.getElem?_eq_some_iff.1 hia).1 (fun e => own_ne hOa hia e.symm)).trans hia

set_option maxHeartbeats 8000000 in
set_option maxRecDepth 100000 in
theorem encode_any (s : ByteArray) (hs : s.size ≤ 100000) (w : World) (hE : EnvH w) :
    Calls Tryz.prog 20 #[.string s] w fun e w' => e = .returned (.string ⟨(Ch.encode s.data.toList).toArray⟩) ∧ Below w.heap.size w w' := by
  have HP := Lib.hid (isPlain_any s w (by omega) hE)
  cases hpl : Ch.plain s.data.toList with
  | true =>
    rw [hpl] at HP
    have hen : Ch.encode s.data.toList = s.data.toList := by unfold Ch.encode; rw [if_pos hpl]
    rw [hen, Lib.mk_data]
    clear hpl hen
    go_enter Tryz.func20, Tryz.ntmps20
    go_wp2_with (go_at_call 44; refine HP.out.mono ?_; rintro e w1 ⟨rfl, rfl⟩)
    go_ret
    exact ⟨rfl, Below.refl _ _⟩
  | false =>
    rw [hpl] at HP
    have hen : Ch.encode s.data.toList = Tx.joinSp ((Ch.parts (Ch.repair s.data.toList)).map Ch.codedWord) := by unfold Ch.encode; rw [if_neg (by rw [hpl]; decide)]
    rw [hen]
    have hrl := Ch.repair_len _ s.data.toList (Nat.le_refl _)
    rw [← Lib.size_eq] at hrl
    have HR := Lib.hid (repair_any s w (by omega))
    obtain ⟨S, hS⟩ : ∃ S, Ch.repair s.data.toList = S := ⟨_, rfl⟩
    obtain ⟨R, hRR⟩ : ∃ R : ByteArray, (⟨S.toArray⟩ : ByteArray) = R := ⟨_, rfl⟩
    rw [hS] at HR hrl ⊢
    rw [hRR] at HR
    have hRl : R.data.toList = S := by rw [← hRR]
    have hRs : R.size = S.length := by rw [← hRR, mk_len]
    rw [← hRl]
    have hR4 : R.size ≤ 400000 := by omega
    clear hpl hen hS hRR hRl hRs hrl hE
    go_enter Tryz.func20, Tryz.ntmps20
    go_wp2_with (first
      | (go_at_call 44; refine HP.out.mono ?_; rintro e w1 ⟨rfl, rfl⟩)
      | (go_at_call 16; refine HR.out.mono ?_; rintro e w2 ⟨rfl, hB2⟩))
    go_loopw [3, 4] (fun v st wr => ∃ (pos start : Nat) (L : List (List UInt8)) (pa : Option Addr) (pn pc : Nat), v = .slice pa pn pc ∧ st = .int .i64 start ∧ wr.heap[w2.heap.size]? = some (.stringIter R pos) ∧ Hid (SOwn wr w2.heap.size (.slice pa pn pc) L) ∧ Below w2.heap.size w2 wr ∧ start ≤ pos ∧ pos ≤ R.size ∧ L.length ≤ start ∧ Hid (Pt R.data.toList L start pos)) (fun _ _ wr => R.size - wr.iterPos w2.heap.size)
    case atStart =>
      refine ⟨0, 0, [], none, 0, 0, rfl, rfl, World.iter_heap w2 R 0, SOwn.nil _ _, below_it w2 R 0, Nat.le_refl _, Nat.zero_le _, Nat.zero_le _, Pt.start _⟩
    case round =>
      obtain ⟨pos, start, L, pa, pn, pc, rfl, rfl, hit, hO, hbw, hsp, hps, hLs, hP⟩ := hrel
      clear HP HR
      have hsz : w2.heap.size < wr.heap.size := (Array.getElem?_eq_some_iff.1 hit).1
      by_cases hp : pos < R.size
      · have hnx : ∀ ty, (Instr.next (.pointer (some ⟨w2.heap.size, 0, none⟩)) true ty).run Tryz.prog wr = _ := fun ty => Lib.run_next_any_at wr w2.heap.size R pos ty hit hp
        have hwd := Lib.decode_width_pos R pos hp
        have hd2 := decode_in R pos hp
        have hok := Ch.rune_ok (R.data.toList.drop pos)
        have hpl : pos < R.data.toList.length := by rw [← Lib.size_eq]; exact hp
        have HM := Lib.hid (fun hc => hP.out.more hpl hsp (by rw [← Lib.size_eq]; exact hR4) hc (by rw [Lib.decodeL_drop, ← Lib.size_eq]; exact hd2))
        have HN := Lib.hid (fun hc => hP.out.next hpl hsp hc (by rw [Lib.decodeL_drop, ← Lib.size_eq]; exact hd2))
        rw [Lib.decodeL_drop] at HM HN hok
        have hlen := Ch.enc_len hok
        have hO2 := Lib.hid (hO.out.iterAt hit (pos + (Utf8.decode R pos).2))
        have hit2 := Lib.iterAt_heap wr w2.heap.size R pos (pos + (Utf8.decode R pos).2) hit
        have hbw2 := Lib.below_iterAt hbw (k := w2.heap.size) (Nat.le_refl _) R (pos + (Utf8.decode R pos).2)
        have hsz2 : w2.heap.size < (wr.iterAt w2.heap.size R (pos + (Utf8.decode R pos).2)).heap.size := by rw [Lib.iterAt_size]; exact hsz
        have HRL := Lib.hid (fun W => Any.utf8_RuneLen Tryz.lays118 ((Utf8.decode R pos).1 : Int) W)
        rw [hlen] at HRL
        obtain ⟨m, hm⟩ : ∃ m, (Lib.encodeRune ((Utf8.decode R pos).1 : Int)).length = m := ⟨_, rfl⟩
        rw [hm] at HRL HM HN
        have hm4 : m ≤ 4 := by rw [← hm]; exact rune_le4 _
        clear hlen hok hO hP hm
        generalize Utf8.decode R pos = D at *
        obtain ⟨r, k⟩ := D
        have hw2 : 1 ≤ k := hwd
        have hd3 : pos + k ≤ R.size := hd2
        clear hwd hd2
        by_cases hc : pos - start + m > 45
        · have HMx := Lib.hid (HM.out hc)
          have hlt : start < pos := by omega
          have q1 : (45 : Int) < (pos : Int) + (m : Int) - (start : Int) := by omega
          have HEW := Lib.hid (fun W => encWord_any ((R.data.toList.take pos).drop start) W (by rw [List.length_drop, List.length_take, ← Lib.size_eq]; omega))
          rw [← span_mk] at HEW
          obtain ⟨x, hx⟩ : ∃ x, Ch.codedWord ((R.data.toList.take pos).drop start) = x := ⟨_, rfl⟩
          rw [hx] at HEW HMx
          clear HM HN hx hc
          go_wp2_with (first
            | (go_at_call 45; refine (HRL.out _).mono ?_; rintro e w' ⟨rfl, rfl⟩)
            | (go_at_call 46; refine (HEW.out _).mono ?_; rintro e w3 ⟨rfl, hB3⟩; have hO3 := Lib.hid (hO2.out.below hB3); have hit3 := iter_below hit2 hB3; have hbw3 := hbw2.trans (hB3.mono (Nat.le_of_lt hsz2)))
            | (at_builtin; refine wpList_app_it (w := w3) (w0 := w2) rfl _ _ rfl x hO3.out hbw3 hit3 (by omega) rfl rfl ?_; intro xa pn4 cap4 w4 hO4 hbw4 hit4 _))
          go_roundw
          case rel => exact ⟨pos + k, pos, L ++ [x], xa, pn4, cap4, rfl, rfl, hit4, hO4, hbw4.out, by omega, hd3, by rw [List.length_append, List.length_singleton]; omega, HMx⟩
          case measure => simp only [World.iterPos, hit4, hit]; omega
        · have HNx := Lib.hid (HN.out hc)
          have q1 : ¬ ((45 : Int) < (pos : Int) + (m : Int) - (start : Int)) := by omega
          clear HM HN hc
          go_wp2_with (go_at_call 45; refine (HRL.out _).mono ?_; rintro e w' ⟨rfl, rfl⟩)
          go_roundw
          case rel => exact ⟨pos + k, start, L, pa, pn, pc, rfl, rfl, hit2, hO2, hbw2, by omega, hd3, hLs, HNx⟩
          case measure => simp only [World.iterPos, hit2, hit]; omega
      · have hnx : ∀ ty, (Instr.next (.pointer (some ⟨w2.heap.size, 0, none⟩)) true ty).run Tryz.prog wr = _ := fun ty => Lib.run_next_end_at wr w2.heap.size R pos ty hit hp
        obtain rfl : pos = R.size := by omega
        have hPe := hP.out
        rw [Lib.size_eq] at hPe
        obtain ⟨he1, he2⟩ := hPe.end_ (by rw [← Lib.size_eq]; exact hR4)
        have HEW := Lib.hid (fun W => encWord_any (R.data.toList.drop start) W (by rw [List.length_drop, ← Lib.size_eq]; omega))
        rw [← drop_mk] at HEW
        obtain ⟨x, hx⟩ : ∃ x, Ch.codedWord (R.data.toList.drop start) = x := ⟨_, rfl⟩
        rw [hx] at HEW he1 he2
        have HE1 := Lib.hid he1
        have HE2 := Lib.hid he2
        have hst : (start : Int) ≤ (R.size : Int) := by omega
        clear he1 he2 hx hPe hP
        go_wp2_with (first
          | (go_at_call 47; refine (join_pn hL4.out (by rw [List.length_append, List.length_singleton]; omega) (by rw [List.length_append, List.length_singleton]; omega) HE2.out).mono ?_; rintro e w5 ⟨rfl, hB5⟩)
          | (go_at_call 46; refine (HEW.out _).mono ?_; rintro e w3 ⟨rfl, hB3⟩; have hO3 := Lib.hid (hO.out.below hB3); have hit3 := iter_below hit hB3; have hbw3 := hbw.trans (hB3.mono (Nat.le_of_lt hsz)))
          | (at_builtin; refine wpList_app_it (w := w3) (w0 := w2) rfl _ _ rfl x hO3.out hbw3 hit3 (by omega) rfl rfl ?_; intro xa pn4 cap4 w4 hO4 hbw4 hit4 hL4))
        go_ret
        exact ⟨(congrArg (fun Y : List (List UInt8) => Ending.returned (.string ⟨(Tx.joinSp Y).toArray⟩)) HE1.out).symm, hB2.trans ((hbw4.out.trans (hB5.mono hbw4.out.size)).mono hB2.size)⟩
end Go.Proofs.YtdkocjdhekomoaaGreatDoor
