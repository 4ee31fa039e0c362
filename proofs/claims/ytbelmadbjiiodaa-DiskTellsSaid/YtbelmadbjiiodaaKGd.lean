/-
  The queue's search and its deletion (slices.IndexFunc, ContainsFunc, DeleteFunc at the disk's pieces).
  DeleteFunc at the disk's pieces; forget.
  DeleteFunc walked; forget.
  forget, settle.
-/
import Derived.Test.YtbelmadbjiiodaaKGc
namespace Go.Proofs.Ytbelmadbjiiodaa
open Go Go.RowKit
/-- Where the first piece of file f lies. -/
def IsIdx (Q : List Dk.Piece) (f : Nat) (r : Int) : Prop :=
  (r = -1 ∧ ∀ p ∈ Q, p.f ≠ f) ∨ ∃ j p, r = ((j : Nat) : Int) ∧ Q[j]? = some p ∧ p.f = f ∧ ∀ p' ∈ Q.take j, p'.f ≠ f
/-- A slice of pieces that reads as a list. -/
structure PR (w : World) (qa : Option Addr) (gq : Nat) (Q : List Dk.Piece) : Prop where
  addr : 0 < Q.length → qa = some ⟨gq, 0, none⟩
  c : ∀ j p, Q[j]? = some p → w.cell? ⟨gq, j * 3, none⟩ = some (.int .i64 (p.f : Int)) ∧ w.cell? ⟨gq, j * 3 + 1, none⟩ = some (.int .i64 (p.at_ : Int)) ∧ w.cell? ⟨gq, j * 3 + 2, none⟩ = some (.string (enc p.s))
  lt : 0 < Q.length → gq < w.heap.size
theorem PR.below {w w' : World} {qa : Option Addr} {gq : Nat} {Q : List Dk.Piece} (h : PR w qa gq Q) (hb : Below w.heap.size w w') : PR w' qa gq Q :=
  ⟨h.addr, fun j p hp => by
    have hl : gq < w.heap.size := h.lt (by have := (List.getElem?_eq_some_iff.1 hp).1; omega)
    obtain ⟨a, b, c⟩ := h.c j p hp
    exact ⟨(hb.cell (p := ⟨gq, j * 3, none⟩) hl).trans a, (hb.cell (p := ⟨gq, j * 3 + 1, none⟩) hl).trans b, (hb.cell (p := ⟨gq, j * 3 + 2, none⟩) hl).trans c⟩,
    fun hp => Nat.lt_of_lt_of_le (h.lt hp) hb.size⟩
theorem PR.of_own {w : World} {base : Nat} {v : Value} {L : List Dk.Piece} (h : w.ownsRow base 57 3 v L.length (pv L)) : ∃ qa gq cap, v = .slice qa L.length cap ∧ PR w qa gq L ∧ L.length ≤ cap ∧ cap ≤ 9223372036854775807 ∧ (qa = none ∨ qa = some ⟨gq, 0, none⟩) := by
  rcases h.2 with ⟨rfl, h0⟩ | ⟨gq, cap, cur, rfl, _, hg, h1, h2, _⟩
  · refine ⟨none, 0, 0, by rw [h0], ⟨fun hp => by omega, fun j p hp => ?_, fun hp => by omega⟩, by omega, by omega, .inl rfl⟩
    rw [List.eq_nil_of_length_eq_zero h0] at hp
    simp at hp
  · refine ⟨_, gq, cap, rfl, ⟨fun _ => rfl, fun j p hp => ?_, fun _ => lt_of_block hg⟩, h1, by unfold maxLen at h2; omega, .inr rfl⟩
    have key : ∀ (i : Nat) (v : Value), (pc p)[i]? = some v → w.cell? ⟨gq, j * 3 + i, none⟩ = some v := fun i v hv => by
      have h1 := h.cells (g := gq) rfl (j * 3 + i) v (pv_at L j i p v hp hv)
      have h2 : (⟨gq, 0, none⟩ : Addr).add (j * 3 + i) = ⟨gq, j * 3 + i, none⟩ := by unfold Addr.add; split <;> simp_all
      rw [h2] at h1
      exact h1
    exact ⟨key 0 _ rfl, key 1 _ rfl, key 2 _ rfl⟩
set_option maxHeartbeats 1000000 in
set_option maxRecDepth 100000 in
theorem del_del (p : Dk.Piece) (cb f : Nat) (w : World) (hc : w.cell? ⟨cb, 0, none⟩ = some (.int .i64 (f : Int))) (hb : cb < w.heap.size) :
    Calls Try.prog 59 #[.agg #[.int .i64 (p.f : Int), .int .i64 (p.at_ : Int), .string (enc p.s)], .pointer (some ⟨cb, 0, none⟩)] w fun e w' => e = .returned (.bool (decide (p.f = f))) ∧ Below w.heap.size w w' := by
  have hne : cb ≠ w.heap.size := by omega
  obtain ⟨s, hs⟩ : ∃ s, enc p.s = s := ⟨_, rfl⟩
  obtain ⟨a, ha⟩ : ∃ a, (p.at_ : Int) = a := ⟨_, rfl⟩
  obtain ⟨F, hF⟩ : ∃ a, p.f = a := ⟨_, rfl⟩
  rw [hs, ha, hF]
  clear hs ha hF
  by_cases h : F = f
  · subst h
    go_enter Try.func59, Try.ntmps59
    go_wp2
    go_ret
    exact ⟨by first | rfl | simp, Below.alloc (Below.refl _ _) (Nat.le_refl _) _⟩
  · have e : ((F : Int) == (f : Int)) = false := by rw [beq_eq_false_iff_ne]; omega
    have e2 : ¬ ((F : Int) = (f : Int)) := by omega
    go_enter Try.func59, Try.ntmps59
    go_wp2
    go_ret
    exact ⟨by first | rfl | simp [h], Below.alloc (Below.refl _ _) (Nat.le_refl _) _⟩
set_option maxHeartbeats 2000000 in
set_option maxRecDepth 100000 in
theorem idx_del (Q : List Dk.Piece) (f cb gq n cap : Nat) (qa : Option Addr) (w : World) (hQ : PR w qa gq Q) (hn : Q.length = n) (hN : n ≤ 1000000) (hc : w.cell? ⟨cb, 0, none⟩ = some (.int .i64 (f : Int))) (hb : cb < w.heap.size) :
    Calls Try.prog 57 #[.slice qa n cap, .func (.func 59) #[] #[.pointer (some ⟨cb, 0, none⟩)]] w fun e w' => ∃ r, e = .returned (.int .i64 r) ∧ IsIdx Q f r ∧ Below w.heap.size w w' := by
  have HQ := Lib.hid hQ
  have HN := Lib.hid hn
  have HC := Lib.hid hc
  clear hQ hn hc
  go_enter Try.func57, Try.ntmps57
  go_wp2
  go_loopw [5, 8] (fun x5 i wr => ∃ j : Nat, i = .int .i64 j ∧ j ≤ n ∧ Hid (∀ p' ∈ Q.take j, p'.f ≠ f) ∧ Hid (Below w.heap.size w wr)) (fun _ i _ => n - (intOf i).toNat)
  case atStart => exact ⟨0, rfl, Nat.zero_le _, (fun p hp => by simp at hp), Below.refl _ _⟩
  case round =>
    obtain ⟨j, rfl, hj, hP, hB⟩ := hrel
    by_cases hlt : j < n
    · obtain ⟨p, hp⟩ : ∃ p, Q[j]? = some p := ⟨_, List.getElem?_eq_getElem (by rw [HN.out]; exact hlt)⟩
      obtain rfl := HQ.out.addr (by rw [HN.out]; omega)
      obtain ⟨c0, c1, c2⟩ := (HQ.out.below hB.out).c j p hp
      have CL := Lib.hid (del_del p cb f wr ((hB.out.cell (p := ⟨cb, 0, none⟩) hb).trans HC.out) (Nat.lt_of_lt_of_le hb hB.out.size))
      have HP := Lib.hid hp
      have HT := Lib.hid (show Q.take (j + 1) = Q.take j ++ [p] from by rw [List.take_add_one, hp]; rfl)
      clear hp
      by_cases hpf : p.f = f
      · have HF := Lib.hid hpf
        have hd : decide (p.f = f) = true := by simpa using hpf
        rw [hd] at CL
        clear hpf hd
        go_wp2_with (go_at_call 59; refine CL.out.mono ?_; rintro _ w1 ⟨rfl, hb1⟩; have HB1 := Lib.hid hb1; clear hb1)
        go_ret
        exact ⟨_, rfl, .inr ⟨j, p, rfl, HP.out, HF.out, hP.out⟩, hB.out.trans (HB1.out.mono hB.out.size)⟩
      · have HF := Lib.hid hpf
        have hd : decide (p.f = f) = false := by simpa using hpf
        rw [hd] at CL
        clear hpf hd
        go_wp2_with (go_at_call 59; refine CL.out.mono ?_; rintro _ w1 ⟨rfl, hb1⟩; have HB1 := Lib.hid hb1; clear hb1)
        go_roundw
        case rel => exact ⟨j + 1, by go_num, by omega, (fun p' hp' => by
          rw [HT.out] at hp'
          rcases List.mem_append.1 hp' with h | h
          · exact hP.out p' h
          · simp at h; subst h; exact HF.out), hB.out.trans (HB1.out.mono hB.out.size)⟩
        case measure => simp [intOf]; omega
    · go_wp2
      go_ret
      exact ⟨_, rfl, .inl ⟨rfl, fun p hp => hP.out p (by rw [List.take_of_length_le (by rw [HN.out]; omega)]; exact hp)⟩, hB.out⟩
set_option maxHeartbeats 1000000 in
set_option maxRecDepth 100000 in
theorem del_turn (p : Dk.Piece) (cb f : Nat) (w : World) (hc : w.cell? ⟨cb, 0, none⟩ = some (.int .i64 (f : Int))) (hb : cb < w.heap.size) :
    Calls Try.prog 48 #[.agg #[.int .i64 (p.f : Int), .int .i64 (p.at_ : Int), .string (enc p.s)], .pointer (some ⟨cb, 0, none⟩)] w fun e w' => e = .returned (.bool (decide (p.f = f))) ∧ Below w.heap.size w w' := by
  have hne : cb ≠ w.heap.size := by omega
  obtain ⟨s, hs⟩ : ∃ s, enc p.s = s := ⟨_, rfl⟩
  obtain ⟨a, ha⟩ : ∃ a, (p.at_ : Int) = a := ⟨_, rfl⟩
  obtain ⟨F, hF⟩ : ∃ a, p.f = a := ⟨_, rfl⟩
  rw [hs, ha, hF]
  clear hs ha hF
  by_cases h : F = f
  · subst h
    go_enter Try.func48, Try.ntmps48
    go_wp2
    go_ret
    exact ⟨by first | rfl | simp, Below.alloc (Below.refl _ _) (Nat.le_refl _) _⟩
  · have e : ((F : Int) == (f : Int)) = false := by rw [beq_eq_false_iff_ne]; omega
    have e2 : ¬ ((F : Int) = (f : Int)) := by omega
    go_enter Try.func48, Try.ntmps48
    go_wp2
    go_ret
    exact ⟨by first | rfl | simp [h], Below.alloc (Below.refl _ _) (Nat.le_refl _) _⟩
set_option maxHeartbeats 2000000 in
set_option maxRecDepth 100000 in
theorem idx_turn (Q : List Dk.Piece) (f cb gq n cap : Nat) (qa : Option Addr) (w : World) (hQ : PR w qa gq Q) (hn : Q.length = n) (hN : n ≤ 1000000) (hc : w.cell? ⟨cb, 0, none⟩ = some (.int .i64 (f : Int))) (hb : cb < w.heap.size) :
    Calls Try.prog 57 #[.slice qa n cap, .func (.func 48) #[] #[.pointer (some ⟨cb, 0, none⟩)]] w fun e w' => ∃ r, e = .returned (.int .i64 r) ∧ IsIdx Q f r ∧ Below w.heap.size w w' := by
  have HQ := Lib.hid hQ
  have HN := Lib.hid hn
  have HC := Lib.hid hc
  clear hQ hn hc
  go_enter Try.func57, Try.ntmps57
  go_wp2
  go_loopw [5, 8] (fun x5 i wr => ∃ j : Nat, i = .int .i64 j ∧ j ≤ n ∧ Hid (∀ p' ∈ Q.take j, p'.f ≠ f) ∧ Hid (Below w.heap.size w wr)) (fun _ i _ => n - (intOf i).toNat)
  case atStart => exact ⟨0, rfl, Nat.zero_le _, (fun p hp => by simp at hp), Below.refl _ _⟩
  case round =>
    obtain ⟨j, rfl, hj, hP, hB⟩ := hrel
    by_cases hlt : j < n
    · obtain ⟨p, hp⟩ : ∃ p, Q[j]? = some p := ⟨_, List.getElem?_eq_getElem (by rw [HN.out]; exact hlt)⟩
      obtain rfl := HQ.out.addr (by rw [HN.out]; omega)
      obtain ⟨c0, c1, c2⟩ := (HQ.out.below hB.out).c j p hp
      have CL := Lib.hid (del_turn p cb f wr ((hB.out.cell (p := ⟨cb, 0, none⟩) hb).trans HC.out) (Nat.lt_of_lt_of_le hb hB.out.size))
      have HP := Lib.hid hp
      have HT := Lib.hid (show Q.take (j + 1) = Q.take j ++ [p] from by rw [List.take_add_one, hp]; rfl)
      clear hp
      by_cases hpf : p.f = f
      · have HF := Lib.hid hpf
        have hd : decide (p.f = f) = true := by simpa using hpf
        rw [hd] at CL
        clear hpf hd
        go_wp2_with (go_at_call 48; refine CL.out.mono ?_; rintro _ w1 ⟨rfl, hb1⟩; have HB1 := Lib.hid hb1; clear hb1)
        go_ret
        exact ⟨_, rfl, .inr ⟨j, p, rfl, HP.out, HF.out, hP.out⟩, hB.out.trans (HB1.out.mono hB.out.size)⟩
      · have HF := Lib.hid hpf
        have hd : decide (p.f = f) = false := by simpa using hpf
        rw [hd] at CL
        clear hpf hd
        go_wp2_with (go_at_call 48; refine CL.out.mono ?_; rintro _ w1 ⟨rfl, hb1⟩; have HB1 := Lib.hid hb1; clear hb1)
        go_roundw
        case rel => exact ⟨j + 1, by go_num, by omega, (fun p' hp' => by
          rw [HT.out] at hp'
          rcases List.mem_append.1 hp' with h | h
          · exact hP.out p' h
          · simp at h; subst h; exact HF.out), hB.out.trans (HB1.out.mono hB.out.size)⟩
        case measure => simp [intOf]; omega
    · go_wp2
      go_ret
      exact ⟨_, rfl, .inl ⟨rfl, fun p hp => hP.out p (by rw [List.take_of_length_le (by rw [HN.out]; omega)]; exact hp)⟩, hB.out⟩
end Go.Proofs.Ytbelmadbjiiodaa
namespace Go.Proofs.Ytbelmadbjiiodaa
open Go Go.RowKit
theorem pv_set (p : Dk.Piece) : ∀ (L : List Dk.Piece) (i : Nat), i < L.length → (((pv L).set (i * 3) (.int .i64 (p.f : Int))).set (i * 3 + 1) (.int .i64 (p.at_ : Int))).set (i * 3 + 2) (.string (enc p.s)) = pv (L.set i p)
  | [], i, h => by simp at h
  | x :: L, 0, _ => by simp [pv_cons, pc]
  | x :: L, i + 1, h => by
    have ih := pv_set p L i (by simpa using h)
    have e : ∀ j, (i + 1) * 3 + j = (i * 3 + j) + 3 := fun j => by omega
    rw [List.set_cons_succ, pv_cons, pv_cons, ← ih]
    have e0 : (i + 1) * 3 = i * 3 + 3 := by omega
    rw [e 1, e 2, e0]
    simp [pc]
theorem set_plain {w : World} {g : Nat} {cur : Array Value} {t : TypeId} (h : w.heap[g]? = some (.cells cur t (0, 0))) (i : Nat) (v : Value) : (w.setCell ⟨g, i, none⟩ v).heap[g]? = some (.cells (cur.toList.set i v).toArray t (0, 0)) :=
  Blk.set (L := cur.toList) (by unfold Blk; simpa using h) i v
theorem own_set3 {w : World} {base gq cap : Nat} {L : List Dk.Piece} (h : w.ownsRow base 57 3 (.slice (some ⟨gq, 0, none⟩) L.length cap) L.length (pv L)) (i : Nat) (hi : i < L.length) (p : Dk.Piece) :
    (((w.setCell ⟨gq, i * 3, none⟩ (.int .i64 (p.f : Int))).setCell ⟨gq, i * 3 + 1, none⟩ (.int .i64 (p.at_ : Int))).setCell ⟨gq, i * 3 + 2, none⟩ (.string (enc p.s))).ownsRow base 57 3 (.slice (some ⟨gq, 0, none⟩) L.length cap) (L.set i p).length (pv (L.set i p)) := by
  rcases h.2 with ⟨h0, _⟩ | ⟨g', cap', cur, hv, hbg, hg, hnc, hcm, hcs, htake⟩
  · cases h0
  injection hv with hv1 _ hv2
  injection hv1 with hv1
  injection hv1 with hv1
  subst hv1
  subst hv2
  have h3 := set_plain (set_plain (set_plain hg (i * 3) (.int .i64 (p.f : Int))) (i * 3 + 1) (.int .i64 (p.at_ : Int))) (i * 3 + 2) (.string (enc p.s))
  rw [List.length_set]
  refine ⟨by rw [pv_length, List.length_set], .inr ⟨gq, cap, _, rfl, hbg, h3, hnc, hcm, by simpa using hcs, ?_⟩⟩
  rw [← pv_set p L i hi, ← htake]
  simp only [List.take_set]
theorem grown_set {w a : World} {g : Nat} (h : w.grownBy a (some g)) (i : Nat) (v : Value) : w.grownBy (a.setCell ⟨g, i, none⟩ v) (some g) :=
  ⟨h.os, h.tape, h.output, by rw [set_size]; exact h.size, fun k hk hn => (set_other a g i k v (fun e => hn (by rw [e]))).trans (h.block k hk hn)⟩
theorem grown_below {w a b : World} {r : Option Nat} (h : w.grownBy a r) (k : Below a.heap.size a b) : w.grownBy b r :=
  ⟨k.os.trans h.os, k.tape.trans h.tape, k.output.trans h.output, Nat.le_trans h.size k.size, fun i hi hn => (k.block i (Nat.lt_of_lt_of_le hi h.size)).trans (h.block i hi hn)⟩
theorem zeros_pv (n : Nat) : (Builtin.zeroCells (Value.agg #[.int .i64 0, .int .i64 0, .string ⟨#[]⟩]).cells n).toList = pv (List.replicate n ⟨0, 0, []⟩) := by
  have hz : (Value.agg #[.int .i64 0, .int .i64 0, .string ⟨#[]⟩]).cells = #[.int .i64 0, .int .i64 0, .string ⟨#[]⟩] := rfl
  rw [hz]
  refine List.ext_getElem? fun i => ?_
  by_cases h : i < n * 3
  · have h1 : (List.replicate n (⟨0, 0, []⟩ : Dk.Piece))[i / 3]? = some ⟨0, 0, []⟩ := by rw [List.getElem?_replicate, if_pos (by omega)]
    have h2 : (pc ⟨0, 0, []⟩)[i % 3]? = some ((#[.int .i64 0, .int .i64 0, .string ⟨#[]⟩] : Array Value)[i % 3]!) := by
      have : i % 3 = 0 ∨ i % 3 = 1 ∨ i % 3 = 2 := by omega
      rcases this with e | e | e <;> rw [e] <;> rfl
    have h3 := pv_at _ _ _ _ _ h1 h2
    rw [show i / 3 * 3 + i % 3 = i by omega] at h3
    rw [h3]
    simp [Builtin.zeroCells, h]
  · rw [List.getElem?_eq_none (by simp [Builtin.zeroCells]; omega), List.getElem?_eq_none (by rw [pv_length, List.length_replicate]; omega)]
set_option maxRecDepth 100000 in
theorem clear_run (w : World) {base gq cap : Nat} {L : List Dk.Piece} (ty : TypeId) (h : w.ownsRow base 57 3 (.slice (some ⟨gq, 0, none⟩) L.length cap) L.length (pv L)) (i m c : Nat) (dp : Option Addr) (hi : i ≤ L.length) (hm : m = L.length - i) (hdp : 0 < m → dp = some ⟨gq, i * 3, none⟩) :
    ∃ w', (Builtin.clear_ #[47] ty #[.slice dp m c]).run Try.prog w = .ok (.tuple #[]) w' ∧ w'.ownsRow base 57 3 (.slice (some ⟨gq, 0, none⟩) i cap) (L.take i).length (pv (L.take i)) ∧ w.grownBy w' (some gq) ∧ w'.heap.size = w.heap.size := by
  obtain ⟨i0, hi0, hz, hsize, hby⟩ := info_parts infoP
  rcases h.2 with ⟨h0, _⟩ | ⟨g', cap', cur, hv, hbg, hg, hnc, hcm, hcs, htake⟩
  · cases h0
  injection hv with hv1 _ hv2
  injection hv1 with hv1
  injection hv1 with hv1
  subst hv1
  subst hv2
  have hlt : (L.take i).length = i := by rw [List.length_take]; omega
  by_cases h0 : m = 0
  · refine ⟨w, ?_, ⟨by rw [pv_length], .inr ⟨gq, cap, cur, by rw [hlt], hbg, hg, by omega, hcm, hcs, ?_⟩⟩, grown_refl _ _, rfl⟩
    · subst h0
      cases dp <;> simp [Builtin.clear_, run_underlying (P := Try.prog) Try.underlying47]
    · have hL : L.take i = L := List.take_of_length_le (by omega)
      rw [hL, htake]
  · obtain rfl := hdp (by omega)
    obtain ⟨m', rfl⟩ : ∃ m', m = m' + 1 := ⟨m - 1, by omega⟩
    have hzl : (pv (List.replicate (m' + 1) ⟨0, 0, []⟩)).length = (m' + 1) * 3 := by rw [pv_length, List.length_replicate]
    have hst := run_storeCells_at Try.prog gq (i * 3) 57 (pv (List.replicate (m' + 1) ⟨0, 0, []⟩)) 0 cur w hg (by rw [hzl, hcs]; omega) (pv_cells _)
    rw [hzl] at hst
    simp only [Nat.add_zero] at hst
    obtain ⟨C, hC⟩ : ∃ C, cur.toList.take (i * 3) ++ pv (List.replicate (m' + 1) ⟨0, 0, []⟩) ++ cur.toList.drop (i * 3 + (m' + 1) * 3) = C := ⟨_, rfl⟩
    rw [hC] at hst
    refine ⟨w.setRow gq C.toArray, ?_, ⟨by rw [pv_length], .inr ⟨gq, cap, C.toArray, by rw [hlt], hbg, setRow_heap w gq cur C.toArray 57 _ hg, by omega, hcm, ?_, ?_⟩⟩, ⟨rfl, rfl, rfl, by simp, fun k _ hk => setRow_other w gq k _ (fun e => hk (by rw [e]))⟩, by simp⟩
    · simp [Builtin.clear_, run_underlying (P := Try.prog) Try.underlying47, zeroValue, typeInfo, hi0, hz]
      have := zeros_pv (m' + 1)
      rw [this, hst]
      simp [Result.andThen]
    · rw [← hC]
      simp only [List.size_toArray, List.length_append, List.length_take, List.length_drop, Array.length_toList, hzl, hcs]
      omega
    · rw [← hC, hlt, List.append_assoc, List.take_append_of_le_length (by rw [List.length_take, Array.length_toList, hcs]; omega), List.take_take, Nat.min_self, ← pv_take, ← htake, List.take_take]
      congr 1
      omega
theorem wpList_clear {w : World} {ops : Array Oper} {o : Oper} {a : Act} {Q : Exit → Act → World → Prop} {rest : List Oper} (hgd : o.guard = none) (x : Operand)
    (ho : o.op = .call { callee := .builtin .clear, args := #[x], argTypes := #[47] }) {base gq cap : Nat} {L : List Dk.Piece}
    (h : w.ownsRow base 57 3 (.slice (some ⟨gq, 0, none⟩) L.length cap) L.length (pv L)) (i m c : Nat) (dp : Option Addr) (hx : a.eval x = .slice dp m c) (hi : i ≤ L.length) (hm : m = L.length - i) (hdp : 0 < m → dp = some ⟨gq, i * 3, none⟩)
    (hk : ∀ w', Hid (w'.ownsRow base 57 3 (.slice (some ⟨gq, 0, none⟩) i cap) (L.take i).length (pv (L.take i))) → Hid (w.grownBy w' (some gq)) → wpList Try.prog ops Q rest (a.put o.dst (.tuple #[])) w') : wpList Try.prog ops Q (o :: rest) a w := by
  refine wpList_plain hgd fun K hK => ?_
  obtain ⟨w', hr, h2, h3, h4⟩ := clear_run w o.type h i m c dp hi hm hdp
  unfold Oper.wp execOp
  simp only [ho, resolve, invoke, builtin, Sem.run_bind, Sem.run_pure, Result.andThen_ok, List.map_toArray, List.map_cons, List.map_nil, hx, hr]
  exact hK _ _ (hk w' h2 h3)
namespace Dk
theorem without_snoc (q : List Piece) (f j : Nat) (p : Piece) (hp : q[j]? = some p) : without (q.take (j + 1)) f = if p.f = f then without (q.take j) f else without (q.take j) f ++ [p] := by
  rw [List.take_add_one, hp]
  unfold without
  rw [List.filter_append]
  by_cases h : p.f = f
  · simp [h]
  · simp [h]
theorem without_none (q : List Piece) (f : Nat) (h : ∀ p ∈ q, p.f ≠ f) : without q f = q := by
  unfold without
  rw [List.filter_eq_self]
  intro p hp
  simpa using h p hp
/-- Behind some rounds of the deletion. -/
structure Deleting (Q L : List Piece) (f i j : Nat) : Prop where
  len : L.length = Q.length
  head : L.take i = without (Q.take j) f
  tail : L.drop j = Q.drop j
  lt : i < j
theorem Deleting.start {Q : List Piece} {f j : Nat} {p : Piece} (hp : Q[j]? = some p) (hf : p.f = f) (h : ∀ p' ∈ Q.take j, p'.f ≠ f) : Deleting Q Q f j (j + 1) :=
  ⟨rfl, by rw [without_snoc Q f j p hp, if_pos hf, without_none _ _ h], rfl, by omega⟩
theorem Deleting.at_ {Q L : List Piece} {f i j : Nat} (h : Deleting Q L f i j) : L[j]? = Q[j]? := by
  have := congrArg (fun l : List Piece => l[0]?) h.tail
  simpa [List.getElem?_drop] using this
theorem Deleting.drop {Q L : List Piece} {f i j : Nat} (h : Deleting Q L f i j) {p : Piece} (hp : Q[j]? = some p) (hf : p.f = f) : Deleting Q L f i (j + 1) :=
  ⟨h.len, by rw [without_snoc Q f j p hp, if_pos hf]; exact h.head, by rw [← List.drop_drop, h.tail, List.drop_drop], by have := h.lt; omega⟩
theorem Deleting.keep {Q L : List Piece} {f i j : Nat} (h : Deleting Q L f i j) {p : Piece} (hp : Q[j]? = some p) (hf : p.f ≠ f) : Deleting Q (L.set i p) f (i + 1) (j + 1) := by
  have hj := (List.getElem?_eq_some_iff.1 hp).1
  have h1 := h.lt
  have h2 := h.len
  refine ⟨by rw [List.length_set]; exact h.len, ?_, ?_, by omega⟩
  · rw [without_snoc Q f j p hp, if_neg hf, ← h.head, List.take_add_one, List.take_set_of_le (Nat.le_refl _), List.getElem?_set_self (by omega)]; rfl
  · rw [List.drop_set_of_lt (by omega), ← List.drop_drop, h.tail, List.drop_drop]
end Dk
end Go.Proofs.Ytbelmadbjiiodaa
namespace Go.Proofs.Ytbelmadbjiiodaa
open Go Go.RowKit
theorem PR.of_own' {w : World} {base : Nat} {gq n cap : Nat} {L : List Dk.Piece} (hn : L.length = n) (h : w.ownsRow base 57 3 (.slice (some ⟨gq, 0, none⟩) n cap) L.length (pv L)) : PR w (some ⟨gq, 0, none⟩) gq L := by
  subst hn
  obtain ⟨qa, gq', cap', hv, hp, _, _, hq⟩ := PR.of_own h
  injection hv with h1 _ h2
  subst h1
  rcases hq with hq | hq
  · cases hq
  · injection hq with hq
    injection hq with hq
    subst hq
    exact hp
theorem own_free {w : World} {base : Nat} {e : TypeId} {size gq n m cap : Nat} {xs : List Value} (h : w.ownsRow base e size (.slice (some ⟨gq, 0, none⟩) m cap) n xs) (i : Nat) : w.frozen? ⟨gq, i, none⟩ = false := by
  rcases h.2 with ⟨h0, _⟩ | ⟨g', cap', cur, hv, hbg, hg, _⟩
  · cases h0
  · injection hv with hv1 _ hv2
    injection hv1 with hv1
    injection hv1 with hv1
    subst hv1
    simp [World.frozen?, hg]
theorem made3 {w w2 : World} {a b c : Value} {t : TypeId} (h : Below (w.alloc (.cells #[a, b, c] t)).heap.size (w.alloc (.cells #[a, b, c] t)) w2) :
    w2.cell? ⟨w.heap.size, 0, none⟩ = some a ∧ w2.cell? ⟨w.heap.size, 1, none⟩ = some b ∧ w2.cell? ⟨w.heap.size, 2, none⟩ = some c := by
  have hB : Blk w2 w.heap.size t [a, b, c] := (h.block _ (by rw [alloc_size]; omega)).trans (Blk.made w #[a, b, c] t)
  exact ⟨hB.cell rfl, hB.cell rfl, hB.cell rfl⟩
set_option maxHeartbeats 4000000 in
set_option maxRecDepth 100000 in
theorem delete_any (Q : List Dk.Piece) (f cb : Nat) (v : Value) (w : World) (h : w.ownsRow 0 57 3 v Q.length (pv Q)) (hN : Q.length ≤ 1000000) (hc : w.cell? ⟨cb, 0, none⟩ = some (.int .i64 (f : Int))) (hb : cb < w.heap.size) (hcb : v.ownBlock ≠ some cb) :
    Calls Try.prog 58 #[v, .func (.func 59) #[] #[.pointer (some ⟨cb, 0, none⟩)]] w fun e w' =>
      ∃ v', e = .returned v' ∧ w'.ownsRow 0 57 3 v' (Dk.without Q f).length (pv (Dk.without Q f)) ∧ w.grownBy w' v.ownBlock ∧ v'.ownBlock = v.ownBlock := by
  obtain ⟨qa, gq, cap, rfl, hP, hcap, hcm, _⟩ := PR.of_own h
  obtain ⟨n, hn⟩ : ∃ n, Q.length = n := ⟨_, rfl⟩
  have HN := Lib.hid hn
  have HO := Lib.hid h
  have HP := Lib.hid hP
  have C1 := Lib.hid (idx_del Q f cb gq n cap qa w hP hn (by omega) hc hb)
  have HC := Lib.hid hc
  have HCB := Lib.hid hcb
  rw [hn] at hcap hN HO HCB ⊢
  clear h hP hc hcb hn
  go_enter Try.func58, Try.ntmps58
  go_wp2_with fail
  refine C1.out.mono ?_
  rintro _ w1 ⟨r, rfl, hI, hb1⟩
  have HB1 := Lib.hid hb1
  clear hb1
  rcases hI with ⟨rfl, hnone⟩ | ⟨j0, p0, rfl, hp0, hf0, hall⟩
  · have HW := Lib.hid (Dk.without_none Q f hnone)
    clear hnone
    go_wp2
    go_ret
    refine ⟨_, rfl, ?_, grown_below (grown_refl w _) HB1.out, rfl⟩
    rw [HW.out, HN.out]
    exact own_same HO.out fun b hb => HB1.out.block b (own_lt HO.out hb)
  · have hj0 : j0 < n := by have := (List.getElem?_eq_some_iff.1 hp0).1; have := HN.out; omega
    have HS := Lib.hid (Dk.Deleting.start hp0 hf0 hall)
    clear hp0 hf0 hall
    obtain rfl := HP.out.addr (by rw [HN.out]; omega)
    have hne : cb ≠ gq := fun e => HCB.out (by rw [e]; rfl)
    have hm1 : ((j0 : Int) == -1) = false := by rw [beq_eq_false_iff_ne]; omega
    go_wp2
    go_loopw [5, 6, 7] (fun x5 x6 x7 wr => ∃ (i j : Nat) (L : List Dk.Piece), x5 = .int .i64 i ∧ x6 = .int .i64 j ∧ i < j ∧ j ≤ n ∧ Hid (Dk.Deleting Q L f i j) ∧ Hid (wr.ownsRow 0 57 3 (.slice (some ⟨gq, 0, none⟩) n cap) L.length (pv L)) ∧ Hid (w.grownBy wr (some gq))) (fun _ x6 _ _ => n - (intOf x6).toNat)
    case atStart => exact ⟨j0, j0 + 1, Q, rfl, by go_num, by omega, by omega, HS.out, by rw [HN.out]; exact own_same HO.out fun b hb => HB1.out.block b (own_lt HO.out hb), grown_below (grown_refl w _) HB1.out⟩
    case round =>
      obtain ⟨i, j, L, rfl, rfl, hij, hj, hD, hO, hG⟩ := hrel
      have hL : L.length = n := hD.out.len.trans HN.out
      by_cases hlt : j < n
      · obtain ⟨p, hp⟩ : ∃ p, Q[j]? = some p := ⟨_, List.getElem?_eq_getElem (by rw [HN.out]; exact hlt)⟩
        obtain ⟨c0, c1, c2⟩ := (PR.of_own' hL hO.out).c j p (hD.out.at_.trans hp)
        have hwl : w.heap.size ≤ wr.heap.size := hG.out.size
        have hcw : wr.cell? ⟨cb, 0, none⟩ = some (.int .i64 (f : Int)) := (World.cell?_of_block (a := ⟨cb, 0, none⟩) (hG.out.block cb hb (fun e => hne (by injection e)))).trans HC.out
        have hgl : gq < wr.heap.size := own_lt hO.out rfl
        have CL := Lib.hid (fun o : Obj => del_del p cb f (wr.alloc o) ((World.cell?_of_block (a := ⟨cb, 0, none⟩) (heap_alloc_old wr o (by show cb < wr.heap.size; omega))).trans hcw) (by rw [alloc_size]; omega))
        obtain ⟨pi, hpi⟩ : ∃ pi, L[i]? = some pi := ⟨_, List.getElem?_eq_getElem (by omega)⟩
        have KEY := Lib.hid (fun (w2 : World) (o : Obj) (hb2 : Below (wr.alloc o).heap.size (wr.alloc o) w2) => show (w2.ownsRow 0 57 3 (.slice (some ⟨gq, 0, none⟩) n cap) L.length (pv L)) ∧ w.grownBy w2 (some gq) from
          ⟨own_same hO.out fun b hb => by
            have hb' : b < wr.heap.size := own_lt hO.out hb
            exact (hb2.block b (by rw [alloc_size]; omega)).trans (heap_alloc_old wr o hb'), grown_below (grown_two hG.out (World.grownBy_alloc wr o (some gq)) (.inl rfl)) hb2⟩)
        have HPI := Lib.hid hpi
        have HPp := Lib.hid hp
        have HCW := Lib.hid hcw
        have HL := Lib.hid hL
        have hw7 : wr.heap.size ≠ gq := by omega
        clear hp hcw hL hpi
        by_cases hpf : p.f = f
        · have HF := Lib.hid hpf
          have hd : decide (p.f = f) = true := by simpa using hpf
          rw [hd] at CL
          clear hpf hd
          go_wp2_with (go_at_call 59; refine (CL.out _).mono ?_; rintro _ w2 ⟨rfl, hb2⟩; have HK2 := Lib.hid (KEY.out _ _ hb2); clear hb2)
          go_roundw
          case rel => exact ⟨i, j + 1, L, rfl, by go_num, by omega, by omega, hD.out.drop HPp.out HF.out, HK2.out.1, HK2.out.2⟩
          case measure => simp [intOf]; omega
        · have HF := Lib.hid hpf
          have hd : decide (p.f = f) = false := by simpa using hpf
          rw [hd] at CL
          clear hpf hd
          go_wp2_with (go_at_call 59; refine (CL.out _).mono ?_; rintro _ w2 ⟨rfl, hb2⟩; have HK2 := Lib.hid (KEY.out _ _ hb2); obtain ⟨d0, d1, d2⟩ := made3 hb2; obtain ⟨e0, e1, e2⟩ := (PR.of_own' HL.out HK2.out.1).c i _ HPI.out; have f0 := own_free HK2.out.1 (i * 3); have f1 := own_free HK2.out.1 (i * 3 + 1); have f2 := own_free HK2.out.1 (i * 3 + 2); clear hb2)
          go_roundw
          case rel => exact ⟨i + 1, j + 1, L.set i p, by go_num, by go_num, by omega, by omega, hD.out.keep HPp.out HF.out, (by
            have h1 := HK2.out.1
            rw [← HL.out] at h1 ⊢
            have h2 := own_set3 h1 i (by rw [HL.out]; omega) p
            exact h2), grown_set (grown_set (grown_set HK2.out.2 _ _) _ _) _ _⟩
          case measure => simp [intOf]; omega
      · obtain rfl : j = n := by omega
        have HH := Lib.hid hD.out.head
        have HO1 := Lib.hid (show wr.ownsRow 0 57 3 (.slice (some ⟨gq, 0, none⟩) L.length cap) L.length (pv L) from by have h9 := hO.out; rw [← hL] at h9; exact h9)
        have HL := Lib.hid hL
        clear hL
        go_wp2_with (refine wpList_clear rfl (.tmp 38) rfl HO1.out i _ _ _ rfl (by rw [HL.out]; omega) (by rw [HL.out]) (by intro hp; first | rfl | (rw [if_neg (by omega)]) | (split <;> first | rfl | (exfalso; omega))) ?_; intro w3 HO3 HG3)
        go_ret
        refine ⟨_, rfl, ?_, grown_two hG.out HG3.out (.inl rfl), rfl⟩
        have h3 := HO3.out
        rw [HH.out, List.take_of_length_le (by rw [HN.out]; omega)] at h3
        exact h3
end Go.Proofs.Ytbelmadbjiiodaa
namespace Go.Proofs.Ytbelmadbjiiodaa
open Go Go.RowKit
namespace Dk
def forgot (D : Disk) (f : Nat) : Disk := { D with queue := without D.queue f }
def filing (D : Disk) (f j : Nat) : Disk := { D with last := setLast D.last f (over f (D.last f) (D.queue.take j)) }
def settled (D : Disk) (f : Nat) : Disk := { D with last := setLast D.last f (read D f), queue := without D.queue f }
theorem setLast_self (l : Nat → B) (f : Nat) : setLast l f (l f) = l := by
  funext g; unfold setLast
  by_cases h : g = f
  · rw [if_pos h, h]
  · rw [if_neg h]
theorem filing_zero (D : Disk) (f : Nat) : filing D f 0 = D := by
  have : setLast D.last f (over f (D.last f) (D.queue.take 0)) = D.last := setLast_self D.last f
  unfold filing; rw [this]
theorem over_snoc (f : Nat) (s : B) (q : List Piece) (j : Nat) (p : Piece) (hp : q[j]? = some p) : over f s (q.take (j + 1)) = if p.f = f then put (over f s (q.take j)) p.at_ p.s else over f s (q.take j) := by
  rw [List.take_add_one, hp]
  unfold over
  rw [List.foldl_append]
  rfl
theorem filing_last (D : Disk) (f j : Nat) : (filing D f j).last f = over f (D.last f) (D.queue.take j) := by
  unfold filing setLast; simp
theorem setLast_twice (l : Nat → B) (f : Nat) (a b : B) : setLast (setLast l f a) f b = setLast l f b := by
  funext g; unfold setLast
  by_cases h : g = f
  · rw [if_pos h, if_pos h]
  · rw [if_neg h, if_neg h, if_neg h]
theorem filing_put (D : Disk) (f j : Nat) (p : Piece) (hp : D.queue[j]? = some p) (hf : p.f = f) : filing D f (j + 1) = { filing D f j with last := setLast (filing D f j).last f (put ((filing D f j).last f) p.at_ p.s) } := by
  rw [filing_last]
  have : setLast D.last f (over f (D.last f) (D.queue.take (j + 1))) = setLast (filing D f j).last f (put (over f (D.last f) (D.queue.take j)) p.at_ p.s) := by
    rw [over_snoc f _ _ j p hp, if_pos hf]
    unfold filing
    rw [setLast_twice]
  unfold filing at *
  rw [this]
theorem filing_skip (D : Disk) (f j : Nat) (p : Piece) (hp : D.queue[j]? = some p) (hf : p.f ≠ f) : filing D f (j + 1) = filing D f j := by
  unfold filing
  rw [over_snoc f _ _ j p hp, if_neg hf]
theorem filing_all (D : Disk) (f : Nat) : forgot (filing D f D.queue.length) f = settled D f := by
  unfold forgot filing settled read
  rw [List.take_length]
end Dk
theorem below_new (w : World) (o : Obj) : Below w.heap.size w (w.alloc o) := Below.alloc (Below.refl _ _) (Nat.le_refl _) o
set_option maxHeartbeats 2000000 in
set_option maxRecDepth 100000 in
theorem forget_any (g : Nat) (vs : Nat → Value) (q k : Value) (D : Dk.Disk) (f : Nat) (w : World) (h : DiskV w g vs q k D) :
    Calls Try.prog 49 #[.pointer (some ⟨g, 0, none⟩), .int .i64 (f : Int)] w fun e w' => (∃ v, e = .returned v) ∧ (∃ q', DiskV w' g vs q' k (Dk.forgot D f)) ∧ Mv g w w' := by
  have c12 := h.cq
  have ha := h.alloc (.cells #[.int .i64 (f : Int)] 3)
  have hlt := h.lt
  have hne : g ≠ w.heap.size := by omega
  have C := Lib.hid (delete_any D.queue f w.heap.size q (w.alloc (.cells #[.int .i64 (f : Int)] 3)) ha.pend h.good.q ((Blk.made w #[.int .i64 (f : Int)] 3).cell rfl) (by rw [alloc_size]; omega) (fun e => by have := own_lt h.pend e; omega))
  have KEY := Lib.hid (fun (w1 : World) (v' : Value) (ho : w1.ownsRow 0 57 3 v' (Dk.without D.queue f).length (pv (Dk.without D.queue f))) (hg : (w.alloc (.cells #[.int .i64 (f : Int)] 3)).grownBy w1 q.ownBlock) (hs : v'.ownBlock = q.ownBlock) =>
    show Hid (DiskV (w1.setCell ⟨g, 12, none⟩ v') g vs v' k (Dk.forgot D f) ∧ Mv g w (w1.setCell ⟨g, 12, none⟩ v')) ∧ w1.frozen? ⟨g, 12, none⟩ = false ∧ w1.cell? ⟨g, 12, none⟩ = some q ∧ ∃ pa n c, v' = .slice pa n c from by
      obtain ⟨a, b⟩ := ha.setQ hg ho (fun x hx => .inl (by rw [← hs]; exact hx)) (fun p hp => h.good.pcs p ((List.mem_filter.1 hp).1)) (Nat.le_trans (List.length_filter_le _ _) h.good.q)
      have hgg : Blk w1 g _ _ := (hg.block g (by rw [alloc_size]; omega) (fun e => (ha.fq e.symm).2 rfl)).trans ha.blk
      exact ⟨⟨a, (Mv.of_below (below_new w _) hlt).trans b⟩, hgg.free 12, hgg.cell rfl, own_slice ho⟩)
  clear h ha
  go_enter Try.func49, Try.ntmps49
  go_wp2_with (go_at_call 58; refine C.out.mono ?_; rintro _ w1 ⟨v1, rfl, ho, hg, hs⟩; obtain ⟨HK, fr1, cc1, pa, nn, cc, rfl⟩ := KEY.out w1 v1 ho hg hs; clear ho hg hs)
  go_end0
  exact ⟨⟨_, rfl⟩, ⟨_, HK.out.1⟩, HK.out.2⟩
set_option maxHeartbeats 4000000 in
set_option maxRecDepth 100000 in
theorem settle_any (g : Nat) (vs : Nat → Value) (q k : Value) (D : Dk.Disk) (f : Nat) (hf : f < 12) (w : World) (h : DiskV w g vs q k D) :
    Calls Try.prog 46 #[.pointer (some ⟨g, 0, none⟩), .int .i64 (f : Int)] w fun e w' => (∃ v, e = .returned v) ∧ (∃ vs' q', DiskV w' g vs' q' k (Dk.settled D f)) ∧ Mv g w w' := by
  have c12 := h.cq
  have hgood := Lib.hid h.good
  have HALL := Lib.hid (Dk.filing_all D f)
  obtain ⟨qa, gq, qc, rfl, hqa, hql, hqc⟩ := h.qshape
  have H := Lib.hid h
  have HA := Lib.hid hqa
  clear h hqa
  obtain ⟨m, hm⟩ : ∃ m, D.queue.length = m := ⟨_, rfl⟩
  rw [hm] at HA H c12 hql HALL
  have HM := Lib.hid hm
  clear hm
  go_enter Try.func46, Try.ntmps46
  go_wp2
  go_loopw [5, 11] (fun x5 i wr => ∃ j : Nat, i = .int .i64 j ∧ j ≤ m ∧ Hid (∃ vs', DiskV wr g vs' (.slice qa m qc) k (Dk.filing D f j)) ∧ Hid (Mv g w wr)) (fun _ i _ => m - (intOf i).toNat)
  case atStart => exact ⟨0, rfl, Nat.zero_le _, ⟨vs, by rw [Dk.filing_zero]; exact H.out⟩, Mv.refl _ _⟩
  case round =>
    obtain ⟨j, rfl, hj, hD, hMv⟩ := hrel
    obtain ⟨vs1, h1⟩ := hD.out
    by_cases hlt : j < m
    · obtain ⟨p, hp⟩ : ∃ p, D.queue[j]? = some p := ⟨_, List.getElem?_eq_getElem (by rw [HM.out]; exact hlt)⟩
      obtain rfl := HA.out (by omega)
      obtain ⟨c0, c1, c2⟩ := h1.piece (j := j) (p := p) hp
      have hpg := hgood.out.pcs p (List.mem_of_getElem? hp)
      have HP := Lib.hid hp
      have H1 := Lib.hid h1
      have hlt1 : wr.heap.size ≠ g := by have := h1.lt; omega
      by_cases hpf : p.f = f
      · have HF := Lib.hid hpf
        have C2 := Lib.hid (fun o : Obj => dput_any g vs1 _ k (Dk.filing D f j) f p.at_ (enc p.s) (wr.alloc o) (h1.alloc o) hf (by rw [Lib.size_eq]; exact hpg.2.2))
        rw [hpf] at c0
        clear hD h1 hp hpg hpf
        obtain ⟨s, hs⟩ : ∃ s, enc p.s = s := ⟨_, rfl⟩
        have hs2 : s.data.toList = p.s := by rw [← hs]; rfl
        rw [hs] at c2 C2
        have HS2 := Lib.hid hs2
        obtain ⟨at_, hat⟩ : ∃ a, p.at_ = a := ⟨_, rfl⟩
        rw [hat] at c1 C2
        have HAT := Lib.hid hat
        clear hs hs2 hat
        go_wp2_with (go_at_call 32; refine (C2.out _).mono ?_; rintro _ w2 ⟨⟨v2, rfl⟩, ⟨vs2, h2⟩, hm2⟩; have H2 := Lib.hid h2; have HM2 := Lib.hid hm2; clear h2 hm2)
        go_roundw
        case rel => exact ⟨j + 1, by go_num, by omega, ⟨vs2, by rw [Dk.filing_put D f j p HP.out HF.out, ← HS2.out, HAT.out]; exact H2.out⟩, (hMv.out.alloc H.out.lt _).trans HM2.out⟩
        case measure => simp [intOf]; omega
      · have HF := Lib.hid hpf
        obtain ⟨F, hF⟩ : ∃ F, p.f = F := ⟨_, rfl⟩
        rw [hF] at c0 hpf
        have e1 : ((F : Int) == (f : Int)) = false := by rw [beq_eq_false_iff_ne]; omega
        have e2 : ¬ ((F : Int) = (f : Int)) := by omega
        clear hD h1 hp hpg hF hpf
        go_wp2
        go_roundw
        case rel => exact ⟨j + 1, by go_num, by omega, ⟨vs1, by rw [Dk.filing_skip D f j p HP.out HF.out]; exact H1.out.alloc _⟩, hMv.out.alloc H.out.lt _⟩
        case measure => simp [intOf]; omega
    · obtain rfl : j = m := by omega
      have C3 := Lib.hid (forget_any g vs1 _ k (Dk.filing D f j) f wr h1)
      rw [HALL.out] at C3
      clear h1 hD
      go_wp2_with (go_at_call 49; refine C3.out.mono ?_; rintro _ w2 ⟨⟨v2, rfl⟩, ⟨q2, h2⟩, hm2⟩; have H2 := Lib.hid h2; have HM2 := Lib.hid hm2; clear h2 hm2)
      go_end0
      exact ⟨⟨_, rfl⟩, ⟨_, _, H2.out⟩, hMv.out.trans HM2.out⟩
end Go.Proofs.Ytbelmadbjiiodaa
