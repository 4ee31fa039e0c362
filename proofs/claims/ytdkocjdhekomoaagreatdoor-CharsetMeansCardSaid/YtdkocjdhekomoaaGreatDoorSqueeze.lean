/-
  text.Squeeze: a Builder that is written in a range over the words.
-/
import Derived.Test.YtdkocjdhekomoaaGreatDoorIter
namespace Go.Proofs.YtdkocjdhekomoaaGreatDoor
open Go Go.RowKit Go.Shelf
attribute [local go_sem] Oper.semAt_some

namespace Tx
/-- What has been written when these words have come. -/
theorem joinSp_nil : joinSp [] = [] := rfl
theorem joinSp_one (x : List UInt8) : joinSp [x] = x := by simp [joinSp]
theorem joinSp_snoc (pre : List (List UInt8)) (x : List UInt8) (h : pre ≠ []) : joinSp (pre ++ [x]) = joinSp pre ++ 32 :: x := by
  cases pre with
  | nil => exact absurd rfl h
  | cons w r => simp [joinSp]
theorem joinSp_empty (pre : List (List UInt8)) (h : ∀ x ∈ pre, x ≠ []) : joinSp pre = [] ↔ pre = [] := by
  cases pre with
  | nil => simp [joinSp]
  | cons w r =>
    have := h w (by simp)
    simp [joinSp, this]
theorem words_ne (l : List UInt8) : ∀ x ∈ words l, x ≠ [] := by
  suffices H : ∀ (l acc : List UInt8), ∀ x ∈ wordsGo acc l, x ≠ [] from H l []
  intro l
  induction l with
  | nil =>
    intro acc x hx
    rw [wordsGo] at hx
    split at hx
    · cases hx
    · simp at hx; subst hx; assumption
  | cons c r ih =>
    intro acc x hx
    rw [wordsGo] at hx
    split at hx
    · split at hx
      · exact ih _ x hx
      · rcases List.mem_cons.1 hx with rfl | hx
        · assumption
        · exact ih _ x hx
    · exact ih _ x hx
theorem joinSp_len (pre : List (List UInt8)) (k : Nat) (h : ∀ x ∈ pre, x.length ≤ k) : (joinSp pre).length ≤ pre.length * (k + 1) := by
  suffices H : ∀ r : List (List UInt8), (∀ x ∈ r, x.length ≤ k) → ((r.map (fun x => (32 : UInt8) :: x)).flatten).length ≤ r.length * (k + 1) by
    cases pre with
    | nil => simp [joinSp]
    | cons w r =>
      have h1 := h w (by simp)
      have h2 := H r (fun x hx => h x (by simp [hx]))
      simp only [joinSp, List.length_append, List.length_cons, Nat.add_mul, Nat.one_mul]
      omega
  intro r
  induction r with
  | nil => simp
  | cons x r ih =>
    intro hr
    have h1 := hr x (by simp)
    have h2 := ih (fun y hy => hr y (by simp [hy]))
    simp only [List.map_cons, List.flatten_cons, List.length_append, List.length_cons, Nat.add_mul, Nat.one_mul] at h2 ⊢
    omega
end Tx

/-- A builder abides the turn of a block that holds no cells. -/
theorem builder_kept {T e : TypeId} {B b : Nat} {bs : List Value} {W W' : World} {row : Option Nat} (h : Lib.IsBuilderF T e B b bs W) (hg : W.grownBy W' row)
    (hr : ∀ r, row = some r → ∃ o : Obj, W.heap[r]? = some o ∧ o.isCells = false) : Lib.IsBuilderF T e B b bs W' := by
  have keep : ∀ (k : Nat) (c : Array Value) (t : TypeId) (fz : Nat × Nat), W.heap[k]? = some (.cells c t fz) → W'.heap[k]? = some (.cells c t fz) := by
    intro k c t fz hk
    refine (hg.block k (Array.getElem?_eq_some_iff.1 hk).1 ?_).trans hk
    intro e'
    obtain ⟨o, ho, hc⟩ := hr k e'.symm
    rw [hk] at ho
    cases ho; cases hc
  have step : ∀ p, Lib.BuilderAtF T e B b p bs W → Lib.BuilderAtF T e B b p bs W' := by
    rintro p ⟨hB, v, hv, ⟨hl, hrow⟩, hne⟩
    refine ⟨hB, v, keep _ _ _ _ hv, ⟨hl, ?_⟩, hne⟩
    rcases hrow with h | ⟨g, cap, cur, fz, h1, h2, h3, h4⟩
    · exact .inl h
    · exact .inr ⟨g, cap, cur, fz, h1, h2, keep _ _ _ _ h3, h4⟩
  exact h.elim (fun h => .inl (step _ h)) (fun h => .inr (step _ h))
theorem builder_block {T e : TypeId} {B b : Nat} {bs : List Value} {W : World} (h : Lib.IsBuilderF T e B b bs W) : ∃ c : Array Value, W.heap[b]? = some (.cells c T (0, 0)) := by
  rcases h with ⟨_, v, hv, _⟩ | ⟨_, v, hv, _⟩
  · exact ⟨_, hv⟩
  · exact ⟨_, hv⟩
theorem others_keepsOthers {T e : TypeId} {b : Nat} {c : Array Value} {fz : Nat × Nat} {W W' : World} (hb : W.heap[b]? = some (.cells c T fz)) (h : Lib.OthersKept e (some b) W W') (hs : W.heap.size ≤ W'.heap.size) : KeepsOthers W W' :=
  ⟨hs, fun k o ho hc => h k o ho (by rintro e'; cases e'; rw [hb] at ho; cases ho; cases hc) (by rintro c' fz' rfl; cases hc)⟩
theorem keeps_walks {W W' : World} (h : KeepsOthers W W') : KeepsWalks W W' :=
  ⟨h.size, fun k o ho hw => h.same k o ho (by cases o <;> simp_all [Obj.isWalk, Obj.isCells])⟩

theorem len_calls (B b : Nat) (bs : List Value) (w : World) (h : Lib.IsBuilderF 40 5 B b bs w) :
    Calls Tryz.prog 130 #[.pointer (some ⟨b, 0, none⟩)] w fun e w' => e = .returned (.int .i64 bs.length) ∧ w = w' :=
  (Any.Builder_Len_f Tryz.lays170 B b bs w h).mono fun _ _ ⟨h1, h2⟩ => ⟨h1, h2.symm⟩
theorem writeByte_calls (B b : Nat) (bs : List Value) (c : Int) (w : World) (h : Lib.IsBuilderF 40 5 B b bs w) (hlen : bs.length + 1 ≤ 140737488355328) (hBw : B ≤ w.heap.size) :
    Calls Tryz.prog 103 #[.pointer (some ⟨b, 0, none⟩), .int .u8 c] w fun e w' => e = .returned .nilIface ∧ Lib.IsBuilderF 40 5 B b (bs ++ [.int .u8 c]) w' ∧ Below B w w' ∧ KeepsOthers w w' := by
  obtain ⟨cc, hb⟩ := builder_block h
  exact (Any.Builder_WriteByte_k Tryz.lays167 Tryz.Builder_X167 B b bs c w h hlen hBw).mono fun _ _ ⟨h1, h2, h3, h4⟩ => ⟨h1, .inr h2, h3, others_keepsOthers hb h4 h3.size⟩
theorem writeString_calls (B b : Nat) (bs : List Value) (s : ByteArray) (w : World) (h : Lib.IsBuilderF 40 5 B b bs w) (hlen : bs.length + s.size ≤ 140737488355328) (hBw : B ≤ w.heap.size) :
    Calls Tryz.prog 41 #[.pointer (some ⟨b, 0, none⟩), .string s] w fun e w' => e = .returned (.tuple #[.int .i64 s.size, .nilIface]) ∧ Lib.IsBuilderF 40 5 B b (bs ++ Lib.byteCells s.data.toList) w' ∧ Below B w w' ∧ KeepsOthers w w' := by
  obtain ⟨cc, hb⟩ := builder_block h
  exact (Any.Builder_WriteString_k Tryz.lays166 Tryz.Builder_X166 B b bs s w h hlen hBw).mono fun _ _ ⟨h1, h2, h3, h4⟩ => ⟨h1, .inr h2, h3, others_keepsOthers hb h4 h3.size⟩
theorem string_calls (B b : Nat) (l : List UInt8) (w : World) (h : Lib.IsBuilderF 40 5 B b (Lib.byteCells l) w) (hBw : B ≤ w.heap.size) :
    Calls Tryz.prog 39 #[.pointer (some ⟨b, 0, none⟩)] w fun e w' => e = .returned (.string ⟨l.toArray⟩) ∧ Below B w w' ∧ KeepsOthers w w' := by
  obtain ⟨cc, hb⟩ := builder_block h
  exact (Any.Builder_String_any_k Tryz.lays169 Tryz.Builder_X169 B b l w h hBw).mono fun _ _ ⟨h1, _, h3, h4⟩ => ⟨h1, h3, others_keepsOthers hb h4 h3.size⟩

/-- Between two rounds: what the builder holds. -/
def SqI (w : World) (pre : List Word) (W : World) : Prop := Lib.IsBuilderF 40 5 w.heap.size w.heap.size (Lib.byteCells (Tx.joinSp (pre.map Subtype.val))) W ∧ Below w.heap.size w W
theorem SqI.one {w W W' : World} {x : Word} (_h : SqI w [] W) (hI : Lib.IsBuilderF 40 5 w.heap.size w.heap.size (Lib.byteCells [] ++ Lib.byteCells x.1) W') (hB : Below w.heap.size w W') : SqI w ([] ++ [x]) W' :=
  ⟨by simpa [Tx.joinSp, Lib.byteCells] using hI, hB⟩
theorem SqI.more {w W' : World} {pre : List Word} {x : Word} (hp : pre ≠ []) (hI : Lib.IsBuilderF 40 5 w.heap.size w.heap.size (Lib.byteCells (Tx.joinSp (pre.map Subtype.val)) ++ [.int .u8 32] ++ Lib.byteCells x.1) W') (hB : Below w.heap.size w W') : SqI w (pre ++ [x]) W' := by
  refine ⟨?_, hB⟩
  rw [List.map_append, List.map_cons, List.map_nil, Tx.joinSp_snoc _ _ (fun e => hp (List.map_eq_nil_iff.1 e)), Lib.byteCells_append]
  rw [List.append_assoc] at hI
  exact hI

set_option maxRecDepth 100000 in
set_option maxHeartbeats 4000000 in
theorem squeeze_any (s : ByteArray) (w : World) (hs : s.size ≤ 1000000) :
    Calls Tryz.prog 115 #[.string s] w fun e w' => e = .returned (.string ⟨(Tx.squeeze s.data.toList).toArray⟩) ∧ Below w.heap.size w w' := by
  have hwl := Tx.words_len s.data.toList
  have hsz := Lib.size_eq s
  have hstop := words_stopsW s hs (w.heap.size + 1) ((w.alloc (.cells #[.pointer none, .slice none 0 0] 40)).alloc (.cells #[.string s] 9)) (by simp) (by simp)
  have hfr : Lib.IsBuilderF 40 5 w.heap.size w.heap.size (Lib.byteCells []) ((w.alloc (.cells #[.pointer none, .slice none 0 0] 40)).alloc (.cells #[.string s] 9)) := (Lib.IsBuilderF.of (Lib.fresh_isBuilder 40 5 w)).alloc _
  have hB0 : Below w.heap.size w ((w.alloc (.cells #[.pointer none, .slice none 0 0] 40)).alloc (.cells #[.string s] 9)) := ((Below.refl _ w).alloc (Nat.le_refl _) _).alloc (by simp) _
  have HSt := Lib.hid hstop
  clear hstop
  have hOwn : Own (fun (pre : List Word) W => Lib.IsBuilderF 40 5 w.heap.size w.heap.size (Lib.byteCells (Tx.joinSp (pre.map Subtype.val))) W) := fun _ _ _ _ hs hg hr => builder_kept hs hg hr
  refine (callsIn_wide (n := 3)).1 ?_
  refine callsIn_of_wp_marks Tryz.func115 rfl trivial ?_ rfl
  simp only [Tryz.ntmps115, List.size_toArray, List.length_cons, List.length_nil, Nat.reduceAdd, Nat.reduceSub, Array.replicate_succ, Array.replicate_zero, List.push_toArray, List.append_toArray, List.nil_append, List.cons_append]
  gi_wp2_with (refine ⟨trivial, ?_⟩; gi_at_call 52; refine (words_in _ _ _).mono ?_; rintro e w' ⟨rfl, rfl⟩)
  refine wpIn_rangeFunc_ownF rfl (by omega) (gf := 79) (lb := #[.pointer (some ⟨w.heap.size + 1, 0, none⟩)]) rfl trivial (enters_of Tryz.func79 (by kernel_rfl) rfl)
    (encs := fun x : Word => #[encStr x.1]) (Kp := KeepsWalks) HSt.out walksK_t walksK_b (Below.refl _ _) (fun _ => rfl)
    (SqI w)
    (fun _ _ _ => False)
    (OwnFrom.and (hOwn.from _) (ownFrom_below (Nat.le_refl _) (by simp; omega)))
    (fun _ _ _ _ _ hs _ _ => hs)
    ⟨hfr, hB0⟩
    (fun x => { tmps := #[.string s, undef, .string ⟨#[]⟩, .pointer (some ⟨w.heap.size, 0, none⟩), encStr x.1, .string s, .func (.func 79) #[] #[.pointer (some ⟨w.heap.size + 1, 0, none⟩)], encStr x.1, undef, undef, undef, undef, undef, undef], defers := [] }) ?assign ?body ?done ?stop
  case assign =>
    intro l x W K hK
    gi_wp2
    exact hK
  case body =>
    rintro l pre x W hSq hlt
    obtain ⟨hI, hB⟩ := id hSq
    have hpl : (Tx.joinSp (pre.map Subtype.val)).length ≤ pre.length * 1000001 := by
      have := Tx.joinSp_len (pre.map Subtype.val) 1000000 (by intro y hy; obtain ⟨z, _, rfl⟩ := List.mem_map.1 hy; exact z.2.2)
      simpa using this
    have hxl := x.2.2
    have hsW := hB.size
    obtain ⟨xv, hxv⟩ : ∃ xv : ByteArray, (⟨x.1.toArray⟩ : ByteArray) = xv := ⟨_, rfl⟩
    have hxs : xv.size ≤ 1000000 := by rw [← hxv, Tx.bs_len]; exact hxl
    have hxd : xv.data.toList = x.1 := by rw [← hxv]
    have hne := x.2.1
    have HX := Lib.hid hxd
    have HN := Lib.hid hne
    have hlb : (Lib.byteCells (Tx.joinSp (pre.map Subtype.val))).length ≤ pre.length * 1000001 := by rw [Lib.byteCells_length]; exact hpl
    have hplen : pre.length ≤ 1000000 := by omega
    have hcnt : pre = [] ∨ 0 < (Lib.byteCells (Tx.joinSp (pre.map Subtype.val))).length := by
      by_cases hp : pre = []
      · exact .inl hp
      · right
        rw [Lib.byteCells_length, List.length_pos_iff]
        intro e
        have := (Tx.joinSp_empty (pre.map Subtype.val) (by intro y hy; obtain ⟨z, _, rfl⟩ := List.mem_map.1 hy; exact z.2.1)).1 e
        exact hp (List.map_eq_nil_iff.1 this)
    have hone : pre = [] → (Lib.byteCells (Tx.joinSp (pre.map Subtype.val))).length = 0 := by rintro rfl; rfl
    have HQ := Lib.hid hSq
    show Code.wpIn _ _ _ _ _ { tmps := #[.string s, undef, .string ⟨#[]⟩, .pointer (some ⟨w.heap.size, 0, none⟩), .string ⟨x.1.toArray⟩, .string s, .func (.func 79) #[] #[.pointer (some ⟨w.heap.size + 1, 0, none⟩)], .string ⟨x.1.toArray⟩, undef, undef, undef, undef, undef, undef], defers := [] } _
    rw [hxv]
    obtain ⟨bs, hbs⟩ : ∃ bs, Lib.byteCells (Tx.joinSp (pre.map Subtype.val)) = bs := ⟨_, rfl⟩
    rw [hbs] at hI hlb hcnt hone
    have HBS := Lib.hid hbs
    clear hOwn hfr hB0 HSt hxv hxd hne hSq hpl hxl hwl hsz hs hlt hbs
    rcases hcnt with hp | hp
    · have h0 := hone hp
      have hd : decide (0 < bs.length) = false := decide_eq_false (by omega)
      have HP := Lib.hid hp
      have H0 := Lib.hid h0
      clear hone hp h0
      gi_wp2_with (first
        | (refine ⟨trivial, ?_⟩; gi_at_call 130; refine (CallsIn.inRound l (callsIn_wide.2 (len_calls w.heap.size w.heap.size _ _ hI))).mono ?_; rintro e w' ⟨rfl, rfl⟩)
        | (refine ⟨trivial, ?_⟩; gi_at_call 41; refine (CallsIn.inRound l (callsIn_wide.2 (writeString_calls w.heap.size w.heap.size _ _ _ hI (by omega) hsW))).mono ?_; rintro e w' ⟨rfl, hI2, hB2, hk2⟩))
      rw [HX.out] at hI2
      refine ⟨hk2, keeps_walks hk2, ?_⟩
      have hpn := HP.out
      subst hpn
      exact SqI.one HQ.out (by have e := HBS.out; rw [← e] at hI2; exact hI2) (hB.trans hB2)
    · have hd : decide (0 < bs.length) = true := decide_eq_true (by omega)
      have HP := Lib.hid hp
      clear hone hp
      gi_wp2_with (first
        | (refine ⟨trivial, ?_⟩; gi_at_call 130; refine (CallsIn.inRound l (callsIn_wide.2 (len_calls w.heap.size w.heap.size _ _ hI))).mono ?_; rintro e w' ⟨rfl, rfl⟩)
        | (refine ⟨trivial, ?_⟩; gi_at_call 103; refine (CallsIn.inRound l (callsIn_wide.2 (writeByte_calls w.heap.size w.heap.size _ _ _ hI (by omega) hsW))).mono ?_; rintro e w1 ⟨rfl, hI1, hB1, hk1⟩; have hsW1 := Nat.le_trans hsW hB1.size; have hl1 : (bs ++ [Value.int .u8 32]).length ≤ bs.length + 1 := by simp)
        | (refine ⟨trivial, ?_⟩; gi_at_call 41; refine (CallsIn.inRound l (callsIn_wide.2 (writeString_calls w.heap.size w.heap.size _ _ _ hI1 (by omega) hsW1))).mono ?_; rintro e w' ⟨rfl, hI2, hB2, hk2⟩))
      rw [HX.out] at hI2
      refine ⟨hk1.trans hk2, keeps_walks (hk1.trans hk2), ?_⟩
      exact SqI.more (by
        intro e
        have h1 := HBS.out
        rw [e] at h1
        have h2 := HP.out
        rw [← h1] at h2
        simp [Tx.joinSp, Lib.byteCells] at h2) (by have e := HBS.out; rw [← e] at hI2; exact hI2) ((hB.trans hB1).trans hB2)
  case done =>
    rintro D ys W hD hys ⟨hI, hB⟩ hK
    have hsW := hB.size
    gi_wp2_with (refine ⟨trivial, ?_⟩; gi_at_call 39; refine (callsIn_wide.2 (string_calls w.heap.size w.heap.size _ _ hI hsW)).mono ?_; rintro e w' ⟨rfl, hB2, hk2⟩)
    have hK' := hk2.same D _ hK rfl
    refine ⟨by simp, .inl ⟨_, _, rfl, run_takeDeferred hK', ?_⟩⟩
    exact ⟨_, results_tmp rfl _ _ _, rfl, (hB.trans hB2).trans (belowK_b (w := w) (Nat.le_refl _) w' D _ _ (by simp at hD; omega) hK' rfl rfl)⟩
  case stop =>
    rintro D c pre W _ _ h _
    exact h.elim
end Go.Proofs.YtdkocjdhekomoaaGreatDoor
