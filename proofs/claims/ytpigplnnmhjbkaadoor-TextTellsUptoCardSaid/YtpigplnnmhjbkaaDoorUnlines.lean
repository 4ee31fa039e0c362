/-
  The contract of text.Unlines; the plain part of the law on lines.
-/
import Derived.Test.YtpigplnnmhjbkaaDoorAppend
namespace Go.Proofs.YtpigplnnmhjbkaaDoor
open Go Go.RowKit Go.Shelf
namespace Tx
theorem unlines_snoc (l : List (List UInt8)) (x : List UInt8) : unlines (l ++ [x]) = unlines l ++ (x ++ [10]) := by simp [unlines]
/-- Each line followed by CR and LF. -/
def crs (l : List (List UInt8)) : List UInt8 := (l.map (fun x => x ++ [13, 10])).flatten
theorem crs_snoc (l : List (List UInt8)) (x : List UInt8) : crs (l ++ [x]) = crs l ++ (x ++ [13, 10]) := by simp [crs]
/-- A line: no LF, no CR at its end. -/
def lineB (x : List UInt8) : Prop := 10 ∉ x ∧ x.getLast? ≠ some 13
theorem chop_same (x : List UInt8) (h : x.getLast? ≠ some 13) : chop x = x := by
  unfold chop Lib.trimSuffix
  split
  · rename_i hs
    exfalso
    apply h
    unfold Lib.hasSuffix at hs
    simp at hs
    obtain ⟨p, hp⟩ := hs
    rw [← hp]; simp
  · rfl
theorem chop_cr (x : List UInt8) : chop (x ++ [13]) = x := by
  unfold chop Lib.trimSuffix
  split
  · simp
  · rename_i hs
    exfalso
    apply hs
    unfold Lib.hasSuffix
    simp
theorem lines_unlines : ∀ l : List (List UInt8), (∀ x ∈ l, lineB x) → lines (unlines l) = l
  | [], _ => rfl
  | x :: r, h => by
    have hx := h x (by simp)
    have e : unlines (x :: r) = x ++ 10 :: unlines r := by simp [unlines]
    rw [e, lines_at _ _ hx.1, chop_same x hx.2, lines_unlines r (fun y hy => h y (by simp [hy]))]
theorem lines_crs : ∀ l : List (List UInt8), (∀ x ∈ l, lineB x) → lines (crs l) = l
  | [], _ => rfl
  | x :: r, h => by
    have hx := h x (by simp)
    have e : crs (x :: r) = (x ++ [13]) ++ 10 :: crs r := by simp [crs]
    rw [e, lines_at _ _ (by simp [hx.1]), chop_cr x, lines_crs r (fun y hy => h y (by simp [hy]))]
theorem lines_last : ∀ (l : List (List UInt8)) (x : List UInt8), (∀ y ∈ l, lineB y) → lineB x → x ≠ [] → lines (unlines l ++ x) = l ++ [x]
  | [], x, _, hx, hne => by show lines ([] ++ x) = [x]; rw [List.nil_append]; exact lines_no x hx.1 hne
  | y :: r, x, h, hx, hne => by
    have hy := h y (by simp)
    have e : unlines (y :: r) ++ x = y ++ 10 :: (unlines r ++ x) := by simp [unlines]
    rw [e, lines_at _ _ hy.1, chop_same y hy.2, lines_last r x (fun z hz => h z (by simp [hz])) hx hne]
    rfl
theorem linesGo_lf : ∀ (l acc : List UInt8), 10 ∉ acc → ∀ x ∈ linesGo acc l, 10 ∉ x
  | [], acc, h, x, hx => by
    rw [linesGo] at hx
    by_cases ha : acc = []
    · rw [if_pos ha] at hx; cases hx
    · rw [if_neg ha] at hx
      obtain rfl := List.mem_singleton.1 hx
      exact h
  | c :: r, acc, h, x, hx => by
    rw [linesGo] at hx
    by_cases hc : c = 10
    · rw [if_pos hc] at hx
      rcases List.mem_cons.1 hx with rfl | hx
      · intro hm
        apply h
        unfold chop Lib.trimSuffix at hm
        split at hm
        · exact List.mem_of_mem_take hm
        · exact hm
      · exact linesGo_lf r [] (by simp) x hx
    · rw [if_neg hc] at hx
      refine linesGo_lf r (acc ++ [c]) ?_ x hx
      intro hm
      rcases List.mem_append.1 hm with hm | hm
      · exact h hm
      · exact hc (List.mem_singleton.1 hm).symm
theorem lines_lf (l : List UInt8) : ∀ x ∈ lines l, 10 ∉ x := linesGo_lf l [] (by simp)
theorem unlines_len : ∀ (l : List (List UInt8)) (k : Nat), (∀ x ∈ l, x.length ≤ k) → (unlines l).length ≤ l.length * (k + 1)
  | [], k, _ => by simp [unlines]
  | x :: r, k, h => by
    have e : unlines (x :: r) = x ++ 10 :: unlines r := by simp [unlines]
    have := unlines_len r k (fun y hy => h y (by simp [hy]))
    have hx := h x (by simp)
    rw [e, List.length_append, List.length_cons, List.length_cons, Nat.succ_mul]
    omega
theorem crs_len : ∀ (l : List (List UInt8)) (k : Nat), (∀ x ∈ l, x.length ≤ k) → (crs l).length ≤ l.length * (k + 2)
  | [], k, _ => by simp [crs]
  | x :: r, k, h => by
    have e : crs (x :: r) = x ++ 13 :: 10 :: crs r := by simp [crs]
    have := crs_len r k (fun y hy => h y (by simp [hy]))
    have hx := h x (by simp)
    rw [e, List.length_append, List.length_cons, List.length_cons, List.length_cons, Nat.succ_mul]
    omega
theorem lines_len (l : List UInt8) : (lines l).length ≤ l.length := by
  have hg : ∀ (l acc : List UInt8), (linesGo acc l).length ≤ (if acc = [] then 0 else 1) + l.length := by
    intro l
    induction l with
    | nil => intro acc; rw [linesGo]; split <;> simp_all
    | cons c r ih =>
      intro acc
      rw [linesGo]
      split
      · have := ih []
        simp at this ⊢
        omega
      · have := ih (acc ++ [c])
        simp at this ⊢
        omega
  have := hg l []
  simpa [lines] using this
end Tx

/-- Between two rounds: what the builder holds. -/
def UnI (w : World) (cur : List UInt8) (W : World) : Prop := Lib.IsBuilderF 42 5 w.heap.size w.heap.size (Lib.byteCells cur) W ∧ Below w.heap.size w W

set_option maxRecDepth 100000 in
set_option maxHeartbeats 4000000 in
theorem unlines_any (xa : Option Addr) (b off cap : Nat) (X : List (List UInt8)) (w : World) (hr : RowOf w (.slice xa X.length cap) xa b off cap X) (hl : X.length ≤ 40) (hz : ∀ x ∈ X, x.length ≤ 300) :
    Calls Tryd.prog 22 #[.slice xa X.length cap] w fun e w' => e = .returned (.string ⟨(Tx.unlines X).toArray⟩) ∧ Below w.heap.size w w' := by
  have hfr : UnI w [] (w.alloc (.cells #[.pointer none, .slice none 0 0] 42)) := ⟨Lib.IsBuilderF.of (Lib.fresh_isBuilder 42 5 w), (Below.refl _ w).alloc (Nat.le_refl _) _⟩
  have HR := Lib.hid hr
  have HZ := Lib.hid hz
  have HF := Lib.hid hfr
  clear hr hz hfr
  go_enter Tryd.func22, Tryd.ntmps22
  go_wp2
  go_loopw [8] (fun i wr => ∃ k : Nat, i = .int .i64 k ∧ k ≤ X.length ∧ Hid (UnI w (Tx.unlines (X.take k)) wr)) (fun i _ => X.length - (intOf i).toNat)
  case atStart => exact ⟨0, rfl, Nat.zero_le _, HF.out⟩
  case round =>
    obtain ⟨k, rfl, hk, hun⟩ := hrel
    by_cases hlt : k < X.length
    · obtain rfl := HR.out.at_ (by omega)
      obtain ⟨y, hy⟩ : ∃ y : ByteArray, encStr X[k] = .string y := ⟨_, rfl⟩
      have hyl : y.data.toList = X[k] := by
        have : (⟨X[k].toArray⟩ : ByteArray) = y := by injection hy
        rw [← this]
      have hys : y.size ≤ 300 := by rw [Lib.size_eq, hyl]; exact HZ.out _ (List.getElem_mem hlt)
      have c0 : wr.cell? ⟨b, off + k, none⟩ = some (.string y) := by
        rw [← hy]
        exact (hun.out.2.cell (p := ⟨b, off + k, none⟩) (HR.out.lt (by omega))).trans (HR.out.cell k _ (List.getElem?_eq_getElem hlt))
      have htk : Hid (Tx.unlines (X.take (k + 1)) = Tx.unlines (X.take k) ++ (y.data.toList ++ [10])) := by
        show _ = _
        rw [List.take_succ_eq_append_getElem hlt, Tx.unlines_snoc, hyl]
      have hcl : (Tx.unlines (X.take k)).length ≤ 40 * 301 := by
        refine Nat.le_trans (Tx.unlines_len _ 300 (fun x hx => HZ.out x (List.mem_of_mem_take hx))) ?_
        rw [List.length_take]
        exact Nat.mul_le_mul_right _ (by omega)
      have hbl : (Lib.byteCells (Tx.unlines (X.take k))).length ≤ 40 * 301 := by rw [Lib.byteCells_length]; exact hcl
      obtain ⟨hI, hB⟩ := id hun.out
      have hsW := hB.size
      have HB := Lib.hid hB
      obtain ⟨bs, hbs⟩ : ∃ bs, Lib.byteCells (Tx.unlines (X.take k)) = bs := ⟨_, rfl⟩
      rw [hbs] at hI hbl
      have HI := Lib.hid hI
      have HBS := Lib.hid hbs
      clear hy hyl hcl hI hB hbs hun
      go_wp2_with fail
      refine (writeString_calls w.heap.size w.heap.size _ _ _ HI.out (by omega) hsW).mono ?_
      rintro e w1 ⟨rfl, hI1, hB1, _⟩
      have hsW1 := Nat.le_trans hsW hB1.size
      have hl1 : (bs ++ Lib.byteCells y.data.toList).length ≤ 20000 := by rw [List.length_append, Lib.byteCells_length, ← Lib.size_eq]; omega
      go_wp2_with fail
      refine (writeByte_calls w.heap.size w.heap.size _ _ _ hI1 (by omega) hsW1).mono ?_
      rintro e w2 ⟨rfl, hI2, hB2, _⟩
      have HN : Hid (UnI w (Tx.unlines (X.take (k + 1))) w2) := by
        refine ⟨?_, (HB.out.trans hB1).trans hB2⟩
        rw [htk.out, Lib.byteCells_append, Lib.byteCells_append, HBS.out, ← List.append_assoc]
        exact hI2
      clear hI1 hI2 hB1 hB2 hsW1 hl1
      go_wp2
      go_roundw
      case rel => exact ⟨k + 1, by go_num, by omega, HN.out⟩
      case measure => simp [intOf]; omega
    · obtain ⟨hI, hB⟩ := id hun.out
      rw [show X.take k = X from List.take_of_length_le (by omega)] at hI
      have hsW := hB.size
      have HI := Lib.hid hI
      have HB := Lib.hid hB
      clear hI hB hun
      go_wp2_with fail
      refine (string_calls w.heap.size w.heap.size _ _ HI.out hsW).mono ?_
      rintro e w1 ⟨rfl, hB1, _⟩
      go_wp2
      go_ret
      exact ⟨rfl, HB.out.trans hB1⟩
end Go.Proofs.YtpigplnnmhjbkaaDoor
