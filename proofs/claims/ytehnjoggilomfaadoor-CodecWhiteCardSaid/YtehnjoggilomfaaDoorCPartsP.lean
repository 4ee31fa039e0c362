/-
  The encodings of two texts, plainly.
-/
import Derived.Test.YtehnjoggilomfaaDoorCFit
import Derived.Test.YtehnjoggilomfaaDoorCRefs
namespace Go.Proofs.YtehnjoggilomfaaDoor
open Go Go.RowKit Go.Shelf
namespace Cd
theorem last_app (r b : List UInt8) : lastB (r ++ 10 :: b) = lastB r := by
  cases r with
  | nil => rfl
  | cons d r => rfl
theorem quo_nl : ∀ (a b : List UInt8) (w : Nat), quo w (a ++ 10 :: b) = quo w a ++ 10 :: quo 0 b
  | [], b, w => by
    show quo w (10 :: b) = 10 :: quo 0 b
    conv => lhs; rw [quo, if_pos rfl]
  | c :: r, b, w => by
    rw [List.cons_append]
    conv => lhs; rw [quo]
    conv => rhs; rw [quo]
    rw [last_app]
    split
    · rw [quo_nl r b 0]; rfl
    · split
      · rw [quo_nl r b _]; simp
      · rw [quo_nl r b _]; simp
theorem quoted_nl (a b : List UInt8) : quoted (a ++ 10 :: b) = quoted a ++ 10 :: quoted b := quo_nl a b 0
theorem percent_append (a b : List UInt8) : percent (a ++ b) = percent a ++ percent b := by simp [percent]
theorem solid_no {A : List UInt8} (h : ∀ c ∈ A, solid c = true) : 10 ∉ A ∧ A.getLast? ≠ some 13 := by
  refine ⟨fun hm => ?_, fun hm => ?_⟩
  · have := h 10 hm; revert this; decide
  · have := h 13 (List.mem_of_getLast? hm); revert this; decide
theorem lines_base : ∀ (n : Nat) (l : List UInt8), l.length ≤ n → (Tx.lines (base64 l)).flatten = b64line l ∧ (Tx.lines (base64 l)).length * 57 ≤ l.length + 56 ∧ ∀ x ∈ Tx.lines (base64 l), x.length ≤ 76 := by
  intro n
  induction n using Nat.strongRecOn with
  | ind n ih =>
    intro l hl
    by_cases h0 : l = []
    · subst h0
      exact ⟨rfl, by decide, by intro x hx; cases hx⟩
    · have hp : 0 < l.length := List.length_pos_iff.2 h0
      obtain ⟨n1, n2⟩ := solid_no (line_solid (l.take 57))
      have hsh := line_short (l.take 57) (by rw [List.length_take]; omega)
      rw [base_step l h0, List.append_assoc, List.singleton_append, Tx.lines_at _ _ n1, Tx.chop_same _ n2]
      obtain ⟨i1, i2, i3⟩ := ih (l.length - 1) (by omega) (l.drop 57) (by rw [List.length_drop]; omega)
      rw [List.length_drop] at i2
      refine ⟨?_, by rw [List.length_cons]; omega, ?_⟩
      · rw [List.flatten_cons, i1]
        by_cases hs : l.length ≤ 57
        · rw [List.drop_eq_nil_of_le hs, List.take_of_length_le hs, line_nil, List.append_nil]
        · rw [← line_append _ (l.take 57) (l.drop 57) (Nat.le_refl _) (by rw [List.length_take]; omega), List.take_append_drop]
      · intro x hx
        rcases List.mem_cons.1 hx with rfl | hx
        · exact hsh
        · exact i3 x hx
end Cd
theorem mk_append (a b : List UInt8) : (⟨a.toArray⟩ : ByteArray) ++ ⟨b.toArray⟩ = ⟨(a ++ b).toArray⟩ := by
  apply ByteArray.ext
  simp
theorem data_append (s t : ByteArray) : (s ++ t).data.toList = s.data.toList ++ t.data.toList := by simp
end Go.Proofs.YtehnjoggilomfaaDoor
