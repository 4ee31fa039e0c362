/-
  What the law on patterns says, of the plain function.
-/
import Derived.Test.YtpigplnnmhjbkaaDoorSame
namespace Go.Proofs.YtpigplnnmhjbkaaDoor
open Go Go.RowKit Go.Shelf
namespace Tx

def plainB (c : UInt8) : Bool := decide (c ≠ 42) && decide (c ≠ 63)
theorem glob_plain : ∀ (p s : List UInt8), p.all plainB = true → glob p s = same p s
  | [], s, _ => by
    cases s with
    | nil => simp [glob, same, lowL]
    | cons c t => simp [glob, same, lowL]
  | p :: ps, s, h => by
    simp only [List.all_cons, Bool.and_eq_true, plainB, decide_eq_true_eq] at h
    cases s with
    | nil =>
      rw [glob_char_nil p ps h.1.1]
      simp [same, lowL]
    | cons c t =>
      rw [glob_char p ps c t h.1.1, glob_plain ps t (by simpa [plainB] using h.2)]
      simp only [same, lowL, List.map_cons]
      have h63 : decide (p = 63) = false := by simpa using h.1.2
      rw [h63, Bool.false_or, Bool.eq_iff_iff]
      simp
theorem glob_one (s : List UInt8) : glob [42] s = true := by
  rw [glob_star]
  exact ⟨s.length, Nat.le_refl _, by rw [List.drop_length, glob_nil]; rfl⟩
/-- A pattern with a star behind it stands for more. -/
theorem glob_more : ∀ (p s t : List UInt8), glob p s = true → glob (p ++ [42]) (s ++ t) = true
  | [], s, t, h => by
    rw [List.nil_append]; exact glob_one _
  | p :: ps, s, t, h => by
    by_cases hp : p = 42
    · subst hp
      rw [glob_star] at h
      obtain ⟨k, hk, h⟩ := h
      rw [List.cons_append, glob_star]
      refine ⟨k, by rw [List.length_append]; omega, ?_⟩
      rw [List.drop_append_of_le_length hk]
      exact glob_more ps _ t h
    · cases s with
      | nil => rw [glob_char_nil p ps hp] at h; cases h
      | cons c r =>
        rw [glob_char p ps c r hp, Bool.and_eq_true] at h
        rw [List.cons_append, List.cons_append, glob_char _ _ _ _ hp, Bool.and_eq_true]
        exact ⟨h.1, glob_more ps r t h.2⟩
theorem glob_wrap (p s : List UInt8) (h : glob p s = true) : glob (42 :: (p ++ [42])) (120 :: (s ++ [121])) = true := by
  rw [glob_star]
  exact ⟨1, by simp, by simpa using glob_more p s [121] h⟩
/-- The definition, byte for byte. -/
theorem glob_empty (s : List UInt8) : glob [] s = decide (s = []) := by
  rw [glob_nil]; cases s <;> rfl
theorem glob_star_eq (ps s : List UInt8) : glob (42 :: ps) s = (glob ps s || (decide (s ≠ []) && glob (42 :: ps) s.tail)) := by
  rw [Bool.eq_iff_iff, Bool.or_eq_true, Bool.and_eq_true, glob_star, glob_star]
  constructor
  · rintro ⟨k, hk, h⟩
    cases k with
    | zero => left; simpa using h
    | succ k =>
      right
      cases s with
      | nil => simp at hk
      | cons c t =>
        refine ⟨by simp, k, by simpa using hk, by simpa using h⟩
  · rintro (h | ⟨hne, k, hk, h⟩)
    · exact ⟨0, Nat.zero_le _, by simpa using h⟩
    · cases s with
      | nil => simp at hne
      | cons c t => exact ⟨k + 1, by simpa using hk, by simpa using h⟩
theorem same_one (a b : UInt8) : same [a] [b] = decide (lowB a = lowB b) := by
  simp [same, lowL]
  rfl
end Tx
end Go.Proofs.YtpigplnnmhjbkaaDoor
