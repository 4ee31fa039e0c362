/-
  Patterns from behind: the plain part of the reference's Glob.
-/
import Derived.Test.YtpigplnnmhjbkaaDoorGlobsP
namespace Go.Proofs.YtpigplnnmhjbkaaDoor
namespace Tx
theorem glob_byte (p : UInt8) (ps s : List UInt8) (hp : p ≠ 42) : glob (p :: ps) s = true ↔ ∃ c t, s = c :: t ∧ (p = 63 ∨ lowB p = lowB c) ∧ glob ps t = true := by
  cases s with
  | nil => simp [glob, hp]
  | cons c t =>
    rw [glob_char p ps c t hp, Bool.and_eq_true, Bool.or_eq_true, decide_eq_true_eq, decide_eq_true_eq]
    constructor
    · rintro ⟨h1, h2⟩
      exact ⟨c, t, rfl, h1, h2⟩
    · rintro ⟨c', t', e, h1, h2⟩
      injection e with e1 e2
      subst e1 e2
      exact ⟨h1, h2⟩
/-- A pattern in two parts: the string in two parts. -/
theorem glob_append (q : List UInt8) : ∀ (p s : List UInt8), glob (p ++ q) s = true ↔ ∃ k, k ≤ s.length ∧ glob p (s.take k) = true ∧ glob q (s.drop k) = true
  | [], s => by
    rw [List.nil_append]
    constructor
    · intro h
      exact ⟨0, Nat.zero_le _, by rw [List.take_zero]; rfl, by rw [List.drop_zero]; exact h⟩
    · rintro ⟨k, hk, h1, h2⟩
      rw [glob_nil, List.isEmpty_iff] at h1
      have : k = 0 := by
        have := congrArg List.length h1
        rw [List.length_take, List.length_nil] at this
        omega
      subst this
      rwa [List.drop_zero] at h2
  | p :: ps, s => by
    by_cases hp : p = 42
    · subst hp
      rw [List.cons_append, glob_star]
      constructor
      · rintro ⟨j, hj, h⟩
        obtain ⟨k, hk, h1, h2⟩ := (glob_append q ps (s.drop j)).1 h
        rw [List.length_drop] at hk
        refine ⟨j + k, by omega, (glob_star _ _).2 ⟨j, by rw [List.length_take]; omega, ?_⟩, by rwa [List.drop_drop] at h2⟩
        rw [List.drop_take, Nat.add_sub_cancel_left]
        exact h1
      · rintro ⟨k, hk, h1, h2⟩
        obtain ⟨j, hj, h3⟩ := (glob_star _ _).1 h1
        rw [List.length_take] at hj
        refine ⟨j, by omega, (glob_append q ps (s.drop j)).2 ⟨k - j, by rw [List.length_drop]; omega, ?_, ?_⟩⟩
        · rw [List.drop_take] at h3; exact h3
        · rw [List.drop_drop, Nat.add_sub_cancel' (by omega)]; exact h2
    · rw [List.cons_append, glob_byte _ _ _ hp]
      constructor
      · rintro ⟨c, t, rfl, hm, h⟩
        obtain ⟨k, hk, h1, h2⟩ := (glob_append q ps t).1 h
        exact ⟨k + 1, by simpa using hk, (glob_byte _ _ _ hp).2 ⟨c, t.take k, by simp, hm, h1⟩, by simpa using h2⟩
      · rintro ⟨k, hk, h1, h2⟩
        obtain ⟨c, t, e, hm, h3⟩ := (glob_byte _ _ _ hp).1 h1
        cases s with
        | nil => simp at e
        | cons d r =>
          cases k with
          | zero => simp at e
          | succ k =>
            rw [List.take_succ_cons] at e
            injection e with e1 e2
            subst e1
            refine ⟨d, r, rfl, hm, (glob_append q ps r).2 ⟨k, by simpa using hk, by rw [e2]; exact h3, by simpa using h2⟩⟩
theorem glob_one_star (s : List UInt8) : glob [42] s = true := (glob_star _ _).2 ⟨s.length, Nat.le_refl _, by rw [List.drop_length]; rfl⟩
/-- A star at the end. -/
theorem glob_snoc_star (p s : List UInt8) : glob (p ++ [42]) s = true ↔ ∃ k, k ≤ s.length ∧ glob p (s.take k) = true := by
  rw [glob_append]
  constructor
  · rintro ⟨k, hk, h, _⟩; exact ⟨k, hk, h⟩
  · rintro ⟨k, hk, h⟩; exact ⟨k, hk, h, glob_one_star _⟩
/-- What the table's next row says at k, for a star: at k the last row's word, or the next row's word before. -/
theorem row_star (p s : List UInt8) (k : Nat) (hk : k < s.length) : glob (p ++ [42]) (s.take (k + 1)) = (glob p (s.take (k + 1)) || glob (p ++ [42]) (s.take k)) := by
  rw [Bool.eq_iff_iff, Bool.or_eq_true, glob_snoc_star, glob_snoc_star]
  constructor
  · rintro ⟨j, hj, h⟩
    rw [List.length_take] at hj
    rw [List.take_take] at h
    by_cases hjk : j = k + 1
    · subst hjk
      rw [Nat.min_self] at h
      exact .inl h
    · refine .inr ⟨j, by rw [List.length_take]; omega, ?_⟩
      rw [List.take_take, Nat.min_eq_left (by omega)]
      rwa [Nat.min_eq_left (by omega)] at h
  · rintro (h | ⟨j, hj, h⟩)
    · exact ⟨k + 1, by rw [List.length_take]; omega, by rw [List.take_take, Nat.min_self]; exact h⟩
    · rw [List.length_take] at hj
      rw [List.take_take, Nat.min_eq_left (by omega)] at h
      exact ⟨j, by rw [List.length_take]; omega, by rw [List.take_take, Nat.min_eq_left (by omega)]; exact h⟩
theorem row_star_zero (p s : List UInt8) : glob (p ++ [42]) (s.take 0) = glob p (s.take 0) := by
  rw [Bool.eq_iff_iff, glob_snoc_star]
  constructor
  · rintro ⟨j, hj, h⟩; rwa [List.take_zero, List.take_nil] at h
  · intro h; exact ⟨0, Nat.zero_le _, by rw [List.take_zero] at h ⊢; exact h⟩
/-- For another byte: the last row's word one before, and the byte fits. -/
theorem row_byte (p s : List UInt8) (c : UInt8) (hc : c ≠ 42) (k : Nat) (d : UInt8) (hd : s[k]? = some d) : glob (p ++ [c]) (s.take (k + 1)) = (glob p (s.take k) && (decide (c = 63) || decide (lowB c = lowB d))) := by
  obtain ⟨hk, e⟩ := List.getElem?_eq_some_iff.1 hd
  rw [Bool.eq_iff_iff, Bool.and_eq_true, Bool.or_eq_true, decide_eq_true_eq, decide_eq_true_eq, glob_append]
  constructor
  · rintro ⟨j, hj, h1, h2⟩
    rw [List.length_take] at hj
    obtain ⟨x, t, ex, hm, ht⟩ := (glob_byte _ _ _ hc).1 h2
    rw [glob_nil, List.isEmpty_iff] at ht
    subst ht
    have hl := congrArg List.length ex
    rw [List.length_drop, List.length_take, List.length_cons, List.length_nil] at hl
    have hjk : j = k := by omega
    subst hjk
    rw [List.take_succ_eq_append_getElem hk, List.drop_append_of_le_length (by rw [List.length_take]; omega), List.drop_of_length_le (by rw [List.length_take]; omega), List.nil_append] at ex
    injection ex with ex _
    rw [List.take_take, Nat.min_eq_left (by omega)] at h1
    rw [← ex, e] at hm
    exact ⟨h1, hm⟩
  · rintro ⟨h1, hm⟩
    refine ⟨k, by rw [List.length_take]; omega, by rw [List.take_take, Nat.min_eq_left (by omega)]; exact h1, ?_⟩
    rw [List.take_succ_eq_append_getElem hk, List.drop_append_of_le_length (by rw [List.length_take]; omega), List.drop_of_length_le (by rw [List.length_take]; omega), List.nil_append, e]
    exact (glob_byte _ _ _ hc).2 ⟨d, [], rfl, hm, rfl⟩
theorem row_byte_zero (p s : List UInt8) (c : UInt8) (hc : c ≠ 42) : glob (p ++ [c]) (s.take 0) = false := by
  rw [Bool.eq_false_iff]
  intro h
  obtain ⟨j, hj, _, h2⟩ := (glob_append _ _ _).1 h
  obtain ⟨x, t, ex, _⟩ := (glob_byte _ _ _ hc).1 h2
  rw [List.take_zero, List.drop_nil] at ex
  cases ex
end Tx
end Go.Proofs.YtpigplnnmhjbkaaDoor
