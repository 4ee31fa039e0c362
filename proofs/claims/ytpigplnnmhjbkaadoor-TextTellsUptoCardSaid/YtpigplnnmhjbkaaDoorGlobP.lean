/-
  Patterns: the plain part. What a pattern stands for, and what a search that tries only the last star again keeps.
-/
import Derived.Test.YtpigplnnmhjbkaaDoorPlain
import Derived.Lib.TrimByte
namespace Go.Proofs.YtpigplnnmhjbkaaDoor
namespace Tx

theorem glob_nil (s : List UInt8) : glob [] s = s.isEmpty := by simp [glob]
theorem glob_star (ps s : List UInt8) : glob (42 :: ps) s = true ↔ ∃ k, k ≤ s.length ∧ glob ps (s.drop k) = true := by
  simp only [glob, if_true, List.any_eq_true, List.mem_range]
  constructor
  · rintro ⟨k, hk, h⟩; exact ⟨k, by omega, h⟩
  · rintro ⟨k, hk, h⟩; exact ⟨k, by omega, h⟩
theorem glob_char (p : UInt8) (ps : List UInt8) (c : UInt8) (t : List UInt8) (h : p ≠ 42) : glob (p :: ps) (c :: t) = ((decide (p = 63) || decide (lowB p = lowB c)) && glob ps t) := by
  rw [glob, if_neg h]
theorem glob_char_nil (p : UInt8) (ps : List UInt8) (h : p ≠ 42) : glob (p :: ps) [] = false := by
  rw [glob, if_neg h]
theorem glob_all : ∀ (ps : List UInt8), glob ps [] = ps.all (· == 42)
  | [] => by simp [glob]
  | p :: ps => by
    by_cases h : p = 42
    · subst h
      rw [Bool.eq_iff_iff, glob_star]
      simp only [List.length_nil, Nat.le_zero_eq, List.drop_nil, exists_eq_left, glob_all ps]
      simp
    · rw [glob_char_nil p ps h]; simp [h]

/-- What the search keeps: p and i are where it stands, st the last star, en where in the string what it stands for ends. -/
def GInv (P S : List UInt8) (p i : Nat) (star : Int) (en : Nat) : Prop :=
  (star = -1 ∧ en = 0 ∧ glob P S = glob (P.drop p) (S.drop i)) ∨
  (∃ st : Nat, star = st ∧ st + 1 ≤ P.length ∧ en ≤ i ∧ (glob P S = true ↔ ∃ j, en ≤ j ∧ j ≤ S.length ∧ glob (P.drop (st + 1)) (S.drop j) = true) ∧
    (∀ j, en ≤ j → j ≤ S.length → glob (P.drop (st + 1)) (S.drop j) = true → j + (i - en) ≤ S.length ∧ glob (P.drop p) (S.drop (j + (i - en))) = true) ∧
    glob (P.drop (st + 1)) (S.drop en) = glob (P.drop p) (S.drop i))

theorem GInv.start (P S : List UInt8) : GInv P S 0 0 (-1) 0 := .inl ⟨rfl, rfl, by simp⟩

theorem drop_at (P : List UInt8) (p : Nat) (c : UInt8) (h : P[p]? = some c) : P.drop p = c :: P.drop (p + 1) := by
  obtain ⟨hp, he⟩ := List.getElem?_eq_some_iff.1 h
  rw [List.drop_eq_getElem_cons hp, he]

theorem GInv.star {P S : List UInt8} {p i : Nat} {star : Int} {en : Nat} (h : GInv P S p i star en) (hP : P[p]? = some 42) (hi : i ≤ S.length) : GInv P S (p + 1) i p i := by
  have hp : p < P.length := (List.getElem?_eq_some_iff.1 hP).1
  have hd := drop_at P p 42 hP
  refine .inr ⟨p, rfl, by omega, Nat.le_refl _, ?_, ?_, rfl⟩
  · have key : glob (P.drop p) (S.drop i) = true ↔ ∃ j, i ≤ j ∧ j ≤ S.length ∧ glob (P.drop (p + 1)) (S.drop j) = true := by
      rw [hd, glob_star]
      constructor
      · rintro ⟨k, hk, h⟩
        rw [List.length_drop] at hk
        rw [List.drop_drop] at h
        exact ⟨i + k, by omega, by omega, h⟩
      · rintro ⟨j, h1, h2, h⟩
        refine ⟨j - i, by rw [List.length_drop]; omega, ?_⟩
        rw [List.drop_drop, show i + (j - i) = j from by omega]
        exact h
    rcases h with ⟨_, _, h⟩ | ⟨st, _, _, hen, hA, hB, hC⟩
    · rw [h, key]
    · rw [hA]
      constructor
      · rintro ⟨j, h1, h2, h3⟩
        obtain ⟨h4, h5⟩ := hB j h1 h2 h3
        rw [hd, glob_star] at h5
        obtain ⟨k, hk, h6⟩ := h5
        rw [List.length_drop] at hk
        rw [List.drop_drop] at h6
        exact ⟨_, by omega, by omega, h6⟩
      · intro h3
        exact ⟨en, Nat.le_refl _, by omega, by rw [hC]; exact key.2 h3⟩
  · intro j h1 h2 h3
    rw [Nat.sub_self, Nat.add_zero]
    exact ⟨h2, h3⟩

theorem GInv.char {P S : List UInt8} {p i : Nat} {star : Int} {en : Nat} {c x : UInt8} (h : GInv P S p i star en) (hP : P[p]? = some c) (hc : c ≠ 42) (hS : S[i]? = some x) (hm : c = 63 ∨ lowB c = lowB x) :
    GInv P S (p + 1) (i + 1) star en := by
  have hd := drop_at P p c hP
  have hs := drop_at S i x hS
  have e : glob (P.drop p) (S.drop i) = glob (P.drop (p + 1)) (S.drop (i + 1)) := by
    rw [hd, hs, glob_char _ _ _ _ hc]
    rcases hm with hm | hm <;> simp [hm]
  rcases h with ⟨h1, h0, h⟩ | ⟨st, h1, h2, hen, hA, hB, hC⟩
  · exact .inl ⟨h1, h0, by rw [h, e]⟩
  · refine .inr ⟨st, h1, h2, by omega, hA, ?_, by rw [hC, e]⟩
    intro j h3 h4 h5
    obtain ⟨h6, h7⟩ := hB j h3 h4 h5
    rw [hd] at h7
    rcases hk : S.drop (j + (i - en)) with _ | ⟨y, t⟩
    · rw [hk, glob_char_nil _ _ hc] at h7; cases h7
    · rw [hk, glob_char _ _ _ _ hc] at h7
      have hl : j + (i - en) < S.length := by
        have := congrArg List.length hk
        rw [List.length_drop, List.length_cons] at this; omega
      have ht : t = S.drop (j + (i - en) + 1) := by
        have := congrArg List.tail hk
        simpa using this.symm
      have hj : j + (i + 1 - en) = j + (i - en) + 1 := by omega
      rw [hj, ← ht]
      exact ⟨by omega, (Bool.and_eq_true_iff.1 h7).2⟩

/-- Nothing fits where the search stands. -/
def Miss (P S : List UInt8) (p i : Nat) : Prop := glob (P.drop p) (S.drop i) = false
theorem Miss.end {P S : List UInt8} {p i : Nat} (hp : P.length ≤ p) (hi : i < S.length) : Miss P S p i := by
  unfold Miss
  rw [List.drop_eq_nil_of_le hp, glob_nil, List.drop_eq_getElem_cons hi]; rfl
theorem Miss.char {P S : List UInt8} {p i : Nat} {c x : UInt8} (hP : P[p]? = some c) (hc : c ≠ 42) (hS : S[i]? = some x) (h1 : c ≠ 63) (h2 : lowB c ≠ lowB x) : Miss P S p i := by
  unfold Miss
  rw [drop_at P p c hP, drop_at S i x hS, glob_char _ _ _ _ hc]
  simp [h1, h2]
theorem GInv.back {P S : List UInt8} {p i st en : Nat} (h : GInv P S p i st en) (hm : Miss P S p i) : GInv P S (st + 1) (en + 1) st (en + 1) ∧ st + 1 ≤ P.length ∧ en ≤ i := by
  rcases h with ⟨h1, _⟩ | ⟨st', h1, h2, hen, hA, _, hC⟩
  · omega
  · obtain rfl : st = st' := by omega
    have hne : glob (P.drop (st + 1)) (S.drop en) = false := by rw [hC]; exact hm
    refine ⟨.inr ⟨st, rfl, h2, Nat.le_refl _, ?_, ?_, rfl⟩, h2, hen⟩
    · rw [hA]
      constructor
      · rintro ⟨j, h3, h4, h5⟩
        by_cases hj : j = en
        · subst hj; rw [hne] at h5; cases h5
        · exact ⟨j, by omega, h4, h5⟩
      · rintro ⟨j, h3, h4, h5⟩
        exact ⟨j, by omega, h4, h5⟩
    · intro j h3 h4 h5
      rw [Nat.sub_self, Nat.add_zero]
      exact ⟨h4, h5⟩
theorem GInv.false {P S : List UInt8} {p i : Nat} {en : Nat} (h : GInv P S p i (-1) en) (hm : Miss P S p i) : glob P S = false := by
  rcases h with ⟨_, _, h⟩ | ⟨st, h1, _⟩
  · rw [h]; exact hm
  · omega
theorem GInv.done {P S : List UInt8} {p : Nat} {star : Int} {en : Nat} (h : GInv P S p S.length star en) : glob P S = (P.drop p).all (· == 42) := by
  rw [← glob_all]
  rcases h with ⟨_, _, h⟩ | ⟨st, _, _, hen, hA, hB, hC⟩
  · rw [h, List.drop_length]
  · rw [List.drop_length] at hC
    rw [Bool.eq_iff_iff, hA, ← hC]
    constructor
    · rintro ⟨j, h1, h2, h3⟩
      obtain ⟨h4, _⟩ := hB j h1 h2 h3
      obtain rfl : j = en := by omega
      exact h3
    · intro h
      exact ⟨en, Nat.le_refl _, by omega, h⟩

theorem dropWhile_nil (p : UInt8 → Bool) : ∀ l : List UInt8, l.dropWhile p = [] ↔ l.all p = true
  | [] => by simp
  | c :: r => by
    by_cases h : p c = true
    · simp [List.dropWhile, h, dropWhile_nil p r]
    · simp [List.dropWhile, h]
theorem dropWhile_twice (p : UInt8 → Bool) : ∀ l : List UInt8, (l.dropWhile p).dropWhile p = l.dropWhile p
  | [] => rfl
  | c :: r => by
    by_cases h : p c = true
    · simp [List.dropWhile, h, dropWhile_twice p r]
    · simp [List.dropWhile, h]
theorem trimB_all (l : List UInt8) : (Lib.trimB l 42 = []) ↔ l.all (· == 42) = true := by
  unfold Lib.trimB Lib.trimLeftB Lib.trimRightB
  rw [dropWhile_nil, List.all_reverse]
  constructor
  · intro h
    have h2 := (dropWhile_nil _ _).2 h
    rw [dropWhile_twice] at h2
    have h3 := (dropWhile_nil _ _).1 h2
    rwa [List.all_reverse] at h3
  · intro h
    have h3 : l.reverse.dropWhile (· == 42) = [] := (dropWhile_nil _ _).2 (by rw [List.all_reverse]; exact h)
    rw [h3]; rfl
end Tx
end Go.Proofs.YtpigplnnmhjbkaaDoor
