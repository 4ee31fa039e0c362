/-
  Words: the plain part.
-/
import Derived.Test.YtliadekcbkedmaaDoorPlain
import Derived.Lib.SlTrimSet
import Derived.Lib.IndexAny
namespace Go.Proofs.YtliadekcbkedmaaDoor
namespace Tx

theorem isW_eq (c : UInt8) : List.contains [9, 10, 13, 32] c = isW c := by
  simp only [List.contains, List.elem, isW]
  cases c == 9 <;> cases c == 10 <;> cases c == 13 <;> cases c == 32 <;> rfl

theorem wordsGo_gather : ∀ (a b acc : List UInt8), (∀ c ∈ a, isW c = false) → wordsGo acc (a ++ b) = wordsGo (acc ++ a) b
  | [], b, acc, _ => by simp
  | c :: r, b, acc, h => by
    have hc := h c (by simp)
    rw [List.cons_append, wordsGo, if_neg (by rw [hc]; decide), wordsGo_gather r b _ (fun x hx => h x (by simp [hx]))]
    simp
theorem words_nil : words [] = [] := rfl
theorem words_white (c : UInt8) (r : List UInt8) (h : isW c = true) : words (c :: r) = words r := by
  unfold words; rw [wordsGo, if_pos h, if_pos rfl]
theorem words_split (a b : List UInt8) (hne : a ≠ []) (ha : ∀ c ∈ a, isW c = false) (hb : ∀ c r, b = c :: r → isW c = true) : words (a ++ b) = a :: words b := by
  unfold words
  rw [wordsGo_gather a b [] ha, List.nil_append]
  cases b with
  | nil => simp [wordsGo, hne]
  | cons c r =>
    have hc := hb c r rfl
    rw [wordsGo, if_pos hc, if_neg hne, wordsGo, if_pos hc, if_pos rfl]
theorem words_trim : ∀ l : List UInt8, words (Lib.trimLeftS l [9, 10, 13, 32]) = words l
  | [] => rfl
  | c :: r => by
    unfold Lib.trimLeftS
    by_cases h : isW c = true
    · rw [List.dropWhile_cons_of_pos (by show List.contains [9, 10, 13, 32] c = true; rw [isW_eq]; exact h), words_white c r h]
      exact words_trim r
    · rw [List.dropWhile_cons_of_neg (by show ¬ (List.contains [9, 10, 13, 32] c = true); rw [isW_eq]; exact h)]
/-- What a trimmed string begins with. -/
theorem trim_head (l : List UInt8) : ∀ c r, Lib.trimLeftS l [9, 10, 13, 32] = c :: r → isW c = false := by
  induction l with
  | nil => intro c r h; simp [Lib.trimLeftS] at h
  | cons x t ih =>
    intro c r h
    unfold Lib.trimLeftS at h ih
    by_cases hx : isW x = true
    · rw [List.dropWhile_cons_of_pos (by show List.contains [9, 10, 13, 32] x = true; rw [isW_eq]; exact hx)] at h
      exact ih c r h
    · rw [List.dropWhile_cons_of_neg (by show ¬ (List.contains [9, 10, 13, 32] x = true); rw [isW_eq]; exact hx)] at h
      injection h with h1 _
      subst h1; simpa using hx
theorem trim_le (l : List UInt8) : (Lib.trimLeftS l [9, 10, 13, 32]).length ≤ l.length := by
  unfold Lib.trimLeftS; exact (List.dropWhile_sublist _).length_le
/-- What IndexAny says of a string that is not empty and begins with no white byte. -/
theorem index_white (l : List UInt8) (hne : l ≠ []) (hh : ∀ c r, l = c :: r → isW c = false) :
    (Lib.indexAny l [9, 10, 13, 32] = -1 ∧ words l = [l]) ∨
    (∃ k : Nat, Lib.indexAny l [9, 10, 13, 32] = k ∧ 0 < k ∧ k < l.length ∧ words l = l.take k :: words (l.drop k)) := by
  have none : ∀ t : List UInt8, Lib.indexAny t [9, 10, 13, 32] = -1 → ∀ c ∈ t, isW c = false := by
    intro t
    induction t with
    | nil => intro _ c hc; cases hc
    | cons x t ih =>
      intro h c hc
      rw [Lib.indexAny] at h
      by_cases hx : List.contains [9, 10, 13, 32] x = true
      · rw [if_pos hx] at h; omega
      · rw [if_neg hx] at h
        have hge := Lib.indexAny_ge [9, 10, 13, 32] t
        by_cases hz : Lib.indexAny t [9, 10, 13, 32] = -1
        · rcases List.mem_cons.1 hc with rfl | hc
          · rw [isW_eq] at hx; simpa using hx
          · exact ih hz c hc
        · have : (Lib.indexAny t [9, 10, 13, 32] == -1) = false := by simpa using hz
          rw [this] at h; simp at h; exact absurd h (by omega)
  have some : ∀ (t : List UInt8) (k : Nat), Lib.indexAny t [9, 10, 13, 32] = k → k < t.length ∧ (∀ c ∈ t.take k, isW c = false) ∧ ∀ c r, t.drop k = c :: r → isW c = true := by
    intro t
    induction t with
    | nil => intro k h; simp [Lib.indexAny] at h
    | cons x t ih =>
      intro k h
      rw [Lib.indexAny] at h
      by_cases hx : List.contains [9, 10, 13, 32] x = true
      · rw [if_pos hx] at h
        obtain rfl : k = 0 := by omega
        refine ⟨by simp, by simp, ?_⟩
        intro c r hc
        rw [List.drop_zero] at hc
        injection hc with h1 _
        subst h1; rw [isW_eq] at hx; exact hx
      · rw [if_neg hx] at h
        by_cases hz : Lib.indexAny t [9, 10, 13, 32] = -1
        · rw [hz] at h; simp at h
        · have hb : (Lib.indexAny t [9, 10, 13, 32] == -1) = false := by simpa using hz
          rw [hb] at h
          simp at h
          have hge := Lib.indexAny_ge [9, 10, 13, 32] t
          obtain ⟨j, rfl⟩ : ∃ j, k = j + 1 := ⟨k - 1, by omega⟩
          obtain ⟨h1, h2, h3⟩ := ih j (by omega)
          refine ⟨by simp; omega, ?_, ?_⟩
          · intro c hc
            rw [List.take_succ_cons] at hc
            rcases List.mem_cons.1 hc with rfl | hc
            · rw [isW_eq] at hx; simpa using hx
            · exact h2 c hc
          · intro c r hc
            rw [List.drop_succ_cons] at hc
            exact h3 c r hc
  by_cases hz : Lib.indexAny l [9, 10, 13, 32] = -1
  · left
    refine ⟨hz, ?_⟩
    have := words_split l [] hne (none l hz) (by intro c r h; cases h)
    rwa [List.append_nil, words_nil] at this
  · right
    have hge := Lib.indexAny_ge [9, 10, 13, 32] l
    obtain ⟨k, hk⟩ := Int.eq_ofNat_of_zero_le (show 0 ≤ Lib.indexAny l [9, 10, 13, 32] by omega)
    obtain ⟨h1, h2, h3⟩ := some l k hk
    have hk0 : 0 < k := by
      by_cases h0 : k = 0
      · subst h0
        cases l with
        | nil => exact absurd rfl hne
        | cons c r =>
          have e1 := hh c r rfl
          have e2 := h3 c r (by simp)
          rw [e1] at e2; cases e2
      · omega
    refine ⟨k, hk, hk0, h1, ?_⟩
    have := words_split (l.take k) (l.drop k) (by
      intro e
      have := congrArg List.length e
      rw [List.length_take, List.length_nil] at this; omega) h2 h3
    rwa [List.take_append_drop] at this
theorem wordsGo_len : ∀ (l acc : List UInt8), (wordsGo acc l).length ≤ (if acc = [] then 0 else 1) + l.length
  | [], acc => by
    rw [wordsGo]; split <;> simp
  | c :: r, acc => by
    rw [wordsGo]
    split
    · split
      · have := wordsGo_len r []; simp at this ⊢; omega
      · have := wordsGo_len r []; simp at this ⊢; omega
    · have := wordsGo_len r (acc ++ [c]); simp at this ⊢; omega
theorem words_len (l : List UInt8) : (words l).length ≤ l.length := by
  have := wordsGo_len l []; simpa [words] using this
end Tx
end Go.Proofs.YtliadekcbkedmaaDoor
