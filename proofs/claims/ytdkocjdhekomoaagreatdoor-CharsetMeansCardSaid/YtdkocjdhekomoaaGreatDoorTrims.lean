/-
  Words: more of the plain part: what the law on words says of them.
-/
import Derived.Test.YtdkocjdhekomoaaGreatDoorWordsP
import Derived.Test.YtdkocjdhekomoaaGreatDoorSqueeze
namespace Go.Proofs.YtdkocjdhekomoaaGreatDoor
namespace Tx
theorem words_parts : ∀ (t : List UInt8) (x : List UInt8) (xs : List (List UInt8)), words t = x :: xs → ∃ ws T, (∀ c ∈ ws, isW c = true) ∧ t = ws ++ (x ++ T) ∧ words T = xs ∧ (∀ c ∈ x, isW c = false) ∧ x ≠ []
  | [], x, xs, h => by rw [words_nil] at h; cases h
  | c :: r, x, xs, h => by
    by_cases hc : isW c = true
    · rw [words_white c r hc] at h
      obtain ⟨ws, T, h1, h2, h3⟩ := words_parts r x xs h
      refine ⟨c :: ws, T, ?_, by rw [h2]; rfl, h3⟩
      intro d hd
      rcases List.mem_cons.1 hd with rfl | hd
      · exact hc
      · exact h1 d hd
    · have hc' : isW c = false := by simpa using hc
      have e : c :: r = (c :: r).takeWhile (fun d => !isW d) ++ (c :: r).dropWhile (fun d => !isW d) := (List.takeWhile_append_dropWhile).symm
      have ha : (c :: r).takeWhile (fun d => !isW d) ≠ [] := by rw [List.takeWhile_cons_of_pos (by simp [hc'])]; simp
      have hn : ∀ d ∈ (c :: r).takeWhile (fun d => !isW d), isW d = false := fun d hd => by
        have := List.all_eq_true.1 (List.all_takeWhile (p := fun d => !isW d) (l := c :: r)) d hd
        simpa using this
      have hb : ∀ d q, (c :: r).dropWhile (fun d => !isW d) = d :: q → isW d = true := fun d q hq => by
        have := List.head?_dropWhile_not (fun d => !isW d) (c :: r)
        rw [hq] at this
        simpa using this
      rw [e, words_split _ _ ha hn hb] at h
      injection h with h1 h2
      refine ⟨[], (c :: r).dropWhile (fun d => !isW d), ?_, ?_, h2, ?_, ?_⟩
      · intro d hd; cases hd
      · rw [List.nil_append, ← h1]; exact e
      · rw [← h1]; exact hn
      · rw [← h1]; exact ha

theorem wordsGo_nil (acc : List UInt8) : wordsGo acc [] = if acc = [] then [] else [acc] := by rw [wordsGo]
theorem wordsGo_cons (acc : List UInt8) (c : UInt8) (r : List UInt8) : wordsGo acc (c :: r) = if isW c then (if acc = [] then wordsGo [] r else acc :: wordsGo [] r) else wordsGo (acc ++ [c]) r := by rw [wordsGo]
theorem wordsGo_white : ∀ (a acc : List UInt8) (w : UInt8) (b : List UInt8), isW w = true → wordsGo acc (a ++ w :: b) = wordsGo acc a ++ words b
  | [], acc, w, b, h => by
    rw [List.nil_append, wordsGo_cons, if_pos h, wordsGo_nil]
    by_cases ha : acc = []
    · rw [if_pos ha, if_pos ha]; rfl
    · rw [if_neg ha, if_neg ha]; rfl
  | c :: r, acc, w, b, h => by
    rw [List.cons_append, wordsGo_cons, wordsGo_cons]
    by_cases hc : isW c = true
    · rw [if_pos hc, if_pos hc]
      by_cases ha : acc = []
      · rw [if_pos ha, if_pos ha]; exact wordsGo_white r [] w b h
      · rw [if_neg ha, if_neg ha, wordsGo_white r [] w b h]; rfl
    · rw [if_neg hc, if_neg hc]; exact wordsGo_white r _ w b h
theorem words_between (a : List UInt8) (w : UInt8) (b : List UInt8) (h : isW w = true) : words (a ++ w :: b) = words a ++ words b := wordsGo_white a [] w b h
theorem words_one (x : List UInt8) (hx : x ≠ []) (hn : ∀ c ∈ x, isW c = false) : words x = [x] := by
  have := words_split x [] hx hn (fun _ _ h => by cases h)
  rwa [List.append_nil, words_nil] at this
theorem words_chain : ∀ (r : List (List UInt8)) (x : List UInt8), x ≠ [] → (∀ c ∈ x, isW c = false) → (∀ y ∈ r, y ≠ [] ∧ ∀ c ∈ y, isW c = false) → words (x ++ (r.map (fun y => 32 :: y)).flatten) = x :: r
  | [], x, hx, hn, _ => by simpa using words_one x hx hn
  | y :: r, x, hx, hn, h => by
    have h1 := h y (by simp)
    rw [List.map_cons, List.flatten_cons, List.cons_append, words_between _ _ _ (by rfl), words_one x hx hn, words_chain r y h1.1 h1.2 (fun z hz => h z (by simp [hz]))]
    rfl
theorem words_join (l : List (List UInt8)) (h : ∀ y ∈ l, y ≠ [] ∧ ∀ c ∈ y, isW c = false) : words (joinSp l) = l := by
  cases l with
  | nil => rfl
  | cons x r => exact words_chain r x (h x (by simp)).1 (h x (by simp)).2 (fun z hz => h z (by simp [hz]))
theorem wordsGo_all : ∀ (l acc : List UInt8), (∀ c ∈ acc, isW c = false) → ∀ x ∈ wordsGo acc l, (∀ c ∈ x, isW c = false) ∧ x.length ≤ acc.length + l.length
  | [], acc, h, x, hx => by
    rw [wordsGo] at hx
    by_cases ha : acc = []
    · rw [if_pos ha] at hx; cases hx
    · rw [if_neg ha] at hx
      obtain rfl := List.mem_singleton.1 hx
      exact ⟨h, by simp⟩
  | c :: r, acc, h, x, hx => by
    rw [wordsGo] at hx
    by_cases hc : isW c = true
    · rw [if_pos hc] at hx
      by_cases ha : acc = []
      · rw [if_pos ha] at hx
        have := wordsGo_all r [] (fun _ h => by cases h) x hx
        exact ⟨this.1, by have := this.2; simp at this ⊢; omega⟩
      · rw [if_neg ha] at hx
        rcases List.mem_cons.1 hx with rfl | hx
        · exact ⟨h, by omega⟩
        · have := wordsGo_all r [] (fun _ h => by cases h) x hx
          exact ⟨this.1, by have := this.2; simp at this ⊢; omega⟩
    · rw [if_neg hc] at hx
      have := wordsGo_all r (acc ++ [c]) (fun d hd => by
        rcases List.mem_append.1 hd with hd | hd
        · exact h d hd
        · obtain rfl := List.mem_singleton.1 hd; simpa using hc) x hx
      exact ⟨this.1, by have := this.2; simp at this ⊢; omega⟩
theorem words_all (l : List UInt8) : ∀ x ∈ words l, (∀ c ∈ x, isW c = false) ∧ x.length ≤ l.length := fun x hx => by
  have := wordsGo_all l [] (fun _ h => by cases h) x hx
  simpa using this
theorem words_squeeze (l : List UInt8) : words (squeeze l) = words l := words_join _ (fun y hy => ⟨words_ne l y hy, (words_all l y hy).1⟩)
theorem squeeze_squeeze (l : List UInt8) : squeeze (squeeze l) = squeeze l := by
  show joinSp (words (squeeze l)) = _
  rw [words_squeeze]; rfl
theorem squeeze_len (l : List UInt8) : (squeeze l).length ≤ l.length * (l.length + 1) := by
  refine Nat.le_trans (joinSp_len (words l) l.length (fun x hx => (words_all l x hx).2)) ?_
  exact Nat.mul_le_mul_right _ (words_len l)

/-- Trim. -/
def trim (l : List UInt8) : List UInt8 := Lib.trimS l [9, 10, 13, 32]
theorem words_dropR : ∀ r : List UInt8, words (r.dropWhile (fun c => [9, 10, 13, 32].contains c)).reverse = words r.reverse
  | [] => rfl
  | c :: r => by
    by_cases hc : isW c = true
    · rw [List.dropWhile_cons_of_pos (by rw [isW_eq]; exact hc), words_dropR r, List.reverse_cons, words_between _ _ _ hc, words_nil, List.append_nil]
    · rw [List.dropWhile_cons_of_neg (by rw [isW_eq]; exact hc)]
theorem words_of_trim (l : List UInt8) : words (trim l) = words l := by
  show words (Lib.trimLeftS (Lib.trimRightS l _) _) = _
  rw [words_trim]
  unfold Lib.trimRightS
  have := words_dropR l.reverse
  rwa [List.reverse_reverse] at this
theorem trim_len (l : List UInt8) : (trim l).length ≤ l.length := by
  refine Nat.le_trans (trim_le _) ?_
  unfold Lib.trimRightS
  have := (List.dropWhile_suffix (l := l.reverse) (fun c => [9, 10, 13, 32].contains c)).length_le
  simpa using this
theorem trim_first (l : List UInt8) : ∀ c, (trim l).head? = some c → isW c = false := fun c h => by
  cases e : trim l with
  | nil => rw [e] at h; cases h
  | cons d r => rw [e] at h; cases h; exact trim_head _ _ r e
theorem trim_last (l : List UInt8) : ∀ c, (trim l).getLast? = some c → isW c = false := fun c h => by
  have hs : trim l <:+ Lib.trimRightS l [9, 10, 13, 32] := List.dropWhile_suffix _
  obtain ⟨p, hp⟩ := hs
  have h2 : (Lib.trimRightS l [9, 10, 13, 32]).getLast? = some c := by
    rw [← hp, List.getLast?_append, h]; rfl
  unfold Lib.trimRightS at h2
  rw [List.getLast?_reverse] at h2
  have := List.head?_dropWhile_not (fun c => [9, 10, 13, 32].contains c) l.reverse
  rw [h2] at this
  dsimp only at this
  rw [isW_eq] at this
  exact this
theorem trim_same (x : List UInt8) (h1 : ∀ c, x.head? = some c → isW c = false) (h2 : ∀ c, x.getLast? = some c → isW c = false) : trim x = x := by
  have e2 : Lib.trimRightS x [9, 10, 13, 32] = x := by
    unfold Lib.trimRightS
    cases e : x.reverse with
    | nil => have : x = [] := by simpa using e
             rw [this]; rfl
    | cons c r =>
      have hc : isW c = false := h2 c (by rw [← List.head?_reverse, e]; rfl)
      rw [List.dropWhile_cons_of_neg (by rw [isW_eq, hc]; decide), ← e, List.reverse_reverse]
  show Lib.trimLeftS (Lib.trimRightS x _) _ = x
  rw [e2]
  unfold Lib.trimLeftS
  cases e : x with
  | nil => rfl
  | cons c r =>
    have hc : isW c = false := h1 c (by rw [e]; rfl)
    rw [List.dropWhile_cons_of_neg (by rw [isW_eq, hc]; decide)]
theorem trim_trim (l : List UInt8) : trim (trim l) = trim l := trim_same _ (trim_first l) (trim_last l)
end Tx
end Go.Proofs.YtdkocjdhekomoaaGreatDoor
