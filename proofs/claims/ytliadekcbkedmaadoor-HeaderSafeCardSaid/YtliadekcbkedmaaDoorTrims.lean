/-
  Trim, plainly (the short form: no words).
-/
import Derived.Test.YtliadekcbkedmaaDoorWordsP
namespace Go.Proofs.YtliadekcbkedmaaDoor
namespace Tx
/-- Trim. -/
def trim (l : List UInt8) : List UInt8 := Lib.trimS l [9, 10, 13, 32]
theorem trim_len (l : List UInt8) : (trim l).length ≤ l.length := by
  refine Nat.le_trans (trim_le _) ?_
  unfold Lib.trimRightS
  have := (List.dropWhile_suffix (l := l.reverse) (fun c => [9, 10, 13, 32].contains c)).length_le
  simpa using this
theorem trim_first (l : List UInt8) : ∀ c, (trim l).head? = some c → isW c = false := fun c h => by
  cases e : trim l with
  | nil => rw [e] at h; cases h
  | cons d r => rw [e] at h; cases h; exact trim_head _ _ r e
theorem trim_last (l : List UInt8) : ∀ c, (trim l).getLast? = some c → isW c = false := fun c h => by
  have hs : trim l <:+ Lib.trimRightS l [9, 10, 13, 32] := List.dropWhile_suffix _
  obtain ⟨p, hp⟩ := hs
  have h2 : (Lib.trimRightS l [9, 10, 13, 32]).getLast? = some c := by
    rw [← hp, List.getLast?_append, h]; rfl
  unfold Lib.trimRightS at h2
  rw [List.getLast?_reverse] at h2
  have := List.head?_dropWhile_not (fun c => [9, 10, 13, 32].contains c) l.reverse
  rw [h2] at this
  dsimp only at this
  rw [isW_eq] at this
  exact this
theorem trim_same (x : List UInt8) (h1 : ∀ c, x.head? = some c → isW c = false) (h2 : ∀ c, x.getLast? = some c → isW c = false) : trim x = x := by
  have e2 : Lib.trimRightS x [9, 10, 13, 32] = x := by
    unfold Lib.trimRightS
    cases e : x.reverse with
    | nil => have : x = [] := by simpa using e
             rw [this]; rfl
    | cons c r =>
      have hc : isW c = false := h2 c (by rw [← List.head?_reverse, e]; rfl)
      rw [List.dropWhile_cons_of_neg (by rw [isW_eq, hc]; decide), ← e, List.reverse_reverse]
  show Lib.trimLeftS (Lib.trimRightS x _) _ = x
  rw [e2]
  unfold Lib.trimLeftS
  cases e : x with
  | nil => rfl
  | cons c r =>
    have hc : isW c = false := h1 c (by rw [e]; rfl)
    rw [List.dropWhile_cons_of_neg (by rw [isW_eq, hc]; decide)]
theorem trim_trim (l : List UInt8) : trim (trim l) = trim l := trim_same _ (trim_first l) (trim_last l)
end Tx
end Go.Proofs.YtliadekcbkedmaaDoor
