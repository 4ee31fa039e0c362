/-
  Pieces of a row of bytes: where they lie.
-/
import Derived.Test.YtdkocjdhekomoaaGreatDoorCPl
namespace Go.Proofs.YtdkocjdhekomoaaGreatDoor
namespace Cd
/-- The number of pieces of at most n. -/
def cnt (n len : Nat) : Nat := (len + n - 1) / n
theorem parts_eq (n len : Nat) : parts n len = (List.range (cnt n len)).map fun k => (k * n, min n (len - k * n)) := rfl
theorem lt_cnt {n len k : Nat} (hn : 0 < n) : k < cnt n len ↔ k * n < len := by
  unfold cnt
  rw [Nat.lt_iff_add_one_le, Nat.le_div_iff_mul_le hn, Nat.add_mul]
  omega
theorem cnt_at {n len k : Nat} (hn : 0 < n) (h1 : len ≤ k * n) (h2 : ∀ j, j < k → j * n < len) : k = cnt n len := by
  have a : ¬ k < cnt n len := fun h => by have := (lt_cnt hn).1 h; omega
  by_cases h : cnt n len < k
  · have := (lt_cnt hn).2 (h2 _ h); omega
  · omega
theorem range_snoc (k : Nat) : List.range (k + 1) = List.range k ++ [k] := List.range_succ
end Cd
end Go.Proofs.YtdkocjdhekomoaaGreatDoor
