/-
  Lines, plainly; the library's variable MaxLen.
-/
import Derived.Test.YtdkocjdhekomoaaGreatDoorAny
import Derived.Sort.EncStr
import Derived.Lib.IndexMore
import Derived.Lib.IndexBytes
import Derived.LoopTactic
import Derived.Deep.DeepMust
namespace Go.Proofs.YtdkocjdhekomoaaGreatDoor
open Go Go.RowKit Go.Shelf
namespace Tx

theorem linesGo_no : ∀ (l acc : List UInt8), 10 ∉ l → linesGo acc l = if acc ++ l = [] then [] else [acc ++ l]
  | [], acc, _ => by simp [linesGo]
  | c :: r, acc, h => by
    have hc : c ≠ 10 := fun e => h (by simp [e])
    have hr : 10 ∉ r := fun e => h (by simp [e])
    rw [linesGo, if_neg hc, linesGo_no r _ hr]
    simp
theorem linesGo_at : ∀ (a b acc : List UInt8), 10 ∉ a → linesGo acc (a ++ 10 :: b) = chop (acc ++ a) :: linesGo [] b
  | [], b, acc, _ => by simp [linesGo]
  | c :: r, b, acc, h => by
    have hc : c ≠ 10 := fun e => h (by simp [e])
    have hr : 10 ∉ r := fun e => h (by simp [e])
    rw [List.cons_append, linesGo, if_neg hc, linesGo_at r b _ hr]
    simp
theorem lines_no (l : List UInt8) (h : 10 ∉ l) (hne : l ≠ []) : lines l = [l] := by
  unfold lines; rw [linesGo_no l [] h]; simp [hne]
theorem lines_at (a b : List UInt8) (h : 10 ∉ a) : lines (a ++ 10 :: b) = chop a :: lines b := by
  unfold lines; rw [linesGo_at a b [] h]; simp
theorem lines_nil : lines [] = [] := rfl
theorem indexByte_no : ∀ (l : List UInt8), 10 ∉ l → Lib.indexByte l 10 = -1
  | [], _ => rfl
  | c :: r, h => by
    have hc : c ≠ 10 := fun e => h (by simp [e])
    have hr : 10 ∉ r := fun e => h (by simp [e])
    simp [Lib.indexByte, hc, indexByte_no r hr]
theorem indexByte_at : ∀ (a b : List UInt8), 10 ∉ a → Lib.indexByte (a ++ 10 :: b) 10 = a.length
  | [], b, _ => by simp [Lib.indexByte]
  | c :: r, b, h => by
    have hc : c ≠ 10 := fun e => h (by simp [e])
    have hr : 10 ∉ r := fun e => h (by simp [e])
    have := indexByte_at r b hr
    simp [Lib.indexByte, hc, this]
/-- What Cut gives at a line feed, and what the lines are then. -/
theorem cut_lf (l : List UInt8) (hne : l ≠ []) : (∃ a b, Lib.cut l [10] = (a, b, true) ∧ lines l = chop a :: lines b ∧ a.length + b.length + 1 = l.length) ∨ (Lib.cut l [10] = (l, [], false) ∧ lines l = [l]) := by
  by_cases h : 10 ∈ l
  · obtain ⟨a, b, rfl, ha⟩ := List.eq_append_cons_of_mem h
    left
    refine ⟨a, b, ?_, lines_at a b ha, by simp; omega⟩
    unfold Lib.cut
    rw [Lib.index_one, indexByte_at a b ha]
    simp
  · right
    refine ⟨?_, lines_no l h hne⟩
    unfold Lib.cut
    rw [Lib.index_one, indexByte_no l h]
    simp
theorem bs_len (l : List UInt8) : (⟨l.toArray⟩ : ByteArray).size = l.length := by show l.toArray.size = _; simp
theorem chop_le (l : List UInt8) : (chop l).length ≤ l.length := Lib.trimSuffix_le _ _
end Tx

/-- The library's variable internal/bytealg.MaxLen holds some int. -/
def MaxAt (w : World) : Prop := ∃ m : Int, w.cell? ⟨3, 0, none⟩ = some (.int .i64 m)
theorem MaxAt.pos {w : World} (h : MaxAt w) : 3 < w.heap.size := by
  obtain ⟨m, h⟩ := h
  by_cases hz : 3 < w.heap.size
  · exact hz
  · have : w.heap[3]? = none := Array.getElem?_eq_none (by omega)
    simp [World.cell?, this] at h
theorem MaxAt.below {B : Nat} {w w' : World} (h : MaxAt w) (hB : Below B w w') (h0 : 3 < B) : MaxAt w' := by
  obtain ⟨m, h⟩ := h
  exact ⟨m, (hB.cell (p := ⟨3, 0, none⟩) h0).trans h⟩

end Go.Proofs.YtdkocjdhekomoaaGreatDoor
