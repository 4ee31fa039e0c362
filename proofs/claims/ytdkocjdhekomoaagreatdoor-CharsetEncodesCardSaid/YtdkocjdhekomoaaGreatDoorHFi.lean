/-
  text.Fields: a row of the call's own.
-/
import Derived.Test.YtdkocjdhekomoaaGreatDoorHLib3
import Derived.Test.YtdkocjdhekomoaaGreatDoorHRs
import Derived.Test.YtdkocjdhekomoaaGreatDoorIter
import Derived.RangeFuncNested
import Derived.RangeFuncBound
import Derived.RangeFuncCalls
import Derived.RangeFuncLeaves
import Derived.RangeFuncStops
import Derived.Shelf.Abstract
import Derived.Shelf.RegionOpen
import Derived.OwnWalkIn
import Derived.TacticsInMore
import Derived.LoopNIn
import Derived.LoopIn
namespace Go.Proofs.YtdkocjdhekomoaaGreatDoor
open Go Go.RowKit Go.Shelf
set_option maxHeartbeats 2000000 in
set_option maxRecDepth 100000 in
theorem fields_any (s : ByteArray) (w : World) (hs : s.size ≤ 1000000) :
    Calls Tryz.prog 22 #[.string s] w fun e w' => ∃ v, e = .returned v ∧ w'.ownsRow w.heap.size 9 1 v (Tx.words s.data.toList).length ((Tx.words s.data.toList).map encStr) ∧ Below w.heap.size w w' := by
  refine (callsIn_wide (n := 5)).1 ?_
  refine callsIn_of_wp Tryz.func22 rfl trivial ?_ rfl
  simp only [Tryz.ntmps22, List.size_toArray, List.length_cons, List.length_nil, Nat.reduceAdd, Nat.reduceSub, Array.replicate_succ, Array.replicate_zero, List.push_toArray, List.append_toArray, List.nil_append, List.cons_append]
  have hwl := Tx.words_len s.data.toList
  have hsz := Lib.size_eq s
  have hseq : SeqGives Fence.wide 2 Tryz.prog 79 #[.pointer (some ⟨w.heap.size, 0, none⟩)] encStr (fun ys => ys = Tx.words s.data.toList) (Tx.words s.data.toList).length (w.alloc (.cells #[.string s] 9)) :=
    (words_stops s hs w.heap.size _ (by simp) (by simp)).gives
  have hcol := AnyZ.collect_in Tryz.laysZ8 Fence.wide 4 trivial trivial rfl (by omega) 79 #[.pointer (some ⟨w.heap.size, 0, none⟩)] trivial (enters_of Tryz.func79 (by kernel_rfl) rfl) _ _ (by unfold maxLen; omega) (by omega) _ hseq
  have HC := Lib.hid hcol
  clear hcol hseq hwl hsz
  gi_wp2_with (refine ⟨trivial, ?_⟩; gi_at_call 52; refine (words_in _ _ _).mono ?_; rintro e w' ⟨rfl, rfl⟩)
  refine ⟨trivial, ?_⟩
  refine CallsIn.mono HC.out ?_
  rintro e w' ⟨v, ss, rfl, rfl, hrow, _, hb⟩
  gi_wp2
  go_ret
  exact ⟨_, rfl, ownsRow_base_a hrow (by simp), ((Below.refl _ w).alloc (Nat.le_refl _) _).trans (hb.mono (by simp))⟩
end Go.Proofs.YtdkocjdhekomoaaGreatDoor
