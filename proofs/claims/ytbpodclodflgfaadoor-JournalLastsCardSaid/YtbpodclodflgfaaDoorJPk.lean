/-
  pick of the law's text, at 3 and at 5.
-/
import Derived.Test.YtbpodclodflgfaaDoorJFw
namespace Go.Proofs.YtbpodclodflgfaaDoor
open Go Go.RowKit
theorem pick_ret {a b : Int} (h : b = a) : Ending.returned (.int .i64 a) = .returned (.int .i64 b) := by rw [h]
set_option maxHeartbeats 1000000 in
set_option maxRecDepth 100000 in
theorem pick_3 (x : Int) (h0 : -9223372036854775808 ≤ x) (h1 : x ≤ 9223372036854775807) (w : World) : Calls Tryd.prog 26 #[.int .i64 x, .int .i64 3] w fun e w' => e = .returned (.int .i64 (x % 3)) ∧ w = w' := by
  obtain ⟨r, hr⟩ : ∃ r, Int.tmod x 3 = r := ⟨_, rfl⟩
  have hr2 : (0 ≤ x ∧ r = x % 3) ∨ (x < 0 ∧ r = -((-x) % 3)) := by
    rw [← hr]
    by_cases hx : 0 ≤ x
    · exact .inl ⟨hx, Int.tmod_eq_emod_of_nonneg hx⟩
    · refine .inr ⟨by omega, ?_⟩
      have e : x.tmod 3 = -((-x).tmod 3) := by rw [Int.neg_tmod]; omega
      rw [e, Int.tmod_eq_emod_of_nonneg (by omega)]
  have hr0 : -3 < r ∧ r < 3 := by omega
  have hp : x % 3 = if r < 0 then r + 3 else r := by
    split <;> omega
  rw [hp]
  clear hp hr2
  by_cases hn : r < 0
  · rw [if_pos hn]
    go_enter Tryd.func26, Tryd.ntmps26
    go_wp2
    go_ret
    exact ⟨by first | rfl | exact pick_ret (by omega), rfl⟩
  · rw [if_neg hn]
    go_enter Tryd.func26, Tryd.ntmps26
    go_wp2
    go_ret
    exact ⟨rfl, rfl⟩
set_option maxHeartbeats 1000000 in
set_option maxRecDepth 100000 in
theorem pick_5 (x : Int) (h0 : -9223372036854775808 ≤ x) (h1 : x ≤ 9223372036854775807) (w : World) : Calls Tryd.prog 26 #[.int .i64 x, .int .i64 5] w fun e w' => e = .returned (.int .i64 (x % 5)) ∧ w = w' := by
  obtain ⟨r, hr⟩ : ∃ r, Int.tmod x 5 = r := ⟨_, rfl⟩
  have hr2 : (0 ≤ x ∧ r = x % 5) ∨ (x < 0 ∧ r = -((-x) % 5)) := by
    rw [← hr]
    by_cases hx : 0 ≤ x
    · exact .inl ⟨hx, Int.tmod_eq_emod_of_nonneg hx⟩
    · refine .inr ⟨by omega, ?_⟩
      have e : x.tmod 5 = -((-x).tmod 5) := by rw [Int.neg_tmod]; omega
      rw [e, Int.tmod_eq_emod_of_nonneg (by omega)]
  have hr0 : -5 < r ∧ r < 5 := by omega
  have hp : x % 5 = if r < 0 then r + 5 else r := by
    split <;> omega
  rw [hp]
  clear hp hr2
  by_cases hn : r < 0
  · rw [if_pos hn]
    go_enter Tryd.func26, Tryd.ntmps26
    go_wp2
    go_ret
    exact ⟨by first | rfl | exact pick_ret (by omega), rfl⟩
  · rw [if_neg hn]
    go_enter Tryd.func26, Tryd.ntmps26
    go_wp2
    go_ret
    exact ⟨rfl, rfl⟩
end Go.Proofs.YtbpodclodflgfaaDoor
