/-
  The contract of the reference's Strings, on two equal lists.
-/
import Derived.Test.YtpigplnnmhjbkaaDoorCases
import Derived.Test.YtpigplnnmhjbkaaDoorSmall
namespace Go.Proofs.YtpigplnnmhjbkaaDoor
open Go Go.RowKit Go.Shelf
/-- A value that holds just these strings. -/
structure RowOf (W : World) (v : Value) (xa : Option Addr) (b off cap : Nat) (X : List (List UInt8)) : Prop where
  is : v = .slice xa X.length cap
  at_ : 0 < X.length → xa = some ⟨b, off, none⟩
  cell : ∀ (j : Nat) (x : List UInt8), X[j]? = some x → W.cell? ⟨b, off + j, none⟩ = some (encStr x)
  lt : 0 < X.length → b < W.heap.size
theorem RowOf.below {W W' : World} {v : Value} {xa : Option Addr} {b off cap : Nat} {X : List (List UInt8)} (h : RowOf W v xa b off cap X) (hb : Below W.heap.size W W') : RowOf W' v xa b off cap X :=
  ⟨h.is, h.at_, fun j x hj => by
    have hp : 0 < X.length := by have := (List.getElem?_eq_some_iff.1 hj).1; omega
    exact (hb.cell (p := ⟨b, off + j, none⟩) (h.lt hp)).trans (h.cell j x hj), fun hp => Nat.lt_of_lt_of_le (h.lt hp) hb.size⟩
theorem rowOf_own {W : World} {base : Nat} {v : Value} {X : List (List UInt8)} (h : W.ownsRow base 9 1 v X.length (X.map encStr)) : ∃ xa b cap, RowOf W v xa b 0 cap X := by
  by_cases hn : 0 < X.length
  · obtain ⟨g, cap, rfl, _, hg, hc⟩ := row_some h hn
    refine ⟨_, g, cap, rfl, fun _ => rfl, fun j x hj => ?_, fun _ => hg⟩
    rw [Nat.zero_add]
    exact hc j _ (by rw [List.getElem?_map, hj]; rfl)
  · obtain ⟨a, cap, rfl⟩ := row_shape h
    refine ⟨a, 0, cap, rfl, fun h => absurd h hn, fun j x hj => ?_, fun h => absurd h hn⟩
    exact absurd (List.getElem?_eq_some_iff.1 hj).1 (by omega)

set_option maxHeartbeats 1000000 in
set_option maxRecDepth 100000 in
theorem strings_walk (xa ya : Option Addr) (b off cap b' off' cap' : Nat) (X : List (List UInt8)) (w : World) (hl : X.length ≤ 9223372036854775807)
    (hx : 0 < X.length → xa = some ⟨b, off, none⟩) (hy : 0 < X.length → ya = some ⟨b', off', none⟩)
    (cx : Hid (∀ (j : Nat) (x : List UInt8), X[j]? = some x → w.cell? ⟨b, off + j, none⟩ = some (encStr x))) (cy : Hid (∀ (j : Nat) (x : List UInt8), X[j]? = some x → w.cell? ⟨b', off' + j, none⟩ = some (encStr x))) :
    Calls Tryd.prog 26 #[.slice xa X.length cap, .slice ya X.length cap'] w fun e w' => e = .returned (.bool true) ∧ ∃ n, w' = w.drewN n := by
  go_enter Tryd.func26, Tryd.ntmps26
  go_wp2
  go_loopw [5] (fun i wr => ∃ k : Nat, i = .int .i64 k ∧ k ≤ X.length ∧ Hid (∃ n, wr = w.drewN n)) (fun i _ => X.length - (intOf i).toNat)
  case atStart => exact ⟨0, rfl, Nat.zero_le _, ⟨0, rfl⟩⟩
  case round =>
    obtain ⟨k, rfl, hk, hwr⟩ := hrel
    by_cases hlt : k < X.length
    · obtain rfl := hx (by omega)
      obtain rfl := hy (by omega)
      have c1 : wr.cell? ⟨b, off + k, none⟩ = some (encStr X[k]) := by obtain ⟨n, rfl⟩ := hwr; exact cx.out k _ (List.getElem?_eq_getElem hlt)
      have c2 : wr.cell? ⟨b', off' + k, none⟩ = some (encStr X[k]) := by obtain ⟨n, rfl⟩ := hwr; exact cy.out k _ (List.getElem?_eq_getElem hlt)
      obtain ⟨s, hs⟩ : ∃ s, encStr X[k] = .string s := ⟨_, rfl⟩
      rw [hs] at c1 c2
      clear hs
      have hne : (s.toList != s.toList) = false := by simp
      go_wp2
      go_quiet (fail)
      go_wp2
      go_roundw
      case rel => exact ⟨k + 1, by go_num, by omega, drews_more hwr.out _⟩
      case measure => simp [intOf]; omega
    · go_wp2
      go_ret
      exact ⟨rfl, hwr.out⟩
end Go.Proofs.YtpigplnnmhjbkaaDoor
