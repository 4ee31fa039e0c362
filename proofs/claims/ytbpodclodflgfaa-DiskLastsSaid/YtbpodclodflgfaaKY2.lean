/-
  A list of strings that came in, within the form's reach.
-/
import Derived.Test.YtbpodclodflgfaaKY
namespace Go.Proofs.Ytbpodclodflgfaa
open Go Go.ChangeShapes Go.WideShapes Go.ChangeAt Go.RowKit
/-- A slice that reads as these strings. -/
structure LR (w : World) (xa : Option Addr) (b off : Nat) (X : List (List UInt8)) : Prop where
  at_ : 0 < X.length → xa = some ⟨b, off, none⟩
  cell : ∀ j x, X[j]? = some x → w.cell? ⟨b, off + j, none⟩ = some (.string (enc x))
  lt : 0 < X.length → b < w.heap.size
  reach : ∀ x ∈ X, x.length ≤ 140737488351232
theorem LR.below {w w' : World} {xa : Option Addr} {b off : Nat} {X : List (List UInt8)} (h : LR w xa b off X) (hb : Below w.heap.size w w') : LR w' xa b off X :=
  ⟨h.at_, fun j x hj => (hb.cell (p := ⟨b, off + j, none⟩) (h.lt (by have := (List.getElem?_eq_some_iff.1 hj).1; omega))).trans (h.cell j x hj), fun hp => Nat.lt_of_lt_of_le (h.lt hp) hb.size, h.reach⟩
theorem weights_mem {H : Type} {P : Program} {e : TypeId} : ∀ {l : List (DataW H)} {d : DataW H} {n : Nat}, d ∈ l → n ∈ d.weights P e → n ∈ DataW.weightsAll P e l
  | [], _, _, h, _ => by cases h
  | d0 :: r, d, n, h, hn => by
    unfold DataW.weightsAll
    rcases List.mem_cons.1 h with rfl | h
    · exact List.mem_append_left _ hn
    · exact List.mem_append_right _ (weights_mem h hn)
theorem open_lr {H : Type} {enc' : TypeId × Value → H} {W : World} {sp : Nat → Bool} {held : Bool} {fuel : Nat} {v : Value} {y : DataW H × List MemPlace} (h : DataW.trod enc' Try.prog W 0 sp held fuel 40 [v] = some y) (hr : ∀ n ∈ y.1.weights Try.prog 40, n ≤ reachBytes) :
    ∃ (xa : Option Addr) (b off cap n : Nat) (X : List (List UInt8)), v = .slice xa n cap ∧ X.length = n ∧ n ≤ 9223372036854775807 ∧ LR W xa b off X := by
  rcases open_strings Try.underlying40 Try.underlying9 (by kernel_rfl) h with ⟨hcs, _⟩ | ⟨a, len, cap, ss, hcs, _, hl, hm, hz, hx, hcell, hws⟩
  · injection hcs with hcs _
    exact ⟨none, 0, 0, 0, 0, [], hcs, rfl, by omega, ⟨fun h => absurd h (Nat.lt_irrefl _), fun j x hj => by simp at hj, fun h => absurd h (Nat.lt_irrefl _), fun x hx => by cases hx⟩⟩
  · injection hcs with hcs _
    unfold maxLen at hm
    have hle : len ≤ ss.length := by rw [hz]; split <;> omega
    have hXl : ((ss.take len).map fun s => s.data.toList).length = len := by rw [List.length_map, List.length_take]; omega
    have hreach : ∀ x ∈ (ss.take len).map fun s => s.data.toList, x.length ≤ 140737488351232 := fun x hxm => by
      obtain ⟨s, hs, rfl⟩ := List.mem_map.1 hxm
      refine hr _ ?_
      rw [hx]
      show s.data.toList.length ∈ DataW.weights Try.prog 40 (.slice (strs (ss.take len)) (strs (ss.drop len)))
      unfold DataW.weights
      rw [Try.underlying40]
      refine List.mem_cons_of_mem _ (List.mem_append_left _ (weights_mem (d := .lit (.string s.data.toList)) ?_ ?_))
      · exact List.mem_map.2 ⟨s, hs, rfl⟩
      · unfold DataW.weights
        exact List.mem_singleton.2 rfl
    by_cases h0 : len = 0
    · subst h0
      exact ⟨some a, 0, 0, cap, 0, [], hcs, rfl, by omega, ⟨fun h => absurd h (Nat.lt_irrefl _), fun j x hj => by simp at hj, fun h => absurd h (Nat.lt_irrefl _), fun x hx => by cases hx⟩⟩
    · obtain ⟨xb, xo, spot⟩ := a
      have hc0 := hcell 0 (by omega)
      have hspot : spot = none := by simpa [Addr.add] using World.cell?_spot hc0
      subst hspot
      have hadd : ∀ j, Addr.add ⟨xb, xo, none⟩ j = ⟨xb, xo + j, none⟩ := fun j => by unfold Addr.add; by_cases hj : j = 0 <;> simp [hj]
      have hlt : xb < W.heap.size := by
        rw [hadd] at hc0
        exact World.block_lt_of_cell? W _ hc0
      refine ⟨some ⟨xb, xo, none⟩, xb, xo, cap, len, (ss.take len).map fun s => s.data.toList, hcs, hXl, by omega, ⟨fun _ => rfl, fun j x hj => ?_, fun _ => hlt, hreach⟩⟩
      rw [List.getElem?_map] at hj
      obtain ⟨s, hs, rfl⟩ := Option.map_eq_some_iff.1 hj
      have hjl : j < len := by have := (List.getElem?_eq_some_iff.1 hs).1; rw [List.length_take] at this; omega
      rw [List.getElem?_take_of_lt hjl] at hs
      have h1 := hcell j (by omega)
      rw [hadd] at h1
      rw [h1, List.getD_eq_getElem?_getD, hs]
      rfl
theorem open_lrV {H : Type} {enc' : TypeId × Value → H} {W : World} {v : Value} {d : DataW H} {p : List MemPlace} (hs : ∃ a len cap, v = .slice a len cap) (h : DataW.Trod enc' Try.prog W 0 (fun _ => true) true 40 v d p) (hr : ∀ n ∈ d.weights Try.prog 40, n ≤ reachBytes) :
    ∃ (xa : Option Addr) (b off cap n : Nat) (X : List (List UInt8)), v = .slice xa n cap ∧ X.length = n ∧ n ≤ 9223372036854775807 ∧ LR W xa b off X := by
  obtain ⟨a0, len, cap, rfl⟩ := hs
  obtain ⟨fuel, hf⟩ := h
  exact open_lr hf hr
/-- The first argument's weights are within the reach. -/
theorem reach_first {H : Type} {P : Program} {ts us : List TypeId} {ds gs : List (DataW H)} (h : (DataW.weightsEach P (ts ++ us) (ds ++ gs)).all (· ≤ reachBytes) = true) : ∀ t d n, ts[0]? = some t → ds[0]? = some d → n ∈ d.weights P t → n ≤ reachBytes := fun t d n ht hd hn => by
  match ts, ds, ht, hd with
  | t0 :: ts', d0 :: ds', ht, hd =>
    simp at ht hd
    subst ht
    subst hd
    have : n ∈ DataW.weightsEach P (t0 :: ts' ++ us) (d0 :: ds' ++ gs) := by
      simp only [List.cons_append, DataW.weightsEach]
      exact List.mem_append_left _ hn
    simpa using List.all_eq_true.1 h n this
end Go.Proofs.Ytbpodclodflgfaa
