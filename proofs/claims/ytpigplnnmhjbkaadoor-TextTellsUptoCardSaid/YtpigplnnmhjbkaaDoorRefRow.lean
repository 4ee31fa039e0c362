/-
  A row of bools in a block of its own, as the reference's Glob keeps it.
-/
import Derived.Test.YtpigplnnmhjbkaaDoorRefGlobP
import Derived.Test.YtpigplnnmhjbkaaDoorMap
namespace Go.Proofs.YtpigplnnmhjbkaaDoor
open Go Go.RowKit Go.Shelf
/-- Cell j holds f j, for every j below n; none is frozen. -/
structure BRow (f : Nat → Bool) (n b : Nat) (w : World) : Prop where
  cell : ∀ (j : Nat), j < n → w.cell? ⟨b, j, none⟩ = some (.bool (f j))
  free : ∀ (j : Nat), j < n → w.frozen? ⟨b, j, none⟩ = false
theorem BRow.drews {f : Nat → Bool} {n b : Nat} {w : World} (h : BRow f n b w) (k : Nat) : BRow f n b (w.drewN k) := ⟨h.cell, h.free⟩
theorem BRow.below {f : Nat → Bool} {n b B : Nat} {w w' : World} (h : BRow f n b w) (hb : Below B w w') (hB : b < B) : BRow f n b w' :=
  ⟨fun j hj => (hb.cell (p := ⟨b, j, none⟩) hB).trans (h.cell j hj), fun j hj => (hb.frozen (p := ⟨b, j, none⟩) hB).trans (h.free j hj)⟩
theorem BRow.same {f g : Nat → Bool} {n b : Nat} {w : World} (h : BRow f n b w) (hfg : ∀ j, j < n → g j = f j) : BRow g n b w :=
  ⟨fun j hj => by rw [hfg j hj]; exact h.cell j hj, h.free⟩
theorem BRow.set {f : Nat → Bool} {n b k : Nat} {w : World} (h : BRow f n b w) (hk : k < n) (v : Bool) : BRow (fun j => if j = k then v else f j) n b (w.setCell ⟨b, k, none⟩ (.bool v)) := by
  refine ⟨fun j hj => ?_, fun j hj => by rw [World.frozen?_setCell]; exact h.free j hj⟩
  by_cases hjk : j = k
  · subst hjk
    rw [World.cell?_setCell_same _ _ _ (h.cell j hj), if_pos rfl]
  · rw [World.cell?_setCell_other _ _ _ _ (by intro e; injection e with _ e2; exact hjk e2.symm), h.cell j hj, if_neg hjk]
theorem BRow.aside {f : Nat → Bool} {n b c k : Nat} {w : World} (h : BRow f n b w) (hbc : b ≠ c) (v : Value) : BRow f n b (w.setCell ⟨c, k, none⟩ v) :=
  ⟨fun j hj => by rw [World.cell?_setCell_other _ _ _ _ (by intro e; injection e with e1 _; exact hbc e1.symm)]; exact h.cell j hj, fun j hj => by rw [World.frozen?_setCell]; exact h.free j hj⟩
end Go.Proofs.YtpigplnnmhjbkaaDoor
