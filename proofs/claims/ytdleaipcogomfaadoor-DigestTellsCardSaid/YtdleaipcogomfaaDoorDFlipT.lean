/-
  A converted row of bytes, none of them frozen.
-/
import Derived.Test.YtdleaipcogomfaaDoorDHexT
import Derived.Lib.ConvBytes
namespace Go.Proofs.YtdleaipcogomfaaDoor
open Go Go.RowKit Go.Shelf
/-- Bytes in block g, none of them frozen. -/
structure Cl (w : World) (g : Nat) (l : List UInt8) : Prop where
  cell : ∀ j, j < l.length → w.cell? ⟨g, j, none⟩ = some (.int .u8 ((l.getD j 0).toNat : Int))
  free : ∀ j, j < l.length → w.frozen? ⟨g, j, none⟩ = false
theorem Cl.drew {w : World} {g : Nat} {l : List UInt8} (h : Cl w g l) : Cl w.drew g l := ⟨h.cell, h.free⟩
theorem Cl.set {w : World} {g k : Nat} {l : List UInt8} (h : Cl w g l) (hk : k < l.length) (x : UInt8) : Cl (w.setCell ⟨g, k, none⟩ (.int .u8 (x.toNat : Int))) g (l.set k x) := by
  refine ⟨fun j hj => ?_, fun j hj => by rw [World.frozen?_setCell]; exact h.free j (by simpa using hj)⟩
  rw [List.length_set] at hj
  by_cases hjk : j = k
  · subst hjk
    rw [World.cell?_setCell_same _ _ _ (h.cell j hj)]
    simp [hk]
  · rw [World.cell?_setCell_other _ _ _ _ (by intro e; injection e with _ e2; exact hjk e2.symm), h.cell j hj]
    simp only [List.getD_eq_getElem?_getD]
    rw [List.getElem?_set_ne (fun e => hjk e.symm)]
theorem Cl.conv {w : World} {g n cap : Nat} {l : List UInt8} (h : Cl w g l) (hn : l.length = n) :
    (convert 51 9 (.slice (some ⟨g, 0, none⟩) n cap)).run Tryd.prog w = .ok (.string ⟨l.toArray⟩) w := by
  subst hn
  exact run_convert_bytes_back (P := Tryd.prog) w 51 9 5 ⟨g, 0, none⟩ cap l Tryd.underlying51 Tryd.underlying5 Tryd.underlying9 (fun j hj => by
    rw [add_plain0, h.cell j hj]
    simp [hj])
theorem bytes_of (s : ByteArray) (w : World) : ∃ (C : Nat) (W1 : World), (convert 9 51 (.string s)).run Tryd.prog w = .ok (.slice (some ⟨w.heap.size, 0, none⟩) s.size C) W1 ∧ Cl W1 w.heap.size s.data.toList ∧ Below w.heap.size w W1 := by
  refine ⟨_, _, Lib.run_convert_string_bytes (P := Tryd.prog) w 9 51 5 s Tryd.underlying9 Tryd.underlying51 Tryd.underlying5, ⟨fun j hj => Lib.bytesWorld_cell w _ s j (by rw [Lib.size_eq]; exact hj), fun j hj => ?_⟩, ?_⟩
  · have hj' : j < s.size := by rw [Lib.size_eq]; exact hj
    have hsz : (Lib.bytesCells w 5 s).size ≥ s.size := by
      have : s.size = s.data.size := rfl
      simp [Lib.bytesCells]
    simp [World.frozen?, Lib.bytesWorld_at_new]
    try omega
  · refine ⟨rfl, rfl, rfl, by rw [Lib.bytesWorld_size]; omega, fun k hk => Lib.bytesWorld_at_old w _ s k hk⟩
end Go.Proofs.YtdleaipcogomfaaDoor
