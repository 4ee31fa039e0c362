/-
  The rows of layer 4: the listed table; a list of strings that came in.
-/
import Derived.Test.YteiabaddmclmlaaDoorDRow
import Derived.Test.YteiabaddmclmlaaDoorMRow
import Derived.SliceStrings
namespace Go.Proofs.YteiabaddmclmlaaDoor
open Go Go.ChangeShapes Go.WideShapes Go.ChangeAt Go.RowKit
def laid04 : List (String × DataW Unit) := [("missive/digest.roundWords", Rows.laid_missive_digest_roundWords)]
theorem env04 {W : World} (h0 : laidMetH Tryd.prog laid04 W) : Env W := by
  have h : laidMet Tryd.prog laid04 W := by
    rw [← MakeChecks.laidMetH_plain _ _ _ (by kernel_rfl)]; exact h0
  have hk : ∀ j, j < 64 → W.cell? ⟨1, j, none⟩ = some (.int .u32 ((Dg.K.getD j 0).toNat : Int)) := by
    have h1 : laidMet Tryd.prog [("missive/digest.roundWords", Lib.tabData .u32 (Dg.K.map fun x => (x.toNat : Int)))] W := h
    have h2 := Lib.tabIs_of_head (g := 1) (t := 71) (e := 47) (by kernel_rfl) (by kernel_rfl) Tryd.underlying71 Tryd.underlying47 (by kernel_rfl) (by kernel_rfl) h1
    intro j hj
    have h3 := h2.cell (g := 1) (by kernel_rfl) j (by rw [List.length_map]; exact hj)
    have hj' : j < Dg.K.length := hj
    rw [h3]
    simp [hj']
  refine ⟨hk, ?_⟩
  have h1 := hk 0 (by omega)
  have hlt : ¬ W.heap.size ≤ 1 := fun hle => by
    have hn : W.heap[1]? = none := Array.getElem?_eq_none hle
    simp [World.cell?, hn] at h1
  omega
theorem int_range04 {n : Int} (h : (Lit.int .i64 n).wf = true) : -9223372036854775808 ≤ n ∧ n ≤ 9223372036854775807 := by
  have h2 : (decide (IntKind.i64.min ≤ n) && decide (n ≤ IntKind.i64.max)) = true := h
  simp only [Bool.and_eq_true, decide_eq_true_eq] at h2
  exact h2
theorem open_lv {H : Type} {enc : TypeId × Value → H} {W : World} {v : Value} {d : DataW H} {p : List MemPlace} (hs : ∃ a len cap, v = .slice a len cap) (h : DataW.Trod enc Tryd.prog W 0 (fun _ => true) true 29 v d p) :
    ∃ xa b off cap X n, v = .slice xa n cap ∧ X.length = n ∧ n ≤ 9223372036854775807 ∧ Lv W xa b off cap X := by
  obtain ⟨a0, len, cap, rfl⟩ := hs
  obtain ⟨fuel, hf⟩ := h
  rcases open_strings Tryd.underlying29 Tryd.underlying9 (by kernel_rfl) hf with ⟨hcs, hx⟩ | ⟨a, len', cap', ss, hcs, _, hl, hm, hz, hx, hcell, hws⟩
  · simp [Value.cells] at hcs
    obtain ⟨rfl, rfl, rfl⟩ := hcs
    exact ⟨none, 0, 0, 0, [], 0, rfl, rfl, by omega, ⟨fun h => absurd h (Nat.lt_irrefl _), fun j hj => absurd hj (by simp), fun h => absurd h (Nat.lt_irrefl _), by simp⟩⟩
  · simp [Value.cells] at hcs
    obtain ⟨rfl, rfl, rfl⟩ := hcs
    simp only [if_true] at hz
    unfold maxLen at hm
    have hXl : ((ss.take len).map fun s => s.data.toList).length = len := by simp; omega
    by_cases hl0 : len = 0
    · subst hl0
      exact ⟨some a, 0, 0, cap, [], 0, rfl, rfl, by omega, ⟨fun h => absurd h (Nat.lt_irrefl _), fun j hj => absurd hj (by simp), fun h => absurd h (Nat.lt_irrefl _), by simp⟩⟩
    · obtain ⟨xb, xo, spot⟩ := a
      have hc0 := hcell 0 (by omega)
      have hspot : spot = none := by simpa [Addr.add] using World.cell?_spot hc0
      subst hspot
      have hlt : xb < W.heap.size := by
        by_cases hlt : xb < W.heap.size
        · exact hlt
        · have hn : W.heap[xb]? = none := Array.getElem?_eq_none (by omega)
          simp [World.cell?, Addr.add, hn] at hc0
      refine ⟨some ⟨xb, xo, none⟩, xb, xo, cap, (ss.take len).map fun s => s.data.toList, len, rfl, hXl, by omega, ⟨fun _ => rfl, fun j hj => ?_, fun _ => hlt, by omega⟩⟩
      have hj' : j < ss.length := by omega
      have h1 := hcell j hj'
      rw [add_plain] at h1
      rw [h1]
      have hjl : j < len := by omega
      rw [List.getD_eq_getElem?_getD, List.getD_eq_getElem?_getD, List.getElem?_map, List.getElem?_take_of_lt hjl, List.getElem?_eq_getElem hj']
      show some (Value.string ss[j]) = some (Value.string ⟨ss[j].data.toList.toArray⟩)
      rw [Lib.mk_data]
end Go.Proofs.YteiabaddmclmlaaDoor
