/-
  How arguments read: lists of ints, lists of strings, values, lists of values.
-/
import Derived.Test.YthknahghmlfegaaDoorWEq
import Derived.Test.YthknahghmlfegaaDoorWRow
import Derived.Carry
import Derived.SliceStrings
import Derived.Deep.Slices
import Derived.Deep.Fields
import Derived.ChangeSlices
import Derived.ChangeArms
namespace Go.Proofs.YthknahghmlfegaaDoor
open Go Go.ChangeShapes Go.WideShapes Go.ChangeAt Go.RowKit Go.Deep Go.Shelf
set_option maxRecDepth 100000

theorem i64_of_wf {a : Int} (h : (Lit.int .i64 a).wf = true) : Wr.i64 a := by
  simp only [Lit.wf, Bool.and_eq_true, decide_eq_true_eq] at h
  have e1 : IntKind.i64.min = -9223372036854775808 := rfl
  have e2 : IntKind.i64.max = 9223372036854775807 := rfl
  unfold Wr.i64
  omega
theorem wf_of_i64 {a : Int} (h : Wr.i64 a) : (Lit.int .i64 a).wf = true := by
  obtain ⟨h1, h2⟩ := h
  simp only [Lit.wf, Bool.and_eq_true, decide_eq_true_eq]
  have e1 : IntKind.i64.min = -9223372036854775808 := rfl
  have e2 : IntKind.i64.max = 9223372036854775807 := rfl
  omega
theorem add_at (b o j : Nat) : Addr.add ⟨b, o, none⟩ j = ⟨b, o + j, none⟩ := by
  unfold Addr.add
  by_cases h : j = 0
  · simp [h]
  · simp [h]
/-- Cells from an address on, one for each value: a row. -/
theorem rowV_of {W : World} {a : Addr} {vs : List Value} (h : ∀ (j : Nat) (x : Value), vs[j]? = some x → W.cell? (a.add j) = some x) : ∃ xa b off, (0 < vs.length → xa = some a) ∧ (vs.length = 0 → xa = some a) ∧ RowV W xa b off vs := by
  by_cases h0 : vs.length = 0
  · refine ⟨some a, 0, 0, fun _ => rfl, fun _ => rfl, ⟨fun h => absurd h (by omega), fun j x hj => ?_, fun h => absurd h (by omega)⟩⟩
    have := (List.getElem?_eq_some_iff.1 hj).1
    omega
  · obtain ⟨xb, xo, spot⟩ := a
    have hx : vs[0]? = some vs[0] := List.getElem?_eq_getElem (by omega)
    have hc0 := h 0 _ hx
    have hspot : spot = none := by simpa [Addr.add] using World.cell?_spot hc0
    subst hspot
    refine ⟨some ⟨xb, xo, none⟩, xb, xo, fun _ => rfl, fun _ => rfl, ⟨fun _ => rfl, fun j x hj => ?_, fun _ => ?_⟩⟩
    · have := h j x hj
      rwa [add_at] at this
    · rw [add_at] at hc0
      exact World.block_lt_of_cell? W _ hc0

section
variable {H : Type} {enc : TypeId × Value → H} {W : World} {sp : Nat → Bool} {held : Bool}
theorem open_ints_row {fuel : Nat} {v : Value} {y : DataW H × List MemPlace} (h : DataW.trod enc Tryd.prog W 0 sp held fuel 22 [v] = some y) :
    ∃ (xa : Option Addr) (b off c : Nat) (X : List Int), v = .slice xa X.length c ∧ RowV W xa b off (X.map (Value.int .i64)) ∧ X.length ≤ 9223372036854775807 ∧ ∀ x ∈ X, Wr.i64 x := by
  rcases open_ints Tryd.underlying22 Tryd.underlying3 (by kernel_rfl) h with ⟨hcs, _⟩ | ⟨a, len, cap, zs, hcs, _, hl, hm, hz, _, hcell, hwf⟩
  · injection hcs with hcs _
    exact ⟨none, 0, 0, 0, [], hcs, ⟨fun h => absurd h (by simp), fun j x hj => by simp at hj, fun h => absurd h (by simp)⟩, by simp, fun x hx => by cases hx⟩
  · injection hcs with hcs _
    unfold maxLen at hm
    have hle : len ≤ zs.length := by rw [hz]; split <;> omega
    have hXl : (zs.take len).length = len := by rw [List.length_take]; omega
    obtain ⟨xa, b, off, e1, e2, hr⟩ := rowV_of (W := W) (a := a) (vs := (zs.take len).map (Value.int .i64)) (fun j x hj => by
      rw [List.getElem?_map] at hj
      obtain ⟨z, hz', rfl⟩ := Option.map_eq_some_iff.1 hj
      have hjl : j < len := by have := (List.getElem?_eq_some_iff.1 hz').1; omega
      rw [List.getElem?_take_of_lt hjl] at hz'
      rw [hcell j (by omega), List.getD, hz']; rfl)
    have e : xa = some a := by
      rcases Nat.eq_zero_or_pos ((zs.take len).map (Value.int .i64)).length with h | h
      · exact e2 h
      · exact e1 h
    subst e
    exact ⟨_, b, off, cap, zs.take len, by rw [hXl]; exact hcs, hr, by omega, fun x hx => i64_of_wf (hwf x (List.mem_of_mem_take hx))⟩
theorem open_strs_row {fuel : Nat} {v : Value} {y : DataW H × List MemPlace} (h : DataW.trod enc Tryd.prog W 0 sp held fuel 23 [v] = some y) :
    ∃ (xa : Option Addr) (b off c : Nat) (X : List (List UInt8)), v = .slice xa X.length c ∧ RowV W xa b off (X.map encStr) ∧ X.length ≤ 9223372036854775807 ∧ ∀ x ∈ X, x.length ≤ 9223372036854775807 := by
  rcases open_strings Tryd.underlying23 Tryd.underlying9 (by kernel_rfl) h with ⟨hcs, _⟩ | ⟨a, len, cap, ss, hcs, _, hl, hm, hz, _, hcell, hws⟩
  · injection hcs with hcs _
    exact ⟨none, 0, 0, 0, [], hcs, ⟨fun h => absurd h (by simp), fun j x hj => by simp at hj, fun h => absurd h (by simp)⟩, by simp, fun x hx => by cases hx⟩
  · injection hcs with hcs _
    unfold maxLen at hm
    have hle : len ≤ ss.length := by rw [hz]; split <;> omega
    have hXl : ((ss.take len).map fun s => s.data.toList).length = len := by rw [List.length_map, List.length_take]; omega
    obtain ⟨xa, b, off, e1, e2, hr⟩ := rowV_of (W := W) (a := a) (vs := ((ss.take len).map fun s => s.data.toList).map encStr) (fun j x hj => by
      rw [List.getElem?_map] at hj
      obtain ⟨l, hl', rfl⟩ := Option.map_eq_some_iff.1 hj
      rw [List.getElem?_map] at hl'
      obtain ⟨s, hs, rfl⟩ := Option.map_eq_some_iff.1 hl'
      have hjl : j < len := by have := (List.getElem?_eq_some_iff.1 hs).1; rw [List.length_take] at this; omega
      rw [List.getElem?_take_of_lt hjl] at hs
      rw [hcell j (by omega), List.getD, hs]
      show some (Value.string s) = some (Value.string ⟨s.data.toList.toArray⟩)
      rw [Lib.mk_data])
    have e : xa = some a := by
      rcases Nat.eq_zero_or_pos (((ss.take len).map fun s => s.data.toList).map encStr).length with h | h
      · exact e2 h
      · exact e1 h
    subst e
    exact ⟨_, b, off, cap, (ss.take len).map fun s => s.data.toList, by rw [hXl]; exact hcs, hr, by omega, fun x hx => by
      obtain ⟨s, hs, rfl⟩ := List.mem_map.1 hx
      have := hws s (List.mem_of_mem_take hs)
      unfold maxLen at this
      rw [← Lib.size_eq]; omega⟩
/-- The five cells of a value. -/
theorem open_val {fuel : Nat} {cs : List Value} {y : DataW H × List MemPlace} (h : DataW.trod enc Tryd.prog W 0 sp held fuel 25 cs = some y) :
    ∃ (x : Wr.Vl) (xa ya : Option Addr) (b off c b' off' c' : Nat), cs = [.int .i64 x.K, .int .i64 x.N, encStr x.S, .slice xa x.L.length c, .slice ya x.T.length c'] ∧ FV W x xa ya b off b' off' := by
  obtain ⟨ys, n, _, _, hcl, hyl, hg⟩ := DataW.trod_struct Tryd.underlying25 h
  have hc5 : cs.length = 5 := hcl.trans (by kernel_rfl)
  match cs, hc5 with
  | [c0, c1, c2, c3, c4], _ =>
  match ys, hyl with
  | [y0, y1, y2, y3, y4], _ =>
  have g0 : DataW.trod enc Tryd.prog W 0 sp held n 3 [c0] = some y0 := hg 0 _ rfl
  have g1 : DataW.trod enc Tryd.prog W 0 sp held n 3 [c1] = some y1 := hg 1 _ rfl
  have g2 : DataW.trod enc Tryd.prog W 0 sp held n 9 [c2] = some y2 := hg 2 _ rfl
  have g3 : DataW.trod enc Tryd.prog W 0 sp held n 22 [c3] = some y3 := hg 3 _ rfl
  have g4 : DataW.trod enc Tryd.prog W 0 sp held n 23 [c4] = some y4 := hg 4 _ rfl
  obtain ⟨K, e0, _, w0⟩ := DataW.trod_int Tryd.underlying3 g0
  obtain ⟨N, e1, _, w1⟩ := DataW.trod_int Tryd.underlying3 g1
  obtain ⟨s, e2, _, w2⟩ := DataW.trod_string Tryd.underlying9 g2
  obtain ⟨xa, b, off, c, X, e3, r3, l3, w3⟩ := open_ints_row g3
  obtain ⟨ya, b', off', c', Y, e4, r4, l4, w4⟩ := open_strs_row g4
  injection e0 with e0 _
  injection e1 with e1 _
  injection e2 with e2 _
  unfold maxLen at w2
  refine ⟨⟨K, N, s.data.toList, X, Y⟩, xa, ya, b, off, c, b', off', c', ?_, ⟨⟨i64_of_wf w0, i64_of_wf w1, by rw [← Lib.size_eq]; omega, l3, l4, w3, w4⟩, r3, r4⟩⟩
  rw [e0, e1, e2, e3, e4]
/-- A value by value. -/
theorem open_argV {r : Reach} {b0 : Nat} {v : Value} {d : DataW H} {p : List MemPlace} (hv : Value.okWide Tryd.prog W r b0 25 v) (h : DataW.Trod enc Tryd.prog W 0 sp held 25 v d p) :
    ∃ (x : Wr.Vl) (xa ya : Option Addr) (b off c b' off' c' : Nat), v = argV x xa ya c c' ∧ FV W x xa ya b off b' off' := by
  obtain ⟨cs, rfl, hsz⟩ := okWide_struct Tryd.underlying25 hv
  obtain ⟨fuel, hf⟩ := h
  have hf' : DataW.trod enc Tryd.prog W 0 sp held fuel 25 cs.toList = some (d, p) := by simpa [Value.cells] using hf
  obtain ⟨x, xa, ya, b, off, c, b', off', c', e, hfv⟩ := open_val hf'
  refine ⟨x, xa, ya, b, off, c, b', off', c', ?_, hfv⟩
  unfold argV
  obtain ⟨l⟩ := cs
  simp only at e
  rw [e]
/-- A list of values. -/
theorem open_vals {v : Value} {d : DataW H} {p : List MemPlace} (hs : ∃ a len cap, v = .slice a len cap) (h : DataW.Trod enc Tryd.prog W 0 sp held 28 v d p) :
    ∃ (a : Option Addr) (b off c : Nat) (X : List Wr.Vl), v = .slice a X.length c ∧ RowVl W a b off X ∧ X.length ≤ 9223372036854775807 := by
  obtain ⟨a0, len, cap, rfl⟩ := hs
  obtain ⟨fuel, hf⟩ := h
  rcases open_slice Tryd.underlying28 hf with ⟨hcs, _⟩ | ⟨a, len', cap', m, n, D, Pl, hcs, _, hl, hm, hmm, _, hi⟩
  · simp [Value.cells] at hcs
    obtain ⟨rfl, rfl, rfl⟩ := hcs
    exact ⟨none, 0, 0, 0, [], rfl, ⟨fun h => absurd h (by simp), fun h => absurd h (by simp), fun j x hj => by simp at hj⟩, by simp⟩
  · simp [Value.cells] at hcs
    obtain ⟨rfl, rfl, rfl⟩ := hcs
    have hC : Tryd.prog.cellsOf 25 = 5 := by kernel_rfl
    rw [hC] at hi
    unfold maxLen at hm
    have hle : len ≤ m := by rw [hmm]; split <;> omega
    have hel : ∀ j, j < len → ∃ (x : Wr.Vl) (xa ya : Option Addr) (b off c b' off' c' : Nat), FV W x xa ya b off b' off' ∧ W.cell? (a.add (j * 5)) = some (.int .i64 x.K) ∧ W.cell? (a.add (j * 5 + 1)) = some (.int .i64 x.N) ∧ W.cell? (a.add (j * 5 + 2)) = some (encStr x.S) ∧
        W.cell? (a.add (j * 5 + 3)) = some (.slice xa x.L.length c) ∧ W.cell? (a.add (j * 5 + 4)) = some (.slice ya x.T.length c') := fun j hj => by
      obtain ⟨cs, hc, ht⟩ := hi j (by omega)
      obtain ⟨x, xa, ya, b, off, c, b', off', c', rfl, hfv⟩ := open_val ht
      obtain ⟨_, _, hat⟩ := World.cells?_some hc
      have h0 := hat 0 (by omega)
      have h1 := hat 1 (by omega)
      have h2 := hat 2 (by omega)
      have h3 := hat 3 (by omega)
      have h4 := hat 4 (by omega)
      rw [Go.Deep.add_add] at h0 h1 h2 h3 h4
      exact ⟨x, xa, ya, b, off, c, b', off', c', hfv, h0, h1, h2, h3, h4⟩
    obtain ⟨X, hXl, hXe⟩ : ∃ X : List Wr.Vl, X.length = len ∧ ∀ (j : Nat) (x : Wr.Vl), X[j]? = some x → ∃ (xa ya : Option Addr) (b off c b' off' c' : Nat), FV W x xa ya b off b' off' ∧ W.cell? (a.add (j * 5)) = some (.int .i64 x.K) ∧ W.cell? (a.add (j * 5 + 1)) = some (.int .i64 x.N) ∧ W.cell? (a.add (j * 5 + 2)) = some (encStr x.S) ∧
        W.cell? (a.add (j * 5 + 3)) = some (.slice xa x.L.length c) ∧ W.cell? (a.add (j * 5 + 4)) = some (.slice ya x.T.length c') := by
      refine ⟨(List.range len).pmap (fun j hj => (hel j hj).choose) (fun j hj => List.mem_range.1 hj), by simp, fun j x hj => ?_⟩
      obtain ⟨hjl, hje⟩ := List.getElem?_eq_some_iff.1 hj
      have hjl' : j < len := by simpa using hjl
      have hx : x = (hel j hjl').choose := by rw [← hje]; simp
      obtain ⟨xa, ya, b, off, c, b', off', c', h⟩ := (hel j hjl').choose_spec
      rw [hx]
      exact ⟨xa, ya, b, off, c, b', off', c', h⟩
    by_cases h0 : len = 0
    · have hX0 : X = [] := List.eq_nil_of_length_eq_zero (by omega)
      subst hX0
      exact ⟨some a, 0, 0, cap, [], by rw [hXl], ⟨fun h => absurd h (by simp), fun h => absurd h (by simp), fun j x hj => by simp at hj⟩, by simp⟩
    · obtain ⟨xb, xo, spot⟩ := a
      obtain ⟨_, _, _, _, _, _, _, _, _, hc0, _⟩ := hXe 0 _ (List.getElem?_eq_getElem (by omega))
      have hspot : spot = none := by simpa [Addr.add] using World.cell?_spot hc0
      subst hspot
      refine ⟨some ⟨xb, xo, none⟩, xb, xo, cap, X, by rw [hXl], ⟨fun _ => rfl, fun _ => ?_, fun j x hj => ?_⟩, by omega⟩
      · rw [add_at] at hc0
        exact World.block_lt_of_cell? W _ hc0
      · obtain ⟨xa, ya, b, off, c, b', off', c', hfv, k0, k1, k2, k3, k4⟩ := hXe j x hj
        rw [add_at] at k0 k1 k2 k3 k4
        exact ⟨xa, ya, b, off, c, b', off', c', hfv, k0, by rw [Nat.add_assoc]; exact k1, by rw [Nat.add_assoc]; exact k2, by rw [Nat.add_assoc]; exact k3, by rw [Nat.add_assoc]; exact k4⟩
end
end Go.Proofs.YthknahghmlfegaaDoor
