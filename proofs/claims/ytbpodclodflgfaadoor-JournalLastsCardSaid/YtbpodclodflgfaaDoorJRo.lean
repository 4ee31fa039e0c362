/-
  The rows of layer 6: the listed table; lists of strings, of ints and of deeds that came in.
-/
import Derived.Test.YtbpodclodflgfaaDoorCards
import Derived.Test.YtbpodclodflgfaaDoorTie
import Derived.Test.YtbpodclodflgfaaDoorJGy
import Derived.Test.YtbpodclodflgfaaDoorJTn
import Derived.Deep.Slices
import Derived.Deep.Fields
import Derived.Lib.SmallJoins
import Derived.Carry
namespace Go.Proofs.YtbpodclodflgfaaDoor
open Go Go.ChangeShapes Go.WideShapes Go.ChangeAt Go.RowKit Go.Deep
def laid06 : List (String × DataW Unit) := [("missive/digest.crcSteps", Rows.laid_missive_digest_crcSteps)]
theorem tab_crc : ([0, 498536548, 997073096, 651767980, 1994146192, 1802195444, 1303535960, 1342533948, 3988292384, 4027552580, 3604390888, 3412177804, 2607071920, 2262029012, 2685067896, 3183342108] : List Int) = crcT.map fun x => (x.toNat : Int) := by decide +kernel
theorem env06 {W : World} (h0 : laidMetH Tryd.prog laid06 W) : EnvJ W := by
  have h : laidMet Tryd.prog laid06 W := by
    rw [← MakeChecks.laidMetH_plain _ _ _ (by kernel_rfl)]; exact h0
  have hc : ∀ j, j < 16 → W.cell? ⟨0, j, none⟩ = some (.int .u32 ((crcT.getD j 0).toNat : Int)) := by
    have h1 : laidMet Tryd.prog [("missive/digest.crcSteps", Lib.tabData .u32 (crcT.map fun x => (x.toNat : Int)))] W := by
      rw [← tab_crc]
      exact h
    have h2 := Lib.tabIs_of_head (g := 0) (t := 119) (e := 118) (by kernel_rfl) (by kernel_rfl) Tryd.underlying119 Tryd.underlying118 (by kernel_rfl) (by kernel_rfl) h1
    intro j hj
    have hj' : j < crcT.length := by simpa [crcT] using hj
    have h3 := h2.cell (g := 0) (by kernel_rfl) j (by rw [List.length_map]; exact hj')
    rw [h3]
    simp [hj']
  refine ⟨hc, ?_⟩
  exact World.block_lt_of_cell? W _ (hc 0 (by omega))
theorem add_none {xb xo j : Nat} : Addr.add ⟨xb, xo, none⟩ j = ⟨xb, xo + j, none⟩ := by unfold Addr.add; by_cases hj : j = 0 <;> simp [hj]
theorem open_rl {H : Type} {enc' : TypeId × Value → H} {W : World} {sp : Nat → Bool} {held : Bool} {fuel : Nat} {v : Value} {y : DataW H × List MemPlace} (h : DataW.trod enc' Tryd.prog W 0 sp held fuel 36 [v] = some y) :
    ∃ (xa : Option Addr) (b off n cap : Nat) (X : List (List UInt8)), v = .slice xa n cap ∧ n ≤ 9223372036854775807 ∧ RL W xa b off n cap X := by
  rcases open_strings Tryd.underlying36 Tryd.underlying9 (by kernel_rfl) h with ⟨hcs, _⟩ | ⟨a, len, cap, ss, hcs, _, hl, hm, hz, hx, hcell, hws⟩
  · injection hcs with hcs _
    exact ⟨none, 0, 0, 0, 0, [], hcs, by omega, ⟨⟨fun h => absurd h (Nat.lt_irrefl _), fun j hj => absurd hj (Nat.not_lt_zero _), fun h => absurd h (Nat.lt_irrefl _), Nat.le_refl _⟩, rfl, fun _ => rfl⟩⟩
  · injection hcs with hcs _
    unfold maxLen at hm
    have hle : len ≤ ss.length := by rw [hz]; split <;> omega
    have hXl : ((ss.take len).map fun s => s.data.toList).length = len := by rw [List.length_map, List.length_take]; omega
    by_cases h0 : len = 0
    · subst h0
      exact ⟨some a, 0, 0, 0, cap, [], hcs, by omega, ⟨⟨fun h => absurd h (Nat.lt_irrefl _), fun j hj => absurd hj (Nat.not_lt_zero _), fun h => absurd h (Nat.lt_irrefl _), Nat.zero_le _⟩, rfl, fun h => by cases h⟩⟩
    · obtain ⟨xb, xo, spot⟩ := a
      have hc0 := hcell 0 (by omega)
      have hspot : spot = none := by simpa [Addr.add] using World.cell?_spot hc0
      subst hspot
      have hlt : xb < W.heap.size := by
        rw [add_none] at hc0
        exact World.block_lt_of_cell? W _ hc0
      refine ⟨some ⟨xb, xo, none⟩, xb, xo, len, cap, (ss.take len).map fun s => s.data.toList, hcs, by omega, ⟨⟨fun _ => rfl, fun j hj => ?_, fun _ => hlt, by omega⟩, hXl, fun h => by cases h⟩⟩
      have hj' : j < ss.length := by omega
      have hjl : j < len := by omega
      have h1 := hcell j hj'
      rw [add_none] at h1
      rw [h1, List.getD_eq_getElem?_getD, List.getD_eq_getElem?_getD, List.getElem?_map, List.getElem?_take_of_lt hjl, List.getElem?_eq_getElem hj']
      show some (Value.string ss[j]) = some (Value.string ⟨ss[j].data.toList.toArray⟩)
      rw [Lib.mk_data]
theorem open_rlV {H : Type} {enc' : TypeId × Value → H} {W : World} {v : Value} {d : DataW H} {p : List MemPlace} (hs : ∃ a len cap, v = .slice a len cap) (h : DataW.Trod enc' Tryd.prog W 0 (fun _ => true) true 36 v d p) :
    ∃ (xa : Option Addr) (b off n cap : Nat) (X : List (List UInt8)), v = .slice xa n cap ∧ n ≤ 9223372036854775807 ∧ RL W xa b off n cap X := by
  obtain ⟨a0, len, cap, rfl⟩ := hs
  obtain ⟨fuel, hf⟩ := h
  exact open_rl hf
theorem open_klV {H : Type} {enc' : TypeId × Value → H} {W : World} {v : Value} {d : DataW H} {p : List MemPlace} (hs : ∃ a len cap, v = .slice a len cap) (h : DataW.Trod enc' Tryd.prog W 0 (fun _ => true) true 37 v d p) :
    ∃ (ka : Option Addr) (b off n cap : Nat) (ks : List Int), v = .slice ka n cap ∧ KL W ka b off n cap ks := by
  obtain ⟨ka, b, off, cap, n, ks, h1, h2, h3, h4⟩ := open_irV hs h
  exact ⟨ka, b, off, n, cap, ks, h1, h3, h2, h4⟩
theorem open_klR {H : Type} {enc' : TypeId × Value → H} {W : World} {v : Value} {d : DataW H} {p : List MemPlace} (hs : ∃ a len cap, v = .slice a len cap) (h : DataW.Trod enc' Tryd.prog W 0 (fun _ => true) true 37 v d p) :
    ∃ (ka : Option Addr) (b off n cap : Nat) (ks : List Int), v = .slice ka n cap ∧ KL W ka b off n cap ks ∧ ∀ z ∈ ks, z ≤ 9223372036854775807 := by
  obtain ⟨a0, len0, cap0, rfl⟩ := hs
  obtain ⟨fuel, hf⟩ := h
  rcases open_ints Tryd.underlying37 Tryd.underlying3 (by kernel_rfl) hf with ⟨hcs, _⟩ | ⟨a, len, cap, zs, hcs, _, hl, hm, hz, _, hcell, hwf⟩
  · injection hcs with hcs _
    injection hcs with h1 h2 h3
    subst h1 h2 h3
    exact ⟨none, 0, 0, 0, 0, [], rfl, ⟨⟨fun h => absurd h (Nat.lt_irrefl _), fun _ hj => absurd hj (Nat.not_lt_zero _), fun h => absurd h (Nat.lt_irrefl _), Nat.zero_le _⟩, rfl, fun _ => rfl⟩, fun z hz => by cases hz⟩
  · injection hcs with hcs _
    injection hcs with h1 h2 h3
    subst h1 h2 h3
    unfold maxLen at hm
    have hle : len0 ≤ zs.length := by rw [hz]; split <;> omega
    have hXl : (zs.take len0).length = len0 := by rw [List.length_take]; omega
    have hrg : ∀ z ∈ zs.take len0, z ≤ 9223372036854775807 := fun z hz => (int_range (hwf z (List.mem_of_mem_take hz))).2
    by_cases h0 : len0 = 0
    · subst h0
      exact ⟨some a, 0, 0, 0, cap0, [], rfl, ⟨⟨fun h => absurd h (Nat.lt_irrefl _), fun _ hj => absurd hj (Nat.not_lt_zero _), fun h => absurd h (Nat.lt_irrefl _), Nat.zero_le _⟩, rfl, fun h => by cases h⟩, fun z hz => by cases hz⟩
    · obtain ⟨xb, xo, spot⟩ := a
      have hc0 := hcell 0 (by omega)
      have hspot : spot = none := by simpa [Addr.add] using World.cell?_spot hc0
      subst hspot
      have hlt : xb < W.heap.size := by
        rw [add_none] at hc0
        exact World.block_lt_of_cell? W _ hc0
      refine ⟨some ⟨xb, xo, none⟩, xb, xo, len0, cap0, zs.take len0, rfl, ⟨⟨fun _ => rfl, fun j hj => ?_, fun _ => hlt, by omega⟩, hXl, fun h => by cases h⟩, hrg⟩
      have hjl : j < len0 := by omega
      have h1 := hcell j (by omega)
      rw [add_none] at h1
      rw [h1, List.getD_eq_getElem?_getD, List.getD_eq_getElem?_getD, List.getElem?_take_of_lt hjl]
theorem deed_fields : ∃ x0 x1 x2 x3 x4 : Field, Tryd.prog.underlying 39 = some (.struct #[x0, x1, x2, x3, x4]) ∧ oneCellFields Tryd.prog #[x0, x1, x2, x3, x4] = true ∧
    x0.type = 3 ∧ x1.type = 9 ∧ x2.type = 36 ∧ x3.type = 37 ∧ x4.type = 3 :=
  ⟨_, _, _, _, _, Tryd.underlying39, by kernel_rfl, rfl, rfl, rfl, rfl, rfl⟩
/-- The five readings of a deed make a deed. -/
theorem deed_of {H : Type} {enc' : TypeId × Value → H} {W : World} {sp : Nat → Bool} {held : Bool} {n0 n1 n2 n3 n4 : Nat} {v0 v1 v2 v3 v4 : Value} {y0 y1 y2 y3 y4 : DataW H × List MemPlace}
    (h0 : DataW.trod enc' Tryd.prog W 0 sp held n0 3 [v0] = some y0) (h1 : DataW.trod enc' Tryd.prog W 0 sp held n1 9 [v1] = some y1) (h2 : DataW.trod enc' Tryd.prog W 0 sp held n2 36 [v2] = some y2) (h3 : DataW.trod enc' Tryd.prog W 0 sp held n3 37 [v3] = some y3) (h4 : DataW.trod enc' Tryd.prog W 0 sp held n4 3 [v4] = some y4) :
    ∃ (a : Jn.Deed) (xa : Option Addr) (xb xoff xn xcap : Nat) (ka : Option Addr) (kb koff kn kcap : Nat), DC W a xa xb xoff xn xcap ka kb koff kn kcap ∧ [v0, v1, v2, v3, v4] = dlcells a xa xn xcap ka kn kcap := by
  obtain ⟨x0, c0, _, w0⟩ := DataW.trod_int Tryd.underlying3 h0
  obtain ⟨s, c1, _, _⟩ := DataW.trod_string Tryd.underlying9 h1
  obtain ⟨xa, xb, xoff, xn, xcap, X, c2, _, hX⟩ := open_rl h2
  obtain ⟨ka, kb, koff, kcap, kn, ks, c3, hkn, hk, hnil⟩ := open_ir h3
  obtain ⟨x4, c4, _, w4⟩ := DataW.trod_int Tryd.underlying3 h4
  injection c0 with c0 _
  injection c1 with c1 _
  injection c4 with c4 _
  subst c0 c1 c2 c3 c4
  obtain ⟨p0, q0⟩ := int_range w0
  obtain ⟨p4, q4⟩ := int_range w4
  refine ⟨⟨x0, s.data.toList, X, ks, x4⟩, xa, xb, xoff, xn, xcap, ka, kb, koff, kn, kcap, ⟨hX.lv, hX.len, hX.nil, hk, hkn, hnil, p4, q4, p0, q0⟩, ?_⟩
  unfold dlcells enc
  rfl
set_option maxRecDepth 100000 in
theorem open_ld {H : Type} {enc' : TypeId × Value → H} {W : World} {sp : Nat → Bool} {held : Bool} {fuel : Nat} {v : Value} {y : DataW H × List MemPlace} (h : DataW.trod enc' Tryd.prog W 0 sp held fuel 22 [v] = some y) :
    ∃ (xa : Option Addr) (b off cap n : Nat) (X : List Jn.Deed), v = .slice xa n cap ∧ X.length = n ∧ n ≤ 9223372036854775807 ∧ LD W xa b off X := by
  obtain ⟨x0, x1, x2, x3, x4, hst, hone, e0, e1, e2, e3, e4⟩ := deed_fields
  have hC : Tryd.prog.cellsOf 39 = 5 := by kernel_rfl
  rcases open_slice Tryd.underlying22 h with ⟨hcs, _⟩ | ⟨a, len, cap, m, fu, D, Pl, hcs, _, hl, hm, hmm, hx, hi⟩
  · injection hcs with hcs _
    exact ⟨none, 0, 0, 0, 0, [], hcs, rfl, by omega, ⟨fun h => absurd h (Nat.lt_irrefl _), fun j x hj => by simp at hj, fun h => absurd h (Nat.lt_irrefl _)⟩⟩
  · injection hcs with hcs _
    unfold maxLen at hm
    have hle : len ≤ m := by rw [hmm]; split <;> omega
    by_cases h0 : len = 0
    · subst h0
      exact ⟨some a, 0, 0, cap, 0, [], hcs, rfl, by omega, ⟨fun h => absurd h (Nat.lt_irrefl _), fun j x hj => by simp at hj, fun h => absurd h (Nat.lt_irrefl _)⟩⟩
    · have each : ∀ i, i < len → ∃ (x : Jn.Deed) (xa : Option Addr) (xb xoff xn xcap : Nat) (ka : Option Addr) (kb koff kn kcap : Nat), DC W x xa xb xoff xn xcap ka kb koff kn kcap ∧ ∀ j v, (dlcells x xa xn xcap ka kn kcap)[j]? = some v → W.cell? ((a.add (i * 5)).add j) = some v := fun i hil => by
        obtain ⟨cs', hc, ht'⟩ := hi i (by omega)
        rw [hC] at hc
        obtain ⟨ys, fu', _, hy, _, hyl, hf⟩ := DataW.trod_struct hst ht'
        obtain ⟨_, hcl, hat⟩ := World.cells?_some hc
        match cs', hcl with
        | [c0, c1, c2, c3, c4], _ =>
          match ys, hyl with
          | [y0, y1, y2, y3, y4], _ =>
            obtain ⟨o0, k0⟩ := hone_of hone 0 x0 rfl
            obtain ⟨o1, k1⟩ := hone_of hone 1 x1 rfl
            obtain ⟨o2, k2⟩ := hone_of hone 2 x2 rfl
            obtain ⟨o3, k3⟩ := hone_of hone 3 x3 rfl
            obtain ⟨o4, k4⟩ := hone_of hone 4 x4 rfl
            have f0 := hf 0 x0 rfl
            have f1 := hf 1 x1 rfl
            have f2 := hf 2 x2 rfl
            have f3 := hf 3 x3 rfl
            have f4 := hf 4 x4 rfl
            rw [o0, k0, e0] at f0
            rw [o1, k1, e1] at f1
            rw [o2, k2, e2] at f2
            rw [o3, k3, e3] at f3
            rw [o4, k4, e4] at f4
            obtain ⟨x, xa, xb, xoff, xn, xcap, ka, kb, koff, kn, kcap, hA, hcells⟩ := deed_of f0 f1 f2 f3 f4
            refine ⟨x, xa, xb, xoff, xn, xcap, ka, kb, koff, kn, kcap, hA, fun j v hj => ?_⟩
            rw [← hcells] at hj
            have hj5 : j < 5 := (List.getElem?_eq_some_iff.1 hj).1
            rw [hat j hj5, hj]
      obtain ⟨xb, xo, spot⟩ := a
      obtain ⟨_, _, _, _, _, _, _, _, _, _, _, _, hfirst⟩ := each 0 (by omega)
      have hc0 := hfirst 0 _ rfl
      have hspot : spot = none := by simpa [Addr.add] using World.cell?_spot hc0
      subst hspot
      rw [add_none, add_none] at hc0
      have hlt : xb < W.heap.size := World.block_lt_of_cell? W _ hc0
      refine ⟨some ⟨xb, xo, none⟩, xb, xo, cap, len, List.ofFn fun i : Fin len => Classical.choose (each i.1 i.2), hcs, List.length_ofFn, by omega, ⟨fun _ => rfl, fun j x hj => ?_, fun _ => hlt⟩⟩
      rw [List.getElem?_ofFn] at hj
      split at hj
      case isFalse => cases hj
      rename_i hjl
      obtain rfl := Option.some.inj hj
      obtain ⟨xa, xb', xoff, xn, xcap, ka, kb, koff, kn, kcap, hA, hcells⟩ := Classical.choose_spec (each j hjl)
      refine ⟨xa, xb', xoff, xn, xcap, ka, kb, koff, kn, kcap, hA, fun q v hq => ?_⟩
      have := hcells q v hq
      rw [add_none, add_none] at this
      exact this
theorem open_ldV {H : Type} {enc' : TypeId × Value → H} {W : World} {v : Value} {d : DataW H} {p : List MemPlace} (hs : ∃ a len cap, v = .slice a len cap) (h : DataW.Trod enc' Tryd.prog W 0 (fun _ => true) true 22 v d p) :
    ∃ (xa : Option Addr) (b off cap n : Nat) (X : List Jn.Deed), v = .slice xa n cap ∧ X.length = n ∧ n ≤ 9223372036854775807 ∧ LD W xa b off X := by
  obtain ⟨a0, len, cap, rfl⟩ := hs
  obtain ⟨fuel, hf⟩ := h
  exact open_ld hf
end Go.Proofs.YtbpodclodflgfaaDoor
