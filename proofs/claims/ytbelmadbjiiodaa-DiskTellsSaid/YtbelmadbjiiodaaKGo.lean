/-
  A slice of acts, and an act, that came in, within the form's reach.
-/
import Derived.Test.YtbelmadbjiiodaaKGi
import Derived.Test.YtbelmadbjiiodaaKGy
import Derived.Deep.Slices
import Derived.Deep.Fields
import Derived.Lib.SmallJoins
namespace Go.Proofs.Ytbelmadbjiiodaa
open Go Go.ChangeShapes Go.WideShapes Go.ChangeAt Go.RowKit Go.Deep
theorem act_fields : ∃ x0 x1 x2 x3 x4 x5 : Field, Try.prog.underlying 32 = some (.struct #[x0, x1, x2, x3, x4, x5]) ∧ oneCellFields Try.prog #[x0, x1, x2, x3, x4, x5] = true ∧
    x0.type = 3 ∧ x1.type = 3 ∧ x2.type = 3 ∧ x3.type = 3 ∧ x4.type = 9 ∧ x5.type = 30 :=
  ⟨_, _, _, _, _, _, Try.underlying32, by kernel_rfl, rfl, rfl, rfl, rfl, rfl, rfl⟩
theorem ints_reach {H : Type} {enc' : TypeId × Value → H} {W : World} {sp : Nat → Bool} {held : Bool} {fuel : Nat} {ka : Option Addr} {n cap : Nat} {y : DataW H × List MemPlace} (h : DataW.trod enc' Try.prog W 0 sp held fuel 30 [.slice ka n cap] = some y) (hr : ∀ m ∈ y.1.weights Try.prog 30, m ≤ reachBytes) : n ≤ 140737488351232 := by
  rcases open_ints Try.underlying30 Try.underlying3 (by kernel_rfl) h with ⟨hcs, _⟩ | ⟨a, len, cap', zs, hcs, _, hl, hm, hz, hx, hcell, _⟩
  · injection hcs with hcs _
    injection hcs with _ h1 _
    omega
  · injection hcs with hcs _
    injection hcs with _ h1 _
    have hle : len ≤ zs.length := by rw [hz]; split <;> omega
    have h2 : ((lits (H := H) .i64 (zs.take len)).length + (lits (H := H) .i64 (zs.drop len)).length) * Try.prog.bytesOf 3 ≤ reachBytes := by
      refine hr _ ?_
      rw [hx]
      unfold DataW.weights
      rw [Try.underlying30]
      exact List.mem_cons_self
    rw [show Try.prog.bytesOf 3 = 8 from by kernel_rfl] at h2
    unfold lits at h2
    rw [List.length_map, List.length_map, List.length_take, List.length_drop] at h2
    have h3 : min len zs.length = len := by omega
    rw [h3] at h2
    unfold reachBytes at h2
    omega
/-- The six readings of an act make an act. -/
theorem act_of {H : Type} {enc' : TypeId × Value → H} {W : World} {sp : Nat → Bool} {held : Bool} {n0 n1 n2 n3 n4 n5 : Nat} {v0 v1 v2 v3 v4 v5 : Value} {y0 y1 y2 y3 y4 y5 : DataW H × List MemPlace}
    (h0 : DataW.trod enc' Try.prog W 0 sp held n0 3 [v0] = some y0) (h1 : DataW.trod enc' Try.prog W 0 sp held n1 3 [v1] = some y1) (h2 : DataW.trod enc' Try.prog W 0 sp held n2 3 [v2] = some y2) (h3 : DataW.trod enc' Try.prog W 0 sp held n3 3 [v3] = some y3) (h4 : DataW.trod enc' Try.prog W 0 sp held n4 9 [v4] = some y4) (h5 : DataW.trod enc' Try.prog W 0 sp held n5 30 [v5] = some y5)
    (hr4 : ∀ m ∈ y4.1.weights Try.prog 9, m ≤ reachBytes) (hr5 : ∀ m ∈ y5.1.weights Try.prog 30, m ≤ reachBytes) :
    ∃ (a : Dk.Act) (ka : Option Addr) (kb koff kn kcap : Nat), AC W a ka kb koff kn kcap ∧ [v0, v1, v2, v3, v4, v5] = acells a ka kn kcap ∧ (∃ fl, -9223372036854775808 ≤ a.f ∧ a.f ≤ 9223372036854775807 ∧ -9223372036854775808 ≤ a.g ∧ a.g ≤ 9223372036854775807 ∧ fl = 0) := by
  obtain ⟨x0, c0, _, w0⟩ := DataW.trod_int Try.underlying3 h0
  obtain ⟨x1, c1, _, w1⟩ := DataW.trod_int Try.underlying3 h1
  obtain ⟨x2, c2, _, w2⟩ := DataW.trod_int Try.underlying3 h2
  obtain ⟨x3, c3, _, w3⟩ := DataW.trod_int Try.underlying3 h3
  obtain ⟨s, c4, e4, _⟩ := DataW.trod_string Try.underlying9 h4
  obtain ⟨ka, kb, koff, kcap, kn, ks, c5, hkn, hk, hnil⟩ := open_ir h5
  injection c0 with c0 _
  injection c1 with c1 _
  injection c2 with c2 _
  injection c3 with c3 _
  injection c4 with c4 _
  subst c0 c1 c2 c3 c4 c5
  obtain ⟨p0, q0⟩ := int_range w0
  obtain ⟨p1, q1⟩ := int_range w1
  obtain ⟨p2, q2⟩ := int_range w2
  obtain ⟨p3, q3⟩ := int_range w3
  have hrs : s.data.toList.length ≤ 140737488351232 := by
    refine hr4 _ ?_
    rw [e4]
    unfold DataW.weights
    exact List.mem_singleton.2 rfl
  refine ⟨⟨x0, x1, x2, x3, s.data.toList, ks⟩, ka, kb, koff, kn, kcap, ⟨hk, hkn, hnil, p3, q3, p0, q0, hrs, ints_reach h5 hr5⟩, ?_, ⟨0, p1, q1, p2, q2, rfl⟩⟩
  unfold acells enc
  rfl
theorem add_none {xb xo j : Nat} : Addr.add ⟨xb, xo, none⟩ j = ⟨xb, xo + j, none⟩ := by unfold Addr.add; by_cases hj : j = 0 <;> simp [hj]
theorem weights_each {H : Type} {P : Program} : ∀ {ts : List TypeId} {l : List (DataW H)} (j : Nat) {t : TypeId} {d : DataW H} {n : Nat}, ts[j]? = some t → l[j]? = some d → n ∈ d.weights P t → n ∈ DataW.weightsEach P ts l
  | [], _, _, _, _, _, h, _, _ => by simp at h
  | _ :: _, [], _, _, _, _, _, h, _ => by simp at h
  | t0 :: ts, d0 :: r, 0, t, d, n, h, h', hn => by
    simp at h h'
    subst h h'
    unfold DataW.weightsEach
    exact List.mem_append_left _ hn
  | t0 :: ts, d0 :: r, j + 1, t, d, n, h, h', hn => by
    unfold DataW.weightsEach
    exact List.mem_append_right _ (weights_each j (by simpa using h) (by simpa using h') hn)
theorem open_la {H : Type} {enc' : TypeId × Value → H} {W : World} {sp : Nat → Bool} {held : Bool} {fuel : Nat} {v : Value} {y : DataW H × List MemPlace} (h : DataW.trod enc' Try.prog W 0 sp held fuel 22 [v] = some y) (hr : ∀ n ∈ y.1.weights Try.prog 22, n ≤ reachBytes) :
    ∃ (xa : Option Addr) (b off cap n : Nat) (X : List Dk.Act), v = .slice xa n cap ∧ X.length = n ∧ n ≤ 9223372036854775807 ∧ LA W xa b off X := by
  obtain ⟨x0, x1, x2, x3, x4, x5, hst, hone, e0, e1, e2, e3, e4, e5⟩ := act_fields
  have hC : Try.prog.cellsOf 32 = 6 := by kernel_rfl
  rcases open_slice Try.underlying22 h with ⟨hcs, _⟩ | ⟨a, len, cap, m, fu, D, Pl, hcs, _, hl, hm, hmm, hx, hi⟩
  · injection hcs with hcs _
    exact ⟨none, 0, 0, 0, 0, [], hcs, rfl, by omega, ⟨fun h => absurd h (Nat.lt_irrefl _), fun j x hj => by simp at hj, fun h => absurd h (Nat.lt_irrefl _)⟩⟩
  · injection hcs with hcs _
    unfold maxLen at hm
    have hle : len ≤ m := by rw [hmm]; split <;> omega
    by_cases h0 : len = 0
    · subst h0
      exact ⟨some a, 0, 0, cap, 0, [], hcs, rfl, by omega, ⟨fun h => absurd h (Nat.lt_irrefl _), fun j x hj => by simp at hj, fun h => absurd h (Nat.lt_irrefl _)⟩⟩
    · have each : ∀ i, i < len → ∃ (x : Dk.Act) (ka : Option Addr) (kb koff kn kcap : Nat), AC W x ka kb koff kn kcap ∧ ∀ j v, (acells x ka kn kcap)[j]? = some v → W.cell? ((a.add (i * 6)).add j) = some v := fun i hil => by
        obtain ⟨cs', hc, ht'⟩ := hi i (by omega)
        rw [hC] at hc
        obtain ⟨ys, fu', _, hy, _, hyl, hf⟩ := DataW.trod_struct hst ht'
        obtain ⟨_, hcl, hat⟩ := World.cells?_some hc
        match cs', hcl with
        | [c0, c1, c2, c3, c4, c5], _ =>
          match ys, hyl with
          | [y0, y1, y2, y3, y4, y5], _ =>
            obtain ⟨o0, k0⟩ := hone_of hone 0 x0 rfl
            obtain ⟨o1, k1⟩ := hone_of hone 1 x1 rfl
            obtain ⟨o2, k2⟩ := hone_of hone 2 x2 rfl
            obtain ⟨o3, k3⟩ := hone_of hone 3 x3 rfl
            obtain ⟨o4, k4⟩ := hone_of hone 4 x4 rfl
            obtain ⟨o5, k5⟩ := hone_of hone 5 x5 rfl
            have f0 := hf 0 x0 rfl
            have f1 := hf 1 x1 rfl
            have f2 := hf 2 x2 rfl
            have f3 := hf 3 x3 rfl
            have f4 := hf 4 x4 rfl
            have f5 := hf 5 x5 rfl
            rw [o0, k0, e0] at f0
            rw [o1, k1, e1] at f1
            rw [o2, k2, e2] at f2
            rw [o3, k3, e3] at f3
            rw [o4, k4, e4] at f4
            rw [o5, k5, e5] at f5
            have hD : D i = .agg [y0.1, y1.1, y2.1, y3.1, y4.1, y5.1] := by simpa using congrArg Prod.fst hy
            have hw : ∀ (j : Nat) (t : TypeId) (d : DataW H) (n : Nat), ([x0, x1, x2, x3, x4, x5].map (·.type))[j]? = some t → [y0.1, y1.1, y2.1, y3.1, y4.1, y5.1][j]? = some d → n ∈ d.weights Try.prog t → n ≤ reachBytes := fun j t d n ht hd hn => by
              refine hr _ ?_
              rw [hx]
              show n ∈ DataW.weights Try.prog 22 (.slice _ _)
              unfold DataW.weights
              rw [Try.underlying22]
              refine List.mem_cons_of_mem _ (List.mem_append_left _ (weights_mem (d := D i) (List.mem_map.2 ⟨i, List.mem_range.2 hil, rfl⟩) ?_))
              rw [hD]
              unfold DataW.weights
              rw [hst]
              exact weights_each j ht hd hn
            obtain ⟨x, ka, kb, koff, kn, kcap, hA, hcells, _⟩ := act_of f0 f1 f2 f3 f4 f5 (fun m hm => hw 4 _ _ m (by rw [← e4]; rfl) rfl hm) (fun m hm => hw 5 _ _ m (by rw [← e5]; rfl) rfl hm)
            refine ⟨x, ka, kb, koff, kn, kcap, hA, fun j v hj => ?_⟩
            rw [← hcells] at hj
            have hj6 : j < 6 := (List.getElem?_eq_some_iff.1 hj).1
            rw [hat j hj6, hj]
      obtain ⟨xb, xo, spot⟩ := a
      obtain ⟨_, _, _, _, _, _, _, hfirst⟩ := each 0 (by omega)
      have hc0 := hfirst 0 _ rfl
      have hspot : spot = none := by simpa [Addr.add] using World.cell?_spot hc0
      subst hspot
      rw [add_none, add_none] at hc0
      have hlt : xb < W.heap.size := World.block_lt_of_cell? W _ hc0
      refine ⟨some ⟨xb, xo, none⟩, xb, xo, cap, len, List.ofFn fun i : Fin len => Classical.choose (each i.1 i.2), hcs, List.length_ofFn, by omega, ⟨fun _ => rfl, fun j x hj => ?_, fun _ => hlt⟩⟩
      rw [List.getElem?_ofFn] at hj
      split at hj
      case isFalse => cases hj
      rename_i hjl
      obtain rfl := Option.some.inj hj
      obtain ⟨ka, kb, koff, kn, kcap, hA, hcells⟩ := Classical.choose_spec (each j hjl)
      refine ⟨ka, kb, koff, kn, kcap, hA, fun q v hq => ?_⟩
      have := hcells q v hq
      rw [add_none, add_none] at this
      exact this
theorem open_laV {H : Type} {enc' : TypeId × Value → H} {W : World} {v : Value} {d : DataW H} {p : List MemPlace} (hs : ∃ a len cap, v = .slice a len cap) (h : DataW.Trod enc' Try.prog W 0 (fun _ => true) true 22 v d p) (hr : ∀ n ∈ d.weights Try.prog 22, n ≤ reachBytes) :
    ∃ (xa : Option Addr) (b off cap n : Nat) (X : List Dk.Act), v = .slice xa n cap ∧ X.length = n ∧ n ≤ 9223372036854775807 ∧ LA W xa b off X := by
  obtain ⟨a0, len, cap, rfl⟩ := hs
  obtain ⟨fuel, hf⟩ := h
  exact open_la hf hr
/-- An act by value. -/
theorem open_actV {H : Type} {enc' : TypeId × Value → H} {W : World} {r : Reach} {b0 : Nat} {v : Value} {d : DataW H} {p : List MemPlace} (hv : Value.okWide Try.prog W r b0 32 v) (h : DataW.Trod enc' Try.prog W 0 (fun _ => true) true 32 v d p) (hr : ∀ n ∈ d.weights Try.prog 32, n ≤ reachBytes) :
    ∃ (a : Dk.Act) (ka : Option Addr) (kb koff kn kcap : Nat), AC W a ka kb koff kn kcap ∧ v = .agg (acells a ka kn kcap).toArray := by
  obtain ⟨x0, x1, x2, x3, x4, x5, hst, hone, e0, e1, e2, e3, e4, e5⟩ := act_fields
  have hC : Try.prog.cellsOf 32 = 6 := by kernel_rfl
  obtain ⟨cs, rfl, hsz⟩ := okWide_struct hst hv
  obtain ⟨l⟩ := cs
  match l, hsz.trans hC with
  | [c0, c1, c2, c3, c4, c5], _ =>
    obtain ⟨fuel, hf⟩ := h
    obtain ⟨ys, n, _, hy, _, hyl, hg⟩ := DataW.trod_struct hst hf
    match ys, hyl with
    | [y0, y1, y2, y3, y4, y5], _ =>
      obtain ⟨o0, k0⟩ := hone_of hone 0 x0 rfl
      obtain ⟨o1, k1⟩ := hone_of hone 1 x1 rfl
      obtain ⟨o2, k2⟩ := hone_of hone 2 x2 rfl
      obtain ⟨o3, k3⟩ := hone_of hone 3 x3 rfl
      obtain ⟨o4, k4⟩ := hone_of hone 4 x4 rfl
      obtain ⟨o5, k5⟩ := hone_of hone 5 x5 rfl
      have f0 := hg 0 x0 rfl
      have f1 := hg 1 x1 rfl
      have f2 := hg 2 x2 rfl
      have f3 := hg 3 x3 rfl
      have f4 := hg 4 x4 rfl
      have f5 := hg 5 x5 rfl
      rw [o0, k0, e0] at f0
      rw [o1, k1, e1] at f1
      rw [o2, k2, e2] at f2
      rw [o3, k3, e3] at f3
      rw [o4, k4, e4] at f4
      rw [o5, k5, e5] at f5
      have hD : d = .agg [y0.1, y1.1, y2.1, y3.1, y4.1, y5.1] := by simpa using congrArg Prod.fst hy
      have hw : ∀ (j : Nat) (t : TypeId) (d' : DataW H) (n : Nat), ([x0, x1, x2, x3, x4, x5].map (·.type))[j]? = some t → [y0.1, y1.1, y2.1, y3.1, y4.1, y5.1][j]? = some d' → n ∈ d'.weights Try.prog t → n ≤ reachBytes := fun j t d' n ht hd hn => by
        refine hr _ ?_
        rw [hD]
        unfold DataW.weights
        rw [hst]
        exact weights_each j ht hd hn
      obtain ⟨x, ka, kb, koff, kn, kcap, hA, hcells, _⟩ := act_of f0 f1 f2 f3 f4 f5 (fun m hm => hw 4 _ _ m (by rw [← e4]; rfl) rfl hm) (fun m hm => hw 5 _ _ m (by rw [← e5]; rfl) rfl hm)
      exact ⟨x, ka, kb, koff, kn, kcap, hA, by rw [← hcells]⟩
/-- Each argument's weights are within the reach. -/
theorem reach_at {H : Type} {P : Program} {ts us : List TypeId} {ds gs : List (DataW H)} (h : (DataW.weightsEach P (ts ++ us) (ds ++ gs)).all (· ≤ reachBytes) = true) (j : Nat) (t : TypeId) (d : DataW H) (n : Nat) (ht : ts[j]? = some t) (hd : ds[j]? = some d) (hn : n ∈ d.weights P t) : n ≤ reachBytes := by
  have h1 := (List.getElem?_eq_some_iff.1 ht).1
  have h2 := (List.getElem?_eq_some_iff.1 hd).1
  have hm : n ∈ DataW.weightsEach P (ts ++ us) (ds ++ gs) := weights_each j (by rw [List.getElem?_append_left h1]; exact ht) (by rw [List.getElem?_append_left h2]; exact hd) hn
  simpa using List.all_eq_true.1 h n hm
end Go.Proofs.Ytbelmadbjiiodaa
