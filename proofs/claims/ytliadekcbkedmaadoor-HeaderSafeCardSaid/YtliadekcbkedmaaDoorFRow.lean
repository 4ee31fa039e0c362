/-
  The rows' common parts at header's seat: a start that fits, what lies behind the call; lists of fields and of parameters that came in.
-/
import Derived.Test.YtliadekcbkedmaaDoorCards
import Derived.Test.YtliadekcbkedmaaDoorTie
import Derived.Test.YtliadekcbkedmaaDoorFSm
import Derived.WalkKit
import Derived.ProofKit
import Derived.OpenShut
import Derived.Deep.DeepHandedRow
import Derived.Deep.Slices
import Derived.Deep.Fields
import Derived.Lib.SmallJoins
import Derived.Carry
import Derived.SliceStrings
import Derived.Lay
import Derived.Shelf.Vars
import Derived.LaidLaws
import Derived.LaidSub
import Derived.Lib.LaidU8T
import Derived.PinnedBridge
import Derived.Lib.LaidTab
namespace Go.Proofs.YtliadekcbkedmaaDoor
open Go Go.ChangeShapes Go.WideShapes Go.ChangeAt Go.RowKit Go.Deep
theorem own : ownKnob Tryd.prog.godebug = none := by kernel_rfl

/-- A start that fits: the settled world with the listed tables laid. -/
theorem witness_laid {H : Type} {enc : TypeId × Value → H} {os : Os} {f : FuncId} {fn : Func} {s : OpenSpec} {conds : List PathCond} {apart : Bool} {laid : List (String × DataW Unit)} (w0 : World) (args : Array Value) (hos : w0.os = os)
    (hsh : (w0.forCall (fun _ _ => 0) ⟨#[], args, []⟩).Shaped Tryd.checked.prog)
    (hok : Input.okWideB Tryd.checked.prog (w0.forCall (fun _ _ => 0) ⟨#[], args, []⟩) f ⟨#[], args, []⟩ = true)
    (hrow : s.preRow enc Tryd.checked.prog fn conds apart laid (w0.forCall (fun _ _ => 0) ⟨#[], args, []⟩).memory args) :
    ∃ (w : World) (tape : Tape) (i : Input), w.os = os ∧ (w.forCall tape i).Shaped Tryd.checked.prog ∧ i.vars = [] ∧ Input.okWide Tryd.checked.prog (w.forCall tape i) .any w.heap.size f i ∧
      s.preRow enc Tryd.checked.prog fn conds apart laid (w.forCall tape i).memory i.args ∧ ({} : Assume).holds Tryd.checked.prog (lone (Frame.enter Tryd.checked.prog f i.args .normal) [] (w.forCall tape i)) :=
  ⟨w0, fun _ _ => 0, ⟨#[], args, []⟩, hos, hsh, (Input.okWide_of_okWideB (base := 0) hok).1, (Input.okWide_of_okWideB hok).2, hrow, by
    simp only [Assume.holds]
    exact ⟨by simp, by simp, fun _ => Modest.zero, by simp, by simp⟩⟩

theorem max_of_shape {W : World} (h : W.ShapedOpen Tryd.prog) : MaxAt W :=
  cell_of_shapedOpen_int (zero := #[.int .i64 0]) (t := 3) h (of_decide_eq_true (by kernel_rfl)) (by kernel_rfl) rfl (by kernel_rfl) (by kernel_rfl) Tryd.underlying3

/-- What every row of this seat lists. -/
def laidAll : List (String × DataW Unit) := [("unicode/utf8.acceptRanges", Rows.laid_unicode_utf8_acceptRanges), ("unicode/utf8.first", Rows.laid_unicode_utf8_first)]
theorem add_none {xb xo j : Nat} : Addr.add ⟨xb, xo, none⟩ j = ⟨xb, xo + j, none⟩ := by unfold Addr.add; by_cases hj : j = 0 <;> simp [hj]
theorem fields_f : ∃ x0 x1 : Field, Tryd.prog.underlying 35 = some (.struct #[x0, x1]) ∧ oneCellFields Tryd.prog #[x0, x1] = true ∧ x0.type = 9 ∧ x1.type = 9 :=
  ⟨_, _, Tryd.underlying35, by kernel_rfl, rfl, rfl⟩
set_option maxRecDepth 100000 in
theorem open_fl {H : Type} {enc' : TypeId × Value → H} {W : World} {sp : Nat → Bool} {held : Bool} {fuel : Nat} {v : Value} {y : DataW H × List MemPlace} (h : DataW.trod enc' Tryd.prog W 0 sp held fuel 33 [v] = some y) :
    ∃ (xa : Option Addr) (b off cap n : Nat) (X : List Hd.Fd), v = .slice xa n cap ∧ X.length = n ∧ n ≤ 9223372036854775807 ∧ PL W xa b off X := by
  obtain ⟨x0, x1, hst, hone, e0, e1⟩ := fields_f
  have hC : Tryd.prog.cellsOf 35 = 2 := by kernel_rfl
  rcases open_slice Tryd.underlying33 h with ⟨hcs, _⟩ | ⟨a, len, cap, m, fu, D, Pl, hcs, _, hl, hm, hmm, hx, hi⟩
  · injection hcs with hcs _
    exact ⟨none, 0, 0, 0, 0, [], hcs, rfl, by omega, PL.nil _ _ _ _⟩
  · injection hcs with hcs _
    unfold maxLen at hm
    have hle : len ≤ m := by rw [hmm]; split <;> omega
    by_cases h0 : len = 0
    · subst h0
      exact ⟨some a, 0, 0, cap, 0, [], hcs, rfl, by omega, PL.nil _ _ _ _⟩
    · have each : ∀ i, i < len → ∃ x : Hd.Fd, ∀ j v, (pcv x)[j]? = some v → W.cell? ((a.add (i * 2)).add j) = some v := fun i hil => by
        obtain ⟨cs', hc, ht'⟩ := hi i (by omega)
        rw [hC] at hc
        obtain ⟨ys, fu', _, hy, _, hyl, hf⟩ := DataW.trod_struct hst ht'
        obtain ⟨_, hcl, hat⟩ := World.cells?_some hc
        match cs', hcl with
        | [c0, c1], _ =>
          match ys, hyl with
          | [y0, y1], _ =>
            obtain ⟨o0, k0⟩ := hone_of hone 0 x0 rfl
            obtain ⟨o1, k1⟩ := hone_of hone 1 x1 rfl
            have f0 := hf 0 x0 rfl
            have f1 := hf 1 x1 rfl
            rw [o0, k0, e0] at f0
            rw [o1, k1, e1] at f1
            obtain ⟨s0, g0, _, _⟩ := DataW.trod_string Tryd.underlying9 f0
            obtain ⟨s1, g1, _, _⟩ := DataW.trod_string Tryd.underlying9 f1
            injection g0 with g0 _
            injection g1 with g1 _
            subst g0 g1
            refine ⟨(s0.data.toList, s1.data.toList), fun j v hj => ?_⟩
            have hj2 : j < 2 := (List.getElem?_eq_some_iff.1 hj).1
            rw [hat j hj2]
            have e : pcv (s0.data.toList, s1.data.toList) = [Value.string s0, Value.string s1] := by
              unfold pcv encStr
              rw [str_back, str_back]
            rw [e] at hj
            exact hj
      obtain ⟨xb, xo, spot⟩ := a
      obtain ⟨_, hfirst⟩ := each 0 (by omega)
      have hc0 := hfirst 0 _ rfl
      have hspot : spot = none := by simpa [Addr.add] using World.cell?_spot hc0
      subst hspot
      rw [add_none, add_none] at hc0
      have hlt : xb < W.heap.size := World.block_lt_of_cell? W _ hc0
      refine ⟨some ⟨xb, xo, none⟩, xb, xo, cap, len, List.ofFn fun i : Fin len => Classical.choose (each i.1 i.2), hcs, List.length_ofFn, by omega, ⟨fun _ => rfl, fun j x hj => ?_, fun _ => hlt⟩⟩
      rw [List.getElem?_ofFn] at hj
      split at hj
      case isFalse => cases hj
      rename_i hjl
      obtain rfl := Option.some.inj hj
      have hcells := Classical.choose_spec (each j hjl)
      clear hj
      generalize Classical.choose (each j hjl) = z at hcells ⊢
      have q0 := hcells 0 _ rfl
      have q1 := hcells 1 _ rfl
      rw [add_none, add_none] at q0 q1
      exact ⟨q0, q1⟩
theorem open_flV {H : Type} {enc' : TypeId × Value → H} {W : World} {v : Value} {d : DataW H} {p : List MemPlace} (hs : ∃ a len cap, v = .slice a len cap) (h : DataW.Trod enc' Tryd.prog W 0 (fun _ => true) true 33 v d p) :
    ∃ (xa : Option Addr) (b off cap n : Nat) (X : List Hd.Fd), v = .slice xa n cap ∧ X.length = n ∧ n ≤ 9223372036854775807 ∧ PL W xa b off X := by
  obtain ⟨a0, len, cap, rfl⟩ := hs
  obtain ⟨fuel, hf⟩ := h
  exact open_fl hf
theorem fields_p : ∃ x0 x1 : Field, Tryd.prog.underlying 25 = some (.struct #[x0, x1]) ∧ oneCellFields Tryd.prog #[x0, x1] = true ∧ x0.type = 9 ∧ x1.type = 9 :=
  ⟨_, _, Tryd.underlying25, by kernel_rfl, rfl, rfl⟩
set_option maxRecDepth 100000 in
theorem open_pl {H : Type} {enc' : TypeId × Value → H} {W : World} {sp : Nat → Bool} {held : Bool} {fuel : Nat} {v : Value} {y : DataW H × List MemPlace} (h : DataW.trod enc' Tryd.prog W 0 sp held fuel 22 [v] = some y) :
    ∃ (xa : Option Addr) (b off cap n : Nat) (X : List Hd.Fd), v = .slice xa n cap ∧ X.length = n ∧ n ≤ 9223372036854775807 ∧ PL W xa b off X := by
  obtain ⟨x0, x1, hst, hone, e0, e1⟩ := fields_p
  have hC : Tryd.prog.cellsOf 25 = 2 := by kernel_rfl
  rcases open_slice Tryd.underlying22 h with ⟨hcs, _⟩ | ⟨a, len, cap, m, fu, D, Pl, hcs, _, hl, hm, hmm, hx, hi⟩
  · injection hcs with hcs _
    exact ⟨none, 0, 0, 0, 0, [], hcs, rfl, by omega, PL.nil _ _ _ _⟩
  · injection hcs with hcs _
    unfold maxLen at hm
    have hle : len ≤ m := by rw [hmm]; split <;> omega
    by_cases h0 : len = 0
    · subst h0
      exact ⟨some a, 0, 0, cap, 0, [], hcs, rfl, by omega, PL.nil _ _ _ _⟩
    · have each : ∀ i, i < len → ∃ x : Hd.Fd, ∀ j v, (pcv x)[j]? = some v → W.cell? ((a.add (i * 2)).add j) = some v := fun i hil => by
        obtain ⟨cs', hc, ht'⟩ := hi i (by omega)
        rw [hC] at hc
        obtain ⟨ys, fu', _, hy, _, hyl, hf⟩ := DataW.trod_struct hst ht'
        obtain ⟨_, hcl, hat⟩ := World.cells?_some hc
        match cs', hcl with
        | [c0, c1], _ =>
          match ys, hyl with
          | [y0, y1], _ =>
            obtain ⟨o0, k0⟩ := hone_of hone 0 x0 rfl
            obtain ⟨o1, k1⟩ := hone_of hone 1 x1 rfl
            have f0 := hf 0 x0 rfl
            have f1 := hf 1 x1 rfl
            rw [o0, k0, e0] at f0
            rw [o1, k1, e1] at f1
            obtain ⟨s0, g0, _, _⟩ := DataW.trod_string Tryd.underlying9 f0
            obtain ⟨s1, g1, _, _⟩ := DataW.trod_string Tryd.underlying9 f1
            injection g0 with g0 _
            injection g1 with g1 _
            subst g0 g1
            refine ⟨(s0.data.toList, s1.data.toList), fun j v hj => ?_⟩
            have hj2 : j < 2 := (List.getElem?_eq_some_iff.1 hj).1
            rw [hat j hj2]
            have e : pcv (s0.data.toList, s1.data.toList) = [Value.string s0, Value.string s1] := by
              unfold pcv encStr
              rw [str_back, str_back]
            rw [e] at hj
            exact hj
      obtain ⟨xb, xo, spot⟩ := a
      obtain ⟨_, hfirst⟩ := each 0 (by omega)
      have hc0 := hfirst 0 _ rfl
      have hspot : spot = none := by simpa [Addr.add] using World.cell?_spot hc0
      subst hspot
      rw [add_none, add_none] at hc0
      have hlt : xb < W.heap.size := World.block_lt_of_cell? W _ hc0
      refine ⟨some ⟨xb, xo, none⟩, xb, xo, cap, len, List.ofFn fun i : Fin len => Classical.choose (each i.1 i.2), hcs, List.length_ofFn, by omega, ⟨fun _ => rfl, fun j x hj => ?_, fun _ => hlt⟩⟩
      rw [List.getElem?_ofFn] at hj
      split at hj
      case isFalse => cases hj
      rename_i hjl
      obtain rfl := Option.some.inj hj
      have hcells := Classical.choose_spec (each j hjl)
      clear hj
      generalize Classical.choose (each j hjl) = z at hcells ⊢
      have q0 := hcells 0 _ rfl
      have q1 := hcells 1 _ rfl
      rw [add_none, add_none] at q0 q1
      exact ⟨q0, q1⟩
theorem open_plV {H : Type} {enc' : TypeId × Value → H} {W : World} {v : Value} {d : DataW H} {p : List MemPlace} (hs : ∃ a len cap, v = .slice a len cap) (h : DataW.Trod enc' Tryd.prog W 0 (fun _ => true) true 22 v d p) :
    ∃ (xa : Option Addr) (b off cap n : Nat) (X : List Hd.Fd), v = .slice xa n cap ∧ X.length = n ∧ n ≤ 9223372036854775807 ∧ PL W xa b off X := by
  obtain ⟨a0, len, cap, rfl⟩ := hs
  obtain ⟨fuel, hf⟩ := h
  exact open_pl hf
section
variable {H : Type} {enc : TypeId × Value → H} {P : Program}
/-- The row's last step where the call made memory of its own and left all other memory as it was: one result, its arguments read as before. -/
theorem post_kept {f : Func} {s : ChangeSpec} {apart fresh handsOn again : Bool} {W W' : World} {args : Array Value} {v : Value} {ds gs : List (DataW H)} {before pa pv : List MemPlace}
    (hW : DataW.Whole enc P f.params.toList s.vars apart W args.toList ds gs before)
    (hres : ∀ (b : Nat) (sp : Nat → Bool) (hd : Bool), DataW.TrodAll enc P W' b sp hd f.resultTypes.toList (v.resultList f.resultTypes.size) (s.fn H (ds ++ gs)).results [])
    (hargs : ∀ sp : Nat → Bool, (∀ p ∈ before, sp p.block = true) → DataW.TrodAll enc P W' 0 sp true f.params.toList args.toList (s.fn H (ds ++ gs)).args pa)
    (hvars : ∀ sp : Nat → Bool, (∀ p ∈ before, sp p.block = true) → DataW.TrodVars enc P W' sp s.vars (s.fn H (ds ++ gs)).vars pv)
    (hps : before = pa ++ pv) (hb : Below W.heap.size W W')
    (hok : ∀ (j : Nat) (t : TypeId) (r : Value), f.resultTypes[j]? = some t → (v.resultList f.resultTypes.size)[j]? = some r → Value.okWide P W' .any 0 t r) :
    s.post enc P f apart fresh handsOn again W args v W' := by
  have hlt : ∀ p ∈ before, p.block < W.heap.size := fun p hp => hW.lt p hp
  have hold : ∀ p ∈ before, (fun b => decide (b < W.heap.size)) p.block = true := fun p hp => by simpa using hlt p hp
  refine ⟨ds, gs, before, [], pa, pv, hW, hres _ _ _, hargs _ hold, hvars _ hold, World.keptBut_mono (fun p hp => ⟨hp, ?_⟩) (hb.frame (· ∈ before)), fun _ => ?_⟩
  · rw [hps, List.mem_append] at hp
    exact Or.inr hp
  · obtain ⟨_, _, _, _, _, hz, hn⟩ := hW
    refine ⟨hok, _, _, ([] ++ pa) ++ pv, ⟨[] ++ pa, pv, trodAll_append (hargs _ (fun _ _ => rfl)) (hres _ _ _), hvars _ (fun _ _ => rfl), rfl, ?_, ?_⟩, ?_⟩
    · intro b off hp
      have hin : MemPlace.cell b off ∈ before := by rw [hps]; simpa using hp
      rw [hb.frozen (hlt _ hin)]
      exact hz b off hin
    · intro ha
      have := hn ha
      rw [hps] at this
      simpa using this
    · intro p hp _
      rw [hps]
      simpa using hp
end
end Go.Proofs.YtliadekcbkedmaaDoor
