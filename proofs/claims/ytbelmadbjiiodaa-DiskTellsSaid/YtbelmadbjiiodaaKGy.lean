/-
  The rows' common parts: a start that fits, what lies behind the call; a list of ints that came in.
  A list of strings that came in, within the form's reach.
-/
import Derived.Test.YtbelmadbjiiodaaRows
import Derived.Test.YtbelmadbjiiodaaKGc
import Derived.WalkKit
import Derived.ProofKit
import Derived.OpenShut
import Derived.Deep.DeepHandedRow
import Derived.Lay
import Derived.Shelf.Vars
import Derived.LaidLaws
import Derived.LaidSub
import Derived.ChangeSlices
import Derived.Carry
import Derived.SliceStrings
namespace Go.Proofs.Ytbelmadbjiiodaa
open Go Go.ChangeShapes Go.WideShapes Go.ChangeAt Go.RowKit

theorem own : ownKnob Try.prog.godebug = none := by kernel_rfl
/-- A start that fits: the settled world. -/
theorem witness_laid {H : Type} {enc : TypeId × Value → H} {os : Os} {f : FuncId} {fn : Func} {s : OpenSpec} {conds : List PathCond} {apart : Bool} {laid : List (String × DataW Unit)} (w0 : World) (args : Array Value) (hos : w0.os = os)
    (hsh : (w0.forCall (fun _ _ => 0) ⟨#[], args, []⟩).Shaped Try.checked.prog)
    (hok : Input.okWideB Try.checked.prog (w0.forCall (fun _ _ => 0) ⟨#[], args, []⟩) f ⟨#[], args, []⟩ = true)
    (hrow : s.preRow enc Try.checked.prog fn conds apart laid (w0.forCall (fun _ _ => 0) ⟨#[], args, []⟩).memory args) :
    ∃ (w : World) (tape : Tape) (i : Input), w.os = os ∧ (w.forCall tape i).Shaped Try.checked.prog ∧ i.vars = [] ∧ Input.okWide Try.checked.prog (w.forCall tape i) .any w.heap.size f i ∧
      s.preRow enc Try.checked.prog fn conds apart laid (w.forCall tape i).memory i.args ∧ ({} : Assume).holds Try.checked.prog (lone (Frame.enter Try.checked.prog f i.args .normal) [] (w.forCall tape i)) :=
  ⟨w0, fun _ _ => 0, ⟨#[], args, []⟩, hos, hsh, (Input.okWide_of_okWideB (base := 0) hok).1, (Input.okWide_of_okWideB hok).2, hrow, by
    simp only [Assume.holds]
    exact ⟨by simp, by simp, fun _ => Modest.zero, by simp, by simp⟩⟩
section
variable {H : Type} {enc : TypeId × Value → H} {P : Program}
/-- The row's last step where the call made memory of its own and left all other memory as it was: one result, its arguments read as before. -/
theorem post_kept {f : Func} {s : ChangeSpec} {apart fresh handsOn again : Bool} {W W' : World} {args : Array Value} {v : Value} {ds gs : List (DataW H)} {before pa pv : List MemPlace}
    (hW : DataW.Whole enc P f.params.toList s.vars apart W args.toList ds gs before)
    (hres : ∀ (b : Nat) (sp : Nat → Bool) (hd : Bool), DataW.TrodAll enc P W' b sp hd f.resultTypes.toList (v.resultList f.resultTypes.size) (s.fn H (ds ++ gs)).results [])
    (hargs : ∀ sp : Nat → Bool, (∀ p ∈ before, sp p.block = true) → DataW.TrodAll enc P W' 0 sp true f.params.toList args.toList (s.fn H (ds ++ gs)).args pa)
    (hvars : ∀ sp : Nat → Bool, (∀ p ∈ before, sp p.block = true) → DataW.TrodVars enc P W' sp s.vars (s.fn H (ds ++ gs)).vars pv)
    (hps : before = pa ++ pv) (hb : Below W.heap.size W W')
    (hok : ∀ (j : Nat) (t : TypeId) (r : Value), f.resultTypes[j]? = some t → (v.resultList f.resultTypes.size)[j]? = some r → Value.okWide P W' .any 0 t r) :
    s.post enc P f apart fresh handsOn again W args v W' := by
  have hlt : ∀ p ∈ before, p.block < W.heap.size := fun p hp => hW.lt p hp
  have hold : ∀ p ∈ before, (fun b => decide (b < W.heap.size)) p.block = true := fun p hp => by simpa using hlt p hp
  refine ⟨ds, gs, before, [], pa, pv, hW, hres _ _ _, hargs _ hold, hvars _ hold, World.keptBut_mono (fun p hp => ⟨hp, ?_⟩) (hb.frame (· ∈ before)), fun _ => ?_⟩
  · rw [hps, List.mem_append] at hp
    exact Or.inr hp
  · obtain ⟨_, _, _, _, _, hz, hn⟩ := hW
    refine ⟨hok, _, _, ([] ++ pa) ++ pv, ⟨[] ++ pa, pv, trodAll_append (hargs _ (fun _ _ => rfl)) (hres _ _ _), hvars _ (fun _ _ => rfl), rfl, ?_, ?_⟩, ?_⟩
    · intro b off hp
      have hin : MemPlace.cell b off ∈ before := by rw [hps]; simpa using hp
      rw [hb.frozen (hlt _ hin)]
      exact hz b off hin
    · intro ha
      have := hn ha
      rw [hps] at this
      simpa using this
    · intro p hp _
      rw [hps]
      simpa using hp
end
theorem int_range {n : Int} (h : (Lit.int .i64 n).wf = true) : -9223372036854775808 ≤ n ∧ n ≤ 9223372036854775807 := by
  have h2 : (decide (IntKind.i64.min ≤ n) && decide (n ≤ IntKind.i64.max)) = true := h
  simp only [Bool.and_eq_true, decide_eq_true_eq] at h2
  exact h2
theorem open_ir {H : Type} {enc : TypeId × Value → H} {W : World} {sp : Nat → Bool} {held : Bool} {fuel : Nat} {v : Value} {y : DataW H × List MemPlace} (h : DataW.trod enc Try.prog W 0 sp held fuel 30 [v] = some y) :
    ∃ (ka : Option Addr) (b off cap n : Nat) (ks : List Int), v = .slice ka n cap ∧ ks.length = n ∧ IR W ka b off ks ∧ (ka = none → cap = 0) := by
  rcases open_ints Try.underlying30 Try.underlying3 (by kernel_rfl) h with ⟨hcs, _⟩ | ⟨a, len, cap, zs, hcs, _, hl, hm, hz, _, hcell, _⟩
  · injection hcs with hcs _
    refine ⟨none, 0, 0, 0, 0, [], hcs, rfl, ⟨fun h => absurd h (Nat.lt_irrefl _), fun _ hj => absurd hj (Nat.not_lt_zero _), fun h => absurd h (Nat.lt_irrefl _), Nat.zero_le _⟩, fun _ => rfl⟩
  · injection hcs with hcs _
    unfold maxLen at hm
    have hle : len ≤ zs.length := by rw [hz]; split <;> omega
    have hXl : (zs.take len).length = len := by rw [List.length_take]; omega
    by_cases h0 : len = 0
    · subst h0
      exact ⟨some a, 0, 0, cap, 0, [], hcs, rfl, ⟨fun h => absurd h (Nat.lt_irrefl _), fun _ hj => absurd hj (Nat.not_lt_zero _), fun h => absurd h (Nat.lt_irrefl _), Nat.zero_le _⟩, fun h => by cases h⟩
    · obtain ⟨xb, xo, spot⟩ := a
      have hc0 := hcell 0 (by omega)
      have hspot : spot = none := by simpa [Addr.add] using World.cell?_spot hc0
      subst hspot
      have hadd : ∀ j, Addr.add ⟨xb, xo, none⟩ j = ⟨xb, xo + j, none⟩ := fun j => by unfold Addr.add; by_cases hj : j = 0 <;> simp [hj]
      have hlt : xb < W.heap.size := by
        rw [hadd] at hc0
        exact World.block_lt_of_cell? W _ hc0
      refine ⟨some ⟨xb, xo, none⟩, xb, xo, cap, len, zs.take len, hcs, hXl, ⟨fun _ => rfl, fun j hj => ?_, fun _ => hlt, by omega⟩, fun h => by cases h⟩
      have hjl : j < len := by omega
      have h1 := hcell j (by omega)
      rw [hadd] at h1
      rw [h1, List.getD_eq_getElem?_getD, List.getD_eq_getElem?_getD, List.getElem?_take_of_lt hjl]
theorem open_irV {H : Type} {enc : TypeId × Value → H} {W : World} {v : Value} {d : DataW H} {p : List MemPlace} (hs : ∃ a len cap, v = .slice a len cap) (h : DataW.Trod enc Try.prog W 0 (fun _ => true) true 30 v d p) :
    ∃ (ka : Option Addr) (b off cap n : Nat) (ks : List Int), v = .slice ka n cap ∧ ks.length = n ∧ IR W ka b off ks ∧ (ka = none → cap = 0) := by
  obtain ⟨a0, len, cap, rfl⟩ := hs
  obtain ⟨fuel, hf⟩ := h
  exact open_ir hf
end Go.Proofs.Ytbelmadbjiiodaa
namespace Go.Proofs.Ytbelmadbjiiodaa
open Go Go.ChangeShapes Go.WideShapes Go.ChangeAt Go.RowKit
/-- A slice that reads as these strings. -/
structure LR (w : World) (xa : Option Addr) (b off : Nat) (X : List (List UInt8)) : Prop where
  at_ : 0 < X.length → xa = some ⟨b, off, none⟩
  cell : ∀ j x, X[j]? = some x → w.cell? ⟨b, off + j, none⟩ = some (.string (enc x))
  lt : 0 < X.length → b < w.heap.size
  reach : ∀ x ∈ X, x.length ≤ 140737488351232
theorem LR.below {w w' : World} {xa : Option Addr} {b off : Nat} {X : List (List UInt8)} (h : LR w xa b off X) (hb : Below w.heap.size w w') : LR w' xa b off X :=
  ⟨h.at_, fun j x hj => (hb.cell (p := ⟨b, off + j, none⟩) (h.lt (by have := (List.getElem?_eq_some_iff.1 hj).1; omega))).trans (h.cell j x hj), fun hp => Nat.lt_of_lt_of_le (h.lt hp) hb.size, h.reach⟩
theorem weights_mem {H : Type} {P : Program} {e : TypeId} : ∀ {l : List (DataW H)} {d : DataW H} {n : Nat}, d ∈ l → n ∈ d.weights P e → n ∈ DataW.weightsAll P e l
  | [], _, _, h, _ => by cases h
  | d0 :: r, d, n, h, hn => by
    unfold DataW.weightsAll
    rcases List.mem_cons.1 h with rfl | h
    · exact List.mem_append_left _ hn
    · exact List.mem_append_right _ (weights_mem h hn)
theorem open_lr {H : Type} {enc' : TypeId × Value → H} {W : World} {sp : Nat → Bool} {held : Bool} {fuel : Nat} {v : Value} {y : DataW H × List MemPlace} (h : DataW.trod enc' Try.prog W 0 sp held fuel 50 [v] = some y) (hr : ∀ n ∈ y.1.weights Try.prog 50, n ≤ reachBytes) :
    ∃ (xa : Option Addr) (b off cap n : Nat) (X : List (List UInt8)), v = .slice xa n cap ∧ X.length = n ∧ n ≤ 9223372036854775807 ∧ LR W xa b off X := by
  rcases open_strings Try.underlying50 Try.underlying9 (by kernel_rfl) h with ⟨hcs, _⟩ | ⟨a, len, cap, ss, hcs, _, hl, hm, hz, hx, hcell, hws⟩
  · injection hcs with hcs _
    exact ⟨none, 0, 0, 0, 0, [], hcs, rfl, by omega, ⟨fun h => absurd h (Nat.lt_irrefl _), fun j x hj => by simp at hj, fun h => absurd h (Nat.lt_irrefl _), fun x hx => by cases hx⟩⟩
  · injection hcs with hcs _
    unfold maxLen at hm
    have hle : len ≤ ss.length := by rw [hz]; split <;> omega
    have hXl : ((ss.take len).map fun s => s.data.toList).length = len := by rw [List.length_map, List.length_take]; omega
    have hreach : ∀ x ∈ (ss.take len).map fun s => s.data.toList, x.length ≤ 140737488351232 := fun x hxm => by
      obtain ⟨s, hs, rfl⟩ := List.mem_map.1 hxm
      refine hr _ ?_
      rw [hx]
      show s.data.toList.length ∈ DataW.weights Try.prog 50 (.slice (strs (ss.take len)) (strs (ss.drop len)))
      unfold DataW.weights
      rw [Try.underlying50]
      refine List.mem_cons_of_mem _ (List.mem_append_left _ (weights_mem (d := .lit (.string s.data.toList)) ?_ ?_))
      · exact List.mem_map.2 ⟨s, hs, rfl⟩
      · unfold DataW.weights
        exact List.mem_singleton.2 rfl
    by_cases h0 : len = 0
    · subst h0
      exact ⟨some a, 0, 0, cap, 0, [], hcs, rfl, by omega, ⟨fun h => absurd h (Nat.lt_irrefl _), fun j x hj => by simp at hj, fun h => absurd h (Nat.lt_irrefl _), fun x hx => by cases hx⟩⟩
    · obtain ⟨xb, xo, spot⟩ := a
      have hc0 := hcell 0 (by omega)
      have hspot : spot = none := by simpa [Addr.add] using World.cell?_spot hc0
      subst hspot
      have hadd : ∀ j, Addr.add ⟨xb, xo, none⟩ j = ⟨xb, xo + j, none⟩ := fun j => by unfold Addr.add; by_cases hj : j = 0 <;> simp [hj]
      have hlt : xb < W.heap.size := by
        rw [hadd] at hc0
        exact World.block_lt_of_cell? W _ hc0
      refine ⟨some ⟨xb, xo, none⟩, xb, xo, cap, len, (ss.take len).map fun s => s.data.toList, hcs, hXl, by omega, ⟨fun _ => rfl, fun j x hj => ?_, fun _ => hlt, hreach⟩⟩
      rw [List.getElem?_map] at hj
      obtain ⟨s, hs, rfl⟩ := Option.map_eq_some_iff.1 hj
      have hjl : j < len := by have := (List.getElem?_eq_some_iff.1 hs).1; rw [List.length_take] at this; omega
      rw [List.getElem?_take_of_lt hjl] at hs
      have h1 := hcell j (by omega)
      rw [hadd] at h1
      rw [h1, List.getD_eq_getElem?_getD, hs]
      rfl
theorem open_lrV {H : Type} {enc' : TypeId × Value → H} {W : World} {v : Value} {d : DataW H} {p : List MemPlace} (hs : ∃ a len cap, v = .slice a len cap) (h : DataW.Trod enc' Try.prog W 0 (fun _ => true) true 50 v d p) (hr : ∀ n ∈ d.weights Try.prog 50, n ≤ reachBytes) :
    ∃ (xa : Option Addr) (b off cap n : Nat) (X : List (List UInt8)), v = .slice xa n cap ∧ X.length = n ∧ n ≤ 9223372036854775807 ∧ LR W xa b off X := by
  obtain ⟨a0, len, cap, rfl⟩ := hs
  obtain ⟨fuel, hf⟩ := h
  exact open_lr hf hr
/-- The first argument's weights are within the reach. -/
theorem reach_first {H : Type} {P : Program} {ts us : List TypeId} {ds gs : List (DataW H)} (h : (DataW.weightsEach P (ts ++ us) (ds ++ gs)).all (· ≤ reachBytes) = true) : ∀ t d n, ts[0]? = some t → ds[0]? = some d → n ∈ d.weights P t → n ≤ reachBytes := fun t d n ht hd hn => by
  match ts, ds, ht, hd with
  | t0 :: ts', d0 :: ds', ht, hd =>
    simp at ht hd
    subst ht
    subst hd
    have : n ∈ DataW.weightsEach P (t0 :: ts' ++ us) (d0 :: ds' ++ gs) := by
      simp only [List.cons_append, DataW.weightsEach]
      exact List.mem_append_left _ hn
    simpa using List.all_eq_true.1 h n this
end Go.Proofs.Ytbelmadbjiiodaa
