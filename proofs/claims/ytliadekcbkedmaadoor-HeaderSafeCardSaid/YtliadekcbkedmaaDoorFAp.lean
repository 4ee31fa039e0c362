/-
  Appends within a round: a string to a slice of strings, no strings to a slice of slices; a region that draws within a round, by a condition on the world.
-/
import Derived.Test.YtliadekcbkedmaaDoorFRg
import Derived.OwnWalkIn
import Derived.Deep.RegionHeld3
namespace Go.Proofs.YtliadekcbkedmaaDoor
open Go Go.RowKit Go.Shelf
attribute [local go_sem] Oper.semAt_some
theorem infoStr : (Tryd.prog.info? 9).map (fun i => (i.zero, i.size, i.bytes)) = some (some (.string ⟨#[]⟩), 1, 16) := by kernel_rfl
theorem run_app_s1 (w : World) {v : Value} {L : List (List UInt8)} (base : Nat) (ty : TypeId) (hown : SOwn w base v L) (ad : Addr) (c : Nat) (r : List UInt8) (hnews : w.cell? ad = some (encStr r)) (hbig : L.length ≤ 1000000) (hbase : base ≤ w.heap.size) :
    ∃ v' w', (Builtin.append_ #[41, 41] ty #[v, .slice (some ad) 1 c]).run Tryd.prog w = .ok v' w' ∧ SOwn w' base v' (L ++ [r]) ∧ w.grownBy w' v.ownBlock ∧ SF w v v' := by
  obtain ⟨i0, hi, hz0, hz1, hz2⟩ := info_parts infoStr
  obtain ⟨v', w', hr, h2, h3, h4⟩ := app_same w ty i0 _ 16 Tryd.underlying41 hi hz0 hz1 hz2 rfl (by omega) hown ad 1 c [encStr r] rfl (by intro j u hj; cases j with | zero => cases hj; exact hnews | succ j => simp at hj) (by intro u hu; simp at hu; subst hu; rfl) (by unfold maxLen; omega) (by omega) hbase
  refine ⟨v', w', hr, ?_, h3, h4⟩
  have e : (L ++ [r]).length = L.length + 1 := by simp
  have e2 : sv (L ++ [r]) = sv L ++ [encStr r] := by simp [sv]
  unfold SOwn
  rw [e, e2]
  exact h2
theorem run_app_r1 (w : World) {v : Value} {hs : List Value} (base : Nat) (ty : TypeId) (hown : w.ownsRow base 41 1 v hs.length hs) (ad : Addr) (c : Nat) (x : Value) (hx : x.oneCell' = true) (hnews : w.cell? ad = some x) (hbig : hs.length ≤ 1000000) (hbase : base ≤ w.heap.size) :
    ∃ v' w', (Builtin.append_ #[68, 68] ty #[v, .slice (some ad) 1 c]).run Tryd.prog w = .ok v' w' ∧ w'.ownsRow base 41 1 v' (hs ++ [x]).length (hs ++ [x]) ∧ w.grownBy w' v.ownBlock ∧ SF w v v' := by
  obtain ⟨i0, hi, hz0, hz1, hz2⟩ := info_parts infoSS
  obtain ⟨v', w', hr, h2, h3, h4⟩ := app_same w ty i0 _ 24 Tryd.underlying68 hi hz0 hz1 hz2 rfl (by omega) hown ad 1 c [x] rfl (by intro j u hj; cases j with | zero => cases hj; exact hnews | succ j => simp at hj) (by intro u hu; simp at hu; subst hu; exact hx) (by unfold maxLen; omega) (by omega) hbase
  refine ⟨v', w', hr, ?_, h3, h4⟩
  have e : (hs ++ [x]).length = hs.length + 1 := by simp
  rw [e]
  exact h2
section
variable {F : Fence} {n : Nat} {ops : Array Oper} {rest : List Oper} {o : Oper} {a : Act} {Q : Exit → Act → World → Prop}
theorem wpListIn_app_s1 (w : World) (hg : o.guard = none) (s x : Operand) (hop : o.op = Op.call { callee := Callee.builtin Builtin.append, args := #[s, x], argTypes := #[41, 41] })
    {v : Value} {L : List (List UInt8)} {base : Nat} {ad : Addr} {c : Nat} (r : List UInt8) (hown : SOwn w base v L) (hs : a.eval s = v) (hx : a.eval x = .slice (some ad) 1 c) (hnews : w.cell? ad = some (encStr r)) (hbig : L.length ≤ 1000000) (hbase : base ≤ w.heap.size)
    (hK : ∀ v' w', Hid (SOwn w' base v' (L ++ [r]) ∧ w.grownBy w' v.ownBlock ∧ SF w v v') → wpListIn F n Tryd.prog ops Q rest (a.put o.dst v') w') :
    wpListIn F n Tryd.prog ops Q (o :: rest) a w := by
  refine wpListIn_plain hg fun K hK' => ?_
  obtain ⟨v', w', hrun, r1, r2, r3⟩ := run_app_s1 w base o.type hown ad c r hnews hbig hbase
  unfold Oper.wpIn
  refine ⟨?_, ?_⟩
  · simp [Oper.about, hop, resolve, Target.leads, Sem.run_pure]
  · rw [Oper.semAt_plain F _ _ (by rw [hop]; intro c hc'; cases hc')]
    simp [execOp, hop, resolve, invoke, builtin, hs, hx, hrun, Result.andThen]
    exact hK' _ _ (hK v' w' ⟨r1, r2, r3⟩)
theorem wpListIn_app_r1 (w : World) (hg : o.guard = none) (s x : Operand) (hop : o.op = Op.call { callee := Callee.builtin Builtin.append, args := #[s, x], argTypes := #[68, 68] })
    {v : Value} {hs : List Value} {base : Nat} {ad : Addr} {c : Nat} (y : Value) (hy : y.oneCell' = true) (hown : w.ownsRow base 41 1 v hs.length hs) (hsv : a.eval s = v) (hx : a.eval x = .slice (some ad) 1 c) (hnews : w.cell? ad = some y) (hbig : hs.length ≤ 1000000) (hbase : base ≤ w.heap.size)
    (hK : ∀ v' w', Hid (w'.ownsRow base 41 1 v' (hs ++ [y]).length (hs ++ [y]) ∧ w.grownBy w' v.ownBlock ∧ SF w v v') → wpListIn F n Tryd.prog ops Q rest (a.put o.dst v') w') :
    wpListIn F n Tryd.prog ops Q (o :: rest) a w := by
  refine wpListIn_plain hg fun K hK' => ?_
  obtain ⟨v', w', hrun, r1, r2, r3⟩ := run_app_r1 w base o.type hown ad c y hy hnews hbig hbase
  unfold Oper.wpIn
  refine ⟨?_, ?_⟩
  · simp [Oper.about, hop, resolve, Target.leads, Sem.run_pure]
  · rw [Oper.semAt_plain F _ _ (by rw [hop]; intro c hc'; cases hc')]
    simp [execOp, hop, resolve, invoke, builtin, hsv, hx, hrun, Result.andThen]
    exact hK' _ _ (hK v' w' ⟨r1, r2, r3⟩)
end
theorem wpo_app_s1 {o : Oper} {a : Act} {K : Act → World → Prop} {Q : Exit → Act → World → Prop} {w : World} {E : Prop} {ops : Array Oper} (hgd : o.guard = none) (s x : Operand) (ho : o.op = .call { callee := .builtin .append, args := #[s, x], argTypes := #[41, 41] })
    {v : Value} {L : List (List UInt8)} {base : Nat} {ad : Addr} {c : Nat} (r : List UInt8) (hown : SOwn w base v L) (hs : a.eval s = v) (hx : a.eval x = .slice (some ad) 1 c) (hnews : w.cell? ad = some (encStr r)) (hbig : L.length ≤ 1000000) (hbase : base ≤ w.heap.size)
    (h : ∀ v' w', Hid (SOwn w' base v' (L ++ [r]) ∧ w.grownBy w' v.ownBlock ∧ SF w v v') → K (a.put o.dst v') w') : if Region.wanted o (yielded ops a.tmps) = true then Oper.wp Tryd.prog o a w K Q else E := by
  have hw : Region.wanted o (yielded ops a.tmps) = true := by simp [Region.wanted, hgd]
  rw [if_pos hw]
  obtain ⟨v', w', hr, r1, r2, r3⟩ := run_app_s1 w base o.type hown ad c r hnews hbig hbase
  unfold Oper.wp execOp
  simp only [ho, resolve, invoke, builtin, Sem.run_bind, Sem.run_pure, Result.andThen_ok, List.map_toArray, List.map_cons, List.map_nil, hs, hx, hr]
  exact h v' w' ⟨r1, r2, r3⟩
def NoRow : Result Next → Prop
  | .ok (.row _ _) _ => False
  | .ok (.round _ _ _ _ _) _ => False
  | _ => True
/-- An operation that neither defers nor walks a row; it may call a function. -/
structure TameC (P : Program) (o : Oper) : Prop where
  nd : ∀ c, o.op ≠ .defer c
  nc : ∀ (a : Act) (w : World), NoRow ((execOp a.eval o).run P w)
theorem Tame.c {P : Program} {o : Oper} (h : Tame P o) : TameC P o := ⟨h.nd, fun a w => by
  have := h.nc a.eval w
  cases hr : (execOp a.eval o).run P w with
  | ok x w2 => rw [hr] at this; cases x <;> first | trivial | exact this
  | halt x w2 => cases x <;> trivial⟩
theorem tame_call {P : Program} {o : Oper} (f : Nat) (A : Array Operand) (T : Array TypeId) (h : o.op = .call { callee := .value (.func f), args := A, argTypes := T }) (he : ∀ args w, (callFunc f args).run P w = .ok (.enter f args) w) : TameC P o :=
  ⟨fun c e => (by rw [h] at e; cases e), fun a w => (by
    unfold execOp
    simp only [h]
    simp [resolve, Deferred.ofValue, Act.eval, invoke, he, NoRow])⟩
theorem upon_in {l n : Nat} {P : Program} {o : Oper} {a : Act} {K : Act → World → Prop} {Q : Exit → Act → World → Prop} {r : Result Next} (hn : NoRow r) (h : o.upon P a K Q r) : o.uponIn (Fence.wide.inRound l) n P a K Q r := by
  cases r with
  | ok x w =>
    cases x
    case enter f args => exact ⟨fun h => (by cases h), CallsIn.inRound l (callsIn_wide.2 h)⟩
    all_goals first | exact h | exact hn.elim
  | halt x w => cases x <;> exact h
theorem opH_round {l n : Nat} {P : Program} {ops : Array Oper} {Q : Exit → Act → World → Prop} {i : Nat} {K : Act → World → Prop} {a : Act} {w : World} (hno : ¬ LetsOut Q) (ht : ∀ o ∈ ops.toList, TameC P o) (h : wpOp P ops Q i K a w) : wpOpIn (Fence.wide.inRound l) n P ops Q i K a w := by
  unfold wpOp at h
  unfold wpOpIn
  cases ho : ops[i]? with
  | none => rw [ho] at h; exact h
  | some o =>
    rw [ho] at h
    simp only at h ⊢
    have hto := ht o (by
      have := Array.mem_of_getElem? ho
      simpa using this)
    split
    · rename_i hw
      rw [if_pos hw] at h
      rcases h with h | ⟨_, h⟩
      · unfold Oper.wpIn
        refine ⟨fun _ _ => trivial, ?_⟩
        rw [Oper.semAt_plain _ _ _ hto.nd]
        exact upon_in (hto.nc _ _) h
      · exact absurd h hno
    · rename_i hw
      rw [if_neg hw] at h
      exact ⟨fun _ _ => trivial, h⟩
theorem any_round {l n : Nat} {P : Program} {md : Region.Mode} {ops : Array Oper} {Q : Exit → Act → World → Prop} (hno : ¬ LetsOut Q) (ht : ∀ o ∈ ops.toList, TameC P o) : ∀ (fuel : Nat) (listed : Array Bool) (a : Act) (w : World), wpAny P md ops Q fuel listed a w → wpAnyIn (Fence.wide.inRound l) n P md ops Q fuel listed a w
  | 0, _, _, _, h => h
  | fuel + 1, _, _, _, h => ⟨h.1, fun i hi => opH_round hno ht (wpOp_mono (fun a w h => any_round hno ht fuel _ a w h) (h.2 i hi))⟩
/-- The region within a round, by a condition on the world. -/
theorem region_held_round {l n : Nat} {P : Program} {id : Nat} {ops : Array Oper} {Q : Exit → Act → World → Prop} {a : Act} {w : World} (S : World → Prop) (hm : P.follows .mixedOrders = true) (hno : ¬ LetsOut Q) (ht : ∀ o ∈ ops.toList, TameC P o) (hS : S w.drew)
    (h : S w.drew → wpAnyH P .any ops Q S ops.size (Array.replicate ops.size false) a w.drew) : (Code.region id ops true).wpIn (Fence.wide.inRound l) n P Q a w :=
  wpIn_region_any hm (any_round hno ht _ _ _ _ (wpAny_of_held _ _ _ _ (h hS)))
/-- Q, but no way out by a panic or for want of room. -/
def Calm (Q : Exit → Act → World → Prop) : Exit → Act → World → Prop
  | .panic _, _, _ => False
  | .outgrown, _, _ => False
  | e, a, w => Q e a w
theorem Calm.imp {Q : Exit → Act → World → Prop} : ∀ (e : Exit) (a : Act) (w : World), Calm Q e a w → Q e a w := fun e a w h => by
  cases e <;> first | exact h | exact (h : False).elim
theorem Calm.normal {Q : Exit → Act → World → Prop} {a : Act} {w : World} (h : Q .normal a w) : Calm Q .normal a w := h
theorem Calm.no {Q : Exit → Act → World → Prop} : ¬ LetsOut (Calm Q) := fun ⟨_, _, h⟩ => h
theorem region_calm_round {l n : Nat} {P : Program} {id : Nat} {ops : Array Oper} {Q : Exit → Act → World → Prop} {a : Act} {w : World} (S : World → Prop) (hm : P.follows .mixedOrders = true) (ht : ∀ o ∈ ops.toList, TameC P o) (hS : S w.drew)
    (h : S w.drew → wpAnyH P .any ops (Calm Q) S ops.size (Array.replicate ops.size false) a w.drew) : (Code.region id ops true).wpIn (Fence.wide.inRound l) n P Q a w :=
  wpIn_mono (region_held_round S hm Calm.no ht hS h) Calm.imp
theorem takeH {P : Program} {ops : Array Oper} {Q : Exit → Act → World → Prop} {md : Region.Mode} {S : World → Prop} (i d : Nat) {oi : Oper} {v : Value} {fuel : Nat} {listed : Array Bool} {tm : Array Value} {df : List Deferred} {w : World} (hi : ops[i]? = some oi) (hd : oi.dst = some d)
    (hs : Region.noSelect ops = true) (hf : Region.free md ops listed i = true) (hr : (Region.ready md ops listed).contains i = true)
    (hy : YieldsIf P ops S oi v { tmps := tm, defers := df }) (hS : S w)
    (h : wpAnyH P md ops (Calm Q) S fuel (listed.setIfInBounds i true) { tmps := tm.setIfInBounds d v, defers := df } w) : wpAnyH P md ops (Calm Q) S (fuel + 1) listed { tmps := tm, defers := df } w :=
  wpAnyH_take hi hs hf hr (fun _ _ _ h => h) hy hS (by
    unfold Act.put
    rw [hd]
    exact h)
theorem stepH {P : Program} {ops : Array Oper} {Q : Exit → Act → World → Prop} {md : Region.Mode} {S : World → Prop} (i : Nat) {o : Oper} {fuel : Nat} {listed : Array Bool} {a : Act} {w : World} (hi : ops[i]? = some o) (hr : Region.ready md ops listed = [i])
    (h : ∀ K' : Act → World → Prop, Shut (∀ a w, S w → (S w → wpAnyH P md ops Q S fuel (listed.setIfInBounds i true) a w) → K' a w) → if Region.wanted o (yielded ops a.tmps) = true then Oper.wp P o a w K' Q else K' (a.put o.dst undef) w) : wpAnyH P md ops Q S (fuel + 1) listed a w :=
  wpAnyH_ready hr (by simp) (AllReadyH.cons hi h AllReadyH.nil)
theorem cell_alloc {W : World} {a : Addr} {v : Value} (o : Obj) (h : W.cell? a = some v) : (W.alloc o).cell? a = some v := (World.cell?_alloc_some W a o (by rw [h]; rfl)).trans h
theorem ownPostG_calm {α : Type} {B : Nat} {Kp : World → World → Prop} {I : List α → World → Prop} {Ix : Code → List α → World → Prop} {xs : List α} {W : World} : ¬ LetsOut (ownPostG B Kp I Ix xs W) := fun ⟨_, _, h⟩ => h
end Go.Proofs.YtliadekcbkedmaaDoor
