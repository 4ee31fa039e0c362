/-
  A region that draws its order within a round of a range over a function: walked as outside of rounds, if it calls nothing.
-/
import Derived.Test.YtliadekcbkedmaaDoorFPm
import Derived.OrdersIn
namespace Go.Proofs.YtliadekcbkedmaaDoor
open Go Go.RowKit Go.Shelf
def NoCall : Result Next → Prop
  | .ok (.enter _ _) _ => False
  | .ok (.row _ _) _ => False
  | .ok (.round _ _ _ _ _) _ => False
  | _ => True
/-- An operation that neither defers nor calls. -/
structure Tame (P : Program) (o : Oper) : Prop where
  nd : ∀ c, o.op ≠ .defer c
  nc : ∀ (ρ : Operand → Value) (w : World), NoCall ((execOp ρ o).run P w)
theorem noCall_value {α : Type} {P : Program} (s : Sem α) (f : α → Value) (w : World) : NoCall ((do pure (Next.value (f (← s))) : Sem Next).run P w) := by
  simp only [Sem.run_bind, Sem.run_pure]
  cases s.run P w with
  | ok a w' => simp [Result.andThen, NoCall]
  | halt h w' => simp [Result.andThen, NoCall]
theorem noCall_unit {P : Program} (s : Sem Unit) (w : World) : NoCall ((do s; pure Next.skip : Sem Next).run P w) := by
  simp only [Sem.run_bind, Sem.run_pure]
  cases s.run P w with
  | ok a w' => simp [Result.andThen, NoCall]
  | halt h w' => simp [Result.andThen, NoCall]
theorem tame_move {P : Program} {o : Oper} (x : Operand) (h : o.op = .move x) : Tame P o :=
  ⟨fun c e => (by rw [h] at e; cases e), fun ρ w => (by unfold execOp; simp only [h]; simp [Sem.run_pure, NoCall])⟩
theorem tame_load {P : Program} {o : Oper} (t : TypeId) (x : Operand) (h : o.op = .load t x) : Tame P o :=
  ⟨fun c e => (by rw [h] at e; cases e), fun ρ w => (by unfold execOp; simp only [h]; exact noCall_value _ id w)⟩
theorem tame_index {P : Program} {o : Oper} (t : TypeId) (x y : Operand) (h : o.op = .indexAddr t x y) : Tame P o :=
  ⟨fun c e => (by rw [h] at e; cases e), fun ρ w => (by unfold execOp; simp only [h]; exact noCall_value _ id w)⟩
theorem tame_store {P : Program} {o : Oper} (t : TypeId) (x y : Operand) (h : o.op = .store t x y) : Tame P o :=
  ⟨fun c e => (by rw [h] at e; cases e), fun ρ w => (by unfold execOp; simp only [h]; exact noCall_unit _ w)⟩
theorem tame_build {P : Program} {o : Oper} (t : TypeId) (n : Nat) (p : Array (Nat × Operand)) (h : o.op = .buildSlice t n p) : Tame P o :=
  ⟨fun c e => (by rw [h] at e; cases e), fun ρ w => (by unfold execOp; simp only [h]; exact noCall_value _ id w)⟩
theorem tame_append {P : Program} {o : Oper} (s x : Operand) (t : TypeId) (h : o.op = .call { callee := .builtin .append, args := #[s, x], argTypes := #[t, t] }) : Tame P o :=
  ⟨fun c e => (by rw [h] at e; cases e), fun ρ w => (by
    unfold execOp
    simp only [h, resolve, invoke, Sem.run_bind, Sem.run_pure, Result.andThen_ok]
    exact noCall_value _ id w)⟩
theorem upon_round {F G : Fence} {n : Nat} {P : Program} {o : Oper} {a : Act} {K : Act → World → Prop} {Q : Exit → Act → World → Prop} {r : Result Next} (hn : NoCall r) (h : o.uponIn F n P a K Q r) : o.uponIn G n P a K Q r := by
  cases r with
  | ok x w => cases x <;> first | exact h | exact hn.elim
  | halt x w => cases x <;> exact h
theorem opIn_round {l n : Nat} {P : Program} {ops : Array Oper} {Q : Exit → Act → World → Prop} {i : Nat} {K : Act → World → Prop} {a : Act} {w : World} (ht : ∀ o ∈ ops.toList, Tame P o) (h : wpOpIn Fence.wide n P ops Q i K a w) : wpOpIn (Fence.wide.inRound l) n P ops Q i K a w := by
  unfold wpOpIn at h ⊢
  cases ho : ops[i]? with
  | none => rw [ho] at h; exact h
  | some o =>
    rw [ho] at h
    simp only at h ⊢
    have hto := ht o (by
      have := Array.mem_of_getElem? ho
      simpa using this)
    split
    · rename_i hw
      rw [if_pos hw] at h
      unfold Oper.wpIn at h ⊢
      refine ⟨fun _ _ => trivial, ?_⟩
      have h2 := h.2
      rw [Oper.semAt_eq _ _ _ hto.nd] at h2 ⊢
      exact upon_round (hto.nc _ _) h2
    · rename_i hw
      rw [if_neg hw] at h
      exact ⟨fun _ _ => trivial, h.2⟩
theorem anyIn_round {l n : Nat} {P : Program} {md : Region.Mode} {ops : Array Oper} {Q : Exit → Act → World → Prop} (ht : ∀ o ∈ ops.toList, Tame P o) : ∀ (fuel : Nat) (listed : Array Bool) (a : Act) (w : World), wpAnyIn Fence.wide n P md ops Q fuel listed a w → wpAnyIn (Fence.wide.inRound l) n P md ops Q fuel listed a w
  | 0, _, _, _, h => h
  | fuel + 1, _, _, _, h => ⟨h.1, fun i hi => opIn_round ht (wpOpIn_mono (fun a w h => anyIn_round ht fuel _ a w h) (h.2 i hi))⟩
/-- The region within a round. -/
theorem region_round {l n : Nat} {P : Program} {id : Nat} {ops : Array Oper} {Q : Exit → Act → World → Prop} {a : Act} {w : World} (hm : P.follows .mixedOrders = true) (ht : ∀ o ∈ ops.toList, Tame P o)
    (h : wpAnyIn Fence.wide n P .any ops Q ops.size (Array.replicate ops.size false) a w.drew) : (Code.region id ops true).wpIn (Fence.wide.inRound l) n P Q a w :=
  wpIn_region_any hm (anyIn_round ht _ _ _ _ h)
end Go.Proofs.YtliadekcbkedmaaDoor
