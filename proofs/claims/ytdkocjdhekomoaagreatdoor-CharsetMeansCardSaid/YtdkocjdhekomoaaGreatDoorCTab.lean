/-
  Maps of bytes to bytes that a call makes: what they hold, as partial functions; the laws at look-ups and stores.
-/
import Derived.Test.YtdkocjdhekomoaaGreatDoorSqueeze
import Derived.Test.YtdkocjdhekomoaaGreatDoorCPl
import Derived.Test.YtdkocjdhekomoaaGreatDoorMap
import Derived.Maps.Own
import Derived.Maps.OwnOps
import Derived.Maps.OwnSet
import Derived.Maps.Views
import Derived.Maps.Range
import Derived.Maps.RangeWalk
import Derived.Maps.OwnIn
namespace Go.Proofs.YtdkocjdhekomoaaGreatDoor
open Go Go.RowKit Go.Shelf
open Go.Maps (Keyed int_keyed keyOf_int_mk)

theorem law8 : Keyed Tryz.prog 5 := int_keyed Tryz.underlying5
theorem zero8 (w : World) : (zeroValue 5).run Tryz.prog w = .ok (.int .u8 0) w := by kernel_rfl
theorem wf8 (c : UInt8) : (Lit.int .u8 (c.toNat : Int)).wf = true := by
  have := c.toNat_lt
  have e1 : IntKind.u8.min = 0 := by decide
  have e2 : IntKind.u8.max = 255 := by decide
  simp [Lit.wf, e1, e2]
  omega
theorem makeHint (k : Int) (w : World) : (Instr.makeMap 89 (some (.int .i64 k))).run Tryz.prog w = .ok (.map (some w.heap.size)) (w.alloc (.map #[] 0)) := by
  simp [Instr.makeMap, go_sem]

/-- Block b is a map of at most n entries that holds the partial function f. -/
def Tab (b n : Nat) (f : UInt8 → Option UInt8) (w : World) : Prop := ∃ D : DataW Unit, w.ownsMap Tryz.prog 5 (plainElem Tryz.prog 5) b n D ∧
  ∀ c : UInt8, Maps.has D (.int .u8 c.toNat) = (f c).isSome ∧ D.atKey (.int .u8 c.toNat) (.lit (.int .u8 0)) = .lit (.int .u8 ((f c).getD 0).toNat)
theorem Tab.start (w : World) : Tab w.heap.size 0 (fun _ => none) (w.alloc (.map #[] 0)) :=
  ⟨.map [], World.ownsMap_made _ _ _ _, fun _ => ⟨rfl, rfl⟩⟩
theorem Tab.grown {b n : Nat} {f : UInt8 → Option UInt8} {w w' : World} {row : Option Nat} (h : Tab b n f w) (hg : w.grownBy w' row) (hne : some b ≠ row) : Tab b n f w' :=
  let ⟨D, h1, h2⟩ := h; ⟨D, h1.kept hg hne, h2⟩
theorem Tab.lt {b n : Nat} {f : UInt8 → Option UInt8} {w : World} (h : Tab b n f w) : b < w.heap.size := let ⟨_, h1, _⟩ := h; h1.lt
theorem Tab.block {b n : Nat} {f : UInt8 → Option UInt8} {w w' : World} (h : Tab b n f w) (hb : w'.heap[b]? = w.heap[b]?) : Tab b n f w' := by
  obtain ⟨D, ⟨es, clock, he, F, hs, hD⟩, h2⟩ := h
  exact ⟨D, ⟨es, clock, hb.trans he, F, hs, hD⟩, h2⟩
theorem Tab.below {b n : Nat} {f : UInt8 → Option UInt8} {w w' : World} {B : Nat} (h : Tab b n f w) (hB : Below B w w') (hlt : b < B) : Tab b n f w' := h.block (hB.block b hlt)
theorem Tab.drews {b n : Nat} {f : UInt8 → Option UInt8} {w : World} (h : Tab b n f w) (k : Nat) : Tab b n f (w.drewN k) := h.block rfl
theorem key_ne {c d : UInt8} (h : c ≠ d) : Lit.int .u8 (c.toNat : Int) ≠ Lit.int .u8 (d.toNat : Int) := by
  intro e
  injection e with _ e2
  exact h (UInt8.toNat_inj.1 (by omega))
theorem keyLit (c : UInt8) : WideAt.IsKeyLit (Lit.int .u8 (c.toNat : Int)) := by trivial
theorem Tab.put {b n : Nat} {f : UInt8 → Option UInt8} {w' : World} {D : DataW Unit} {c v : UInt8} (hm : Maps.IsMap D)
    (h2 : ∀ c : UInt8, Maps.has D (.int .u8 c.toNat) = (f c).isSome ∧ D.atKey (.int .u8 c.toNat) (.lit (.int .u8 0)) = .lit (.int .u8 ((f c).getD 0).toNat))
    (h1 : w'.ownsMap Tryz.prog 5 (plainElem Tryz.prog 5) b (n + 1) (D.put (.int .u8 c.toNat) (.lit (.int .u8 v.toNat)))) : Tab b (n + 1) (Cd.upd f c v) w' := by
  refine ⟨_, h1, fun x => ?_⟩
  unfold Cd.upd
  by_cases e : x = c
  · subst e
    rw [if_pos rfl]
    exact ⟨Maps.has_put_same hm (keyLit _) _, Maps.atKey_put_same hm (keyLit _) _ _⟩
  · rw [if_neg e]
    exact ⟨(Maps.has_put_other (key_ne e) _).trans (h2 x).1, (Maps.atKey_put_other (key_ne e) _ _).trans (h2 x).2⟩

/-- 'm[k] = v'. -/
theorem wpList_tab_put (w : World) {ops : Array Oper} {rest : List Oper} {o : Oper} {a : Act} {Q : Exit → Act → World → Prop}
    (hg : o.guard = none) (m x v : Operand) (hop : o.op = Op.mapUpdate 89 m x v) (b n : Nat) (f : UInt8 → Option UInt8) (c d : UInt8)
    (hm : a.eval m = .map (some b)) (h : Tab b n f w) (hn : n ≤ 100000) (ki vi : Int) (hx : a.eval x = .int .u8 ki) (hki : ki = c.toNat) (hv : a.eval v = .int .u8 vi) (hvi : vi = d.toNat)
    (hK : ∀ w', Tab b (n + 1) (Cd.upd f c d) w' → w.grownBy w' (some b) → wpList Tryz.prog ops Q rest (a.put o.dst undef) w') :
    wpList Tryz.prog ops Q (o :: rest) a w := by
  obtain ⟨D, h1, h2⟩ := h
  subst hki hvi
  refine wpList_mapUpdate_own w hg m x v _ hop 5 5 law8 Tryz.underlying89 _ b n D hm h1 (by unfold maxLen; omega) _ _ _ hx hv (keyOf_int_mk Tryz.underlying5 (wf8 c)) _ [] (plainElem_int Tryz.underlying5 (wf8 d)) ?_
  intro w' h1' hgr
  exact hK w' (Tab.put h1.isMap h2 h1') hgr

/-- 'v, ok := m[k]'. -/
theorem wpList_tab_ok (w : World) {ops : Array Oper} {rest : List Oper} {o : Oper} {a : Act} {Q : Exit → Act → World → Prop}
    (hg : o.guard = none) (m x : Operand) (hop : o.op = Op.lookup 89 m x true) (b n : Nat) (f : UInt8 → Option UInt8) (c : UInt8)
    (hm : a.eval m = .map (some b)) (h : Tab b n f w) (ki : Int) (hx : a.eval x = .int .u8 ki) (hki : ki = c.toNat)
    (hK : wpList Tryz.prog ops Q rest (a.put o.dst (.tuple #[.int .u8 ((f c).getD 0).toNat, .bool (f c).isSome])) w) :
    wpList Tryz.prog ops Q (o :: rest) a w := by
  obtain ⟨D, h1, h2⟩ := h
  subst hki
  refine wpList_lookup_own_ok_int w hg m x _ hop 5 5 .u8 law8 Tryz.underlying89 Tryz.underlying5 (zero8 _) b n D hm h1 _ _ hx (keyOf_int_mk Tryz.underlying5 (wf8 c)) ?_
  intro v hat _
  rw [(h2 c).1]
  rw [(h2 c).2] at hat
  injection hat with hat
  injection hat with _ hat
  subst hat
  exact hK

/-- 'm[k]'. -/
theorem wpList_tab (w : World) {ops : Array Oper} {rest : List Oper} {o : Oper} {a : Act} {Q : Exit → Act → World → Prop}
    (hg : o.guard = none) (m x : Operand) (hop : o.op = Op.lookup 89 m x false) (b n : Nat) (f : UInt8 → Option UInt8) (c : UInt8)
    (hm : a.eval m = .map (some b)) (h : Tab b n f w) (ki : Int) (hx : a.eval x = .int .u8 ki) (hki : ki = c.toNat)
    (hK : wpList Tryz.prog ops Q rest (a.put o.dst (.int .u8 ((f c).getD 0).toNat)) w) :
    wpList Tryz.prog ops Q (o :: rest) a w := by
  obtain ⟨D, h1, h2⟩ := h
  subst hki
  refine wpList_lookup_own_int w hg m x _ hop 5 5 .u8 law8 Tryz.underlying89 Tryz.underlying5 (zero8 _) b n D hm h1 _ _ hx (keyOf_int_mk Tryz.underlying5 (wf8 c)) ?_
  intro v hat _
  rw [(h2 c).2] at hat
  injection hat with hat
  injection hat with _ hat
  subst hat
  exact hK
end Go.Proofs.YtdkocjdhekomoaaGreatDoor
