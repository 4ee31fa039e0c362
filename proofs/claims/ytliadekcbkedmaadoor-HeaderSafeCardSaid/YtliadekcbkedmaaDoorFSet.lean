/-
  A map[string]bool that a call makes: the set of its keys.
-/
import Derived.Test.YtliadekcbkedmaaDoorFPar
import Derived.Maps.Own
import Derived.Maps.OwnOps
import Derived.Maps.OwnSet
import Derived.Maps.Views
import Derived.Maps.Range
import Derived.Maps.RangeWalk
import Derived.Maps.OwnIn
namespace Go.Proofs.YtliadekcbkedmaaDoor
open Go Go.RowKit Go.Shelf
open Go.Maps (Keyed string_keyed)
theorem lawS : Keyed Tryd.prog 9 := string_keyed Tryd.underlying9
theorem zeroB (w : World) : (zeroValue 4).run Tryd.prog w = .ok (.bool false) w := by kernel_rfl
theorem keyOf_string_mk {x : List UInt8} (h : x.length ≤ 1000000) : keyOf Tryd.prog 9 (encStr x) = some (.string x) := by
  have h2 : x.length ≤ maxLen := by unfold maxLen; omega
  have h3 : (⟨x.toArray⟩ : ByteArray).size ≤ maxLen := by rw [mk_len]; exact h2
  unfold encStr
  simp [keyOf, Tryd.underlying9, mapKey, h3]
theorem plainElem_bool_inv {P : Program} {e : TypeId} (he : P.underlying e = some .bool) {v : Value} {z : DataW Unit × List MemPlace} (h : plainElem P e v = some z) : ∃ a, v = .bool a ∧ z = (.lit (.bool a), []) := by
  unfold plainElem at h
  rw [he] at h
  cases v <;> simp at h
  exact ⟨_, rfl, h.symm⟩
/-- Block b is a map of at most n entries, whose keys with true are those. -/
def SetM (b n : Nat) (N : List (List UInt8)) (w : World) : Prop := ∃ D : DataW Unit, w.ownsMap Tryd.prog 9 (plainElem Tryd.prog 4) b n D ∧
  ∀ x : List UInt8, D.atKey (.string x) (.lit (.bool false)) = .lit (.bool (N.contains x))
theorem SetM.start (w : World) : SetM w.heap.size 0 [] (w.alloc (.map #[] 0)) :=
  ⟨.map [], World.ownsMap_made _ _ _ _, fun _ => rfl⟩
theorem SetM.lt {b n : Nat} {N : List (List UInt8)} {w : World} (h : SetM b n N w) : b < w.heap.size := let ⟨_, h1, _⟩ := h; h1.lt
theorem SetM.block {b n : Nat} {N : List (List UInt8)} {w w' : World} (h : SetM b n N w) (hb : w'.heap[b]? = w.heap[b]?) : SetM b n N w' := by
  obtain ⟨D, ⟨es, clock, he, F, hs, hD⟩, h2⟩ := h
  exact ⟨D, ⟨es, clock, hb.trans he, F, hs, hD⟩, h2⟩
theorem SetM.below {b n : Nat} {N : List (List UInt8)} {w w' : World} {B : Nat} (h : SetM b n N w) (hB : Below B w w') (hlt : b < B) : SetM b n N w' := h.block (hB.block b hlt)
theorem SetM.as {b n : Nat} {N M : List (List UInt8)} {w : World} (h : SetM b n N w) (e : ∀ x, N.contains x = M.contains x) : SetM b n M w := by
  obtain ⟨D, h1, h2⟩ := h
  exact ⟨D, h1, fun x => by rw [h2 x, e x]⟩
theorem SetM.kind {b n : Nat} {N : List (List UInt8)} {w : World} (h : SetM b n N w) : ∃ es clock, w.heap[b]? = some (.map es clock) := by
  obtain ⟨D, ⟨es, clock, he, _⟩, _⟩ := h
  exact ⟨es, clock, he⟩
theorem run_makeMapS (w : World) : (Instr.makeMap 52 none).run Tryd.prog w = .ok (.map (some w.heap.size)) (w.alloc (.map #[] 0)) := by
  simp [Instr.makeMap, go_sem]
/-- 'm[k] = true'. -/
theorem wpList_set_put (w : World) {ops : Array Oper} {rest : List Oper} {o : Oper} {a : Act} {Q : Exit → Act → World → Prop}
    (hg : o.guard = none) (m x v : Operand) (hop : o.op = Op.mapUpdate 52 m x v) (b n : Nat) (N : List (List UInt8)) (k : List UInt8)
    (hm : a.eval m = .map (some b)) (h : SetM b n N w) (hn : n ≤ 1000000) (hx : a.eval x = encStr k) (hk : k.length ≤ 1000000) (hv : a.eval v = .bool true)
    (hK : ∀ w', SetM b (n + 1) (N ++ [k]) w' → w.grownBy w' (some b) → wpList Tryd.prog ops Q rest (a.put o.dst undef) w') :
    wpList Tryd.prog ops Q (o :: rest) a w := by
  obtain ⟨D, h1, h2⟩ := h
  refine wpList_mapUpdate_own w hg m x v _ hop 9 4 lawS Tryd.underlying52 _ b n D hm h1 (by unfold maxLen; omega) _ _ _ hx hv (keyOf_string_mk hk) _ [] (plainElem_bool Tryd.underlying4 true) ?_
  intro w' h1' hgr
  refine hK w' ⟨_, h1', fun y => ?_⟩ hgr
  by_cases e : y = k
  · subst e
    rw [Maps.atKey_put_same h1.isMap (show WideAt.IsKeyLit (Lit.string y) from trivial)]
    simp
  · rw [Maps.atKey_put_other (fun e2 => e (by injection e2)), h2 y]
    have : (N ++ [k]).contains y = N.contains y := by simp [e]
    rw [this]
/-- 'm[k]', whether or not it is asked for by a guard that says yes. -/
theorem wpList_set_look (w : World) {ops : Array Oper} {rest : List Oper} {o : Oper} {a : Act} {Q : Exit → Act → World → Prop}
    (hg : Region.wanted o (yielded ops a.tmps) = true) (m x : Operand) (hop : o.op = Op.lookup 52 m x false) (b n : Nat) (N : List (List UInt8)) (k : List UInt8)
    (hm : a.eval m = .map (some b)) (h : SetM b n N w) (hx : a.eval x = encStr k) (hk : k.length ≤ 1000000) {r : Bool} (hr : N.contains k = r)
    (hK : wpList Tryd.prog ops Q rest (a.put o.dst (.bool r)) w) :
    wpList Tryd.prog ops Q (o :: rest) a w := by
  obtain ⟨D, h1, h2⟩ := h
  refine BigFrame.wpList_want hg fun K' hK' => ?_
  obtain ⟨v, ps, hrun, hv⟩ := h1.lookup lawS Tryd.underlying52 (zeroB w) (plainElem_bool (H := Unit) Tryd.underlying4 false) (keyOf_string_mk hk)
  obtain ⟨c, rfl, hc⟩ := plainElem_bool_inv Tryd.underlying4 hv
  rw [h2 k, hr] at hc
  injection hc with hc _
  injection hc with hc
  injection hc with hc
  subst hc
  unfold Oper.wp
  simp [execOp, hop, hm, hx, hrun, Result.andThen]
  exact hK' _ _ hK
end Go.Proofs.YtliadekcbkedmaaDoor
