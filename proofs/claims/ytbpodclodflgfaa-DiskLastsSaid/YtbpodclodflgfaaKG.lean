/-
  DeleteFunc at the disk's pieces; forget.
-/
import Derived.Test.YtbpodclodflgfaaKF
namespace Go.Proofs.Ytbpodclodflgfaa
open Go Go.RowKit
theorem pv_set (p : Dk.Piece) : ∀ (L : List Dk.Piece) (i : Nat), i < L.length → (((pv L).set (i * 3) (.int .i64 (p.f : Int))).set (i * 3 + 1) (.int .i64 (p.at_ : Int))).set (i * 3 + 2) (.string (enc p.s)) = pv (L.set i p)
  | [], i, h => by simp at h
  | x :: L, 0, _ => by simp [pv_cons, pc]
  | x :: L, i + 1, h => by
    have ih := pv_set p L i (by simpa using h)
    have e : ∀ j, (i + 1) * 3 + j = (i * 3 + j) + 3 := fun j => by omega
    rw [List.set_cons_succ, pv_cons, pv_cons, ← ih]
    have e0 : (i + 1) * 3 = i * 3 + 3 := by omega
    rw [e 1, e 2, e0]
    simp [pc]
theorem set_plain {w : World} {g : Nat} {cur : Array Value} {t : TypeId} (h : w.heap[g]? = some (.cells cur t (0, 0))) (i : Nat) (v : Value) : (w.setCell ⟨g, i, none⟩ v).heap[g]? = some (.cells (cur.toList.set i v).toArray t (0, 0)) :=
  Blk.set (L := cur.toList) (by unfold Blk; simpa using h) i v
theorem own_set3 {w : World} {base gq cap : Nat} {L : List Dk.Piece} (h : w.ownsRow base 63 3 (.slice (some ⟨gq, 0, none⟩) L.length cap) L.length (pv L)) (i : Nat) (hi : i < L.length) (p : Dk.Piece) :
    (((w.setCell ⟨gq, i * 3, none⟩ (.int .i64 (p.f : Int))).setCell ⟨gq, i * 3 + 1, none⟩ (.int .i64 (p.at_ : Int))).setCell ⟨gq, i * 3 + 2, none⟩ (.string (enc p.s))).ownsRow base 63 3 (.slice (some ⟨gq, 0, none⟩) L.length cap) (L.set i p).length (pv (L.set i p)) := by
  rcases h.2 with ⟨h0, _⟩ | ⟨g', cap', cur, hv, hbg, hg, hnc, hcm, hcs, htake⟩
  · cases h0
  injection hv with hv1 _ hv2
  injection hv1 with hv1
  injection hv1 with hv1
  subst hv1
  subst hv2
  have h3 := set_plain (set_plain (set_plain hg (i * 3) (.int .i64 (p.f : Int))) (i * 3 + 1) (.int .i64 (p.at_ : Int))) (i * 3 + 2) (.string (enc p.s))
  rw [List.length_set]
  refine ⟨by rw [pv_length, List.length_set], .inr ⟨gq, cap, _, rfl, hbg, h3, hnc, hcm, by simpa using hcs, ?_⟩⟩
  rw [← pv_set p L i hi, ← htake]
  simp only [List.take_set]
theorem grown_set {w a : World} {g : Nat} (h : w.grownBy a (some g)) (i : Nat) (v : Value) : w.grownBy (a.setCell ⟨g, i, none⟩ v) (some g) :=
  ⟨h.os, h.tape, h.output, by rw [set_size]; exact h.size, fun k hk hn => (set_other a g i k v (fun e => hn (by rw [e]))).trans (h.block k hk hn)⟩
theorem grown_below {w a b : World} {r : Option Nat} (h : w.grownBy a r) (k : Below a.heap.size a b) : w.grownBy b r :=
  ⟨k.os.trans h.os, k.tape.trans h.tape, k.output.trans h.output, Nat.le_trans h.size k.size, fun i hi hn => (k.block i (Nat.lt_of_lt_of_le hi h.size)).trans (h.block i hi hn)⟩
theorem zeros_pv (n : Nat) : (Builtin.zeroCells (Value.agg #[.int .i64 0, .int .i64 0, .string ⟨#[]⟩]).cells n).toList = pv (List.replicate n ⟨0, 0, []⟩) := by
  have hz : (Value.agg #[.int .i64 0, .int .i64 0, .string ⟨#[]⟩]).cells = #[.int .i64 0, .int .i64 0, .string ⟨#[]⟩] := rfl
  rw [hz]
  refine List.ext_getElem? fun i => ?_
  by_cases h : i < n * 3
  · have h1 : (List.replicate n (⟨0, 0, []⟩ : Dk.Piece))[i / 3]? = some ⟨0, 0, []⟩ := by rw [List.getElem?_replicate, if_pos (by omega)]
    have h2 : (pc ⟨0, 0, []⟩)[i % 3]? = some ((#[.int .i64 0, .int .i64 0, .string ⟨#[]⟩] : Array Value)[i % 3]!) := by
      have : i % 3 = 0 ∨ i % 3 = 1 ∨ i % 3 = 2 := by omega
      rcases this with e | e | e <;> rw [e] <;> rfl
    have h3 := pv_at _ _ _ _ _ h1 h2
    rw [show i / 3 * 3 + i % 3 = i by omega] at h3
    rw [h3]
    simp [Builtin.zeroCells, h]
  · rw [List.getElem?_eq_none (by simp [Builtin.zeroCells]; omega), List.getElem?_eq_none (by rw [pv_length, List.length_replicate]; omega)]
theorem clear_run (w : World) {base gq cap : Nat} {L : List Dk.Piece} (ty : TypeId) (h : w.ownsRow base 63 3 (.slice (some ⟨gq, 0, none⟩) L.length cap) L.length (pv L)) (i m c : Nat) (dp : Option Addr) (hi : i ≤ L.length) (hm : m = L.length - i) (hdp : 0 < m → dp = some ⟨gq, i * 3, none⟩) :
    ∃ w', (Builtin.clear_ #[54] ty #[.slice dp m c]).run Try.prog w = .ok (.tuple #[]) w' ∧ w'.ownsRow base 63 3 (.slice (some ⟨gq, 0, none⟩) i cap) (L.take i).length (pv (L.take i)) ∧ w.grownBy w' (some gq) ∧ w'.heap.size = w.heap.size := by
  obtain ⟨i0, hi0, hz, hsize, hby⟩ := info_parts infoP
  rcases h.2 with ⟨h0, _⟩ | ⟨g', cap', cur, hv, hbg, hg, hnc, hcm, hcs, htake⟩
  · cases h0
  injection hv with hv1 _ hv2
  injection hv1 with hv1
  injection hv1 with hv1
  subst hv1
  subst hv2
  have hlt : (L.take i).length = i := by rw [List.length_take]; omega
  by_cases h0 : m = 0
  · refine ⟨w, ?_, ⟨by rw [pv_length], .inr ⟨gq, cap, cur, by rw [hlt], hbg, hg, by omega, hcm, hcs, ?_⟩⟩, grown_refl _ _, rfl⟩
    · subst h0
      cases dp <;> simp [Builtin.clear_, run_underlying (P := Try.prog) Try.underlying54]
    · have hL : L.take i = L := List.take_of_length_le (by omega)
      rw [hL, htake]
  · obtain rfl := hdp (by omega)
    obtain ⟨m', rfl⟩ : ∃ m', m = m' + 1 := ⟨m - 1, by omega⟩
    have hzl : (pv (List.replicate (m' + 1) ⟨0, 0, []⟩)).length = (m' + 1) * 3 := by rw [pv_length, List.length_replicate]
    have hst := run_storeCells_at Try.prog gq (i * 3) 63 (pv (List.replicate (m' + 1) ⟨0, 0, []⟩)) 0 cur w hg (by rw [hzl, hcs]; omega) (pv_cells _)
    rw [hzl] at hst
    simp only [Nat.add_zero] at hst
    obtain ⟨C, hC⟩ : ∃ C, cur.toList.take (i * 3) ++ pv (List.replicate (m' + 1) ⟨0, 0, []⟩) ++ cur.toList.drop (i * 3 + (m' + 1) * 3) = C := ⟨_, rfl⟩
    rw [hC] at hst
    refine ⟨w.setRow gq C.toArray, ?_, ⟨by rw [pv_length], .inr ⟨gq, cap, C.toArray, by rw [hlt], hbg, setRow_heap w gq cur C.toArray 63 _ hg, by omega, hcm, ?_, ?_⟩⟩, ⟨rfl, rfl, rfl, by simp, fun k _ hk => setRow_other w gq k _ (fun e => hk (by rw [e]))⟩, by simp⟩
    · simp [Builtin.clear_, run_underlying (P := Try.prog) Try.underlying54, zeroValue, typeInfo, hi0, hz]
      have := zeros_pv (m' + 1)
      rw [this, hst]
      simp [Result.andThen]
    · rw [← hC]
      simp only [List.size_toArray, List.length_append, List.length_take, List.length_drop, Array.length_toList, hzl, hcs]
      omega
    · rw [← hC, hlt, List.append_assoc, List.take_append_of_le_length (by rw [List.length_take, Array.length_toList, hcs]; omega), List.take_take, Nat.min_self, ← pv_take, ← htake, List.take_take]
      congr 1
      omega
theorem wpList_clear {w : World} {ops : Array Oper} {o : Oper} {a : Act} {Q : Exit → Act → World → Prop} {rest : List Oper} (hgd : o.guard = none) (x : Operand)
    (ho : o.op = .call { callee := .builtin .clear, args := #[x], argTypes := #[54] }) {base gq cap : Nat} {L : List Dk.Piece}
    (h : w.ownsRow base 63 3 (.slice (some ⟨gq, 0, none⟩) L.length cap) L.length (pv L)) (i m c : Nat) (dp : Option Addr) (hx : a.eval x = .slice dp m c) (hi : i ≤ L.length) (hm : m = L.length - i) (hdp : 0 < m → dp = some ⟨gq, i * 3, none⟩)
    (hk : ∀ w', Hid (w'.ownsRow base 63 3 (.slice (some ⟨gq, 0, none⟩) i cap) (L.take i).length (pv (L.take i))) → Hid (w.grownBy w' (some gq)) → wpList Try.prog ops Q rest (a.put o.dst (.tuple #[])) w') : wpList Try.prog ops Q (o :: rest) a w := by
  refine wpList_plain hgd fun K hK => ?_
  obtain ⟨w', hr, h2, h3, h4⟩ := clear_run w o.type h i m c dp hi hm hdp
  unfold Oper.wp execOp
  simp only [ho, resolve, invoke, builtin, Sem.run_bind, Sem.run_pure, Result.andThen_ok, List.map_toArray, List.map_cons, List.map_nil, hx, hr]
  exact hK _ _ (hk w' h2 h3)
namespace Dk
theorem without_snoc (q : List Piece) (f j : Nat) (p : Piece) (hp : q[j]? = some p) : without (q.take (j + 1)) f = if p.f = f then without (q.take j) f else without (q.take j) f ++ [p] := by
  rw [List.take_add_one, hp]
  unfold without
  rw [List.filter_append]
  by_cases h : p.f = f
  · simp [h]
  · simp [h]
theorem without_none (q : List Piece) (f : Nat) (h : ∀ p ∈ q, p.f ≠ f) : without q f = q := by
  unfold without
  rw [List.filter_eq_self]
  intro p hp
  simpa using h p hp
/-- Behind some rounds of the deletion. -/
structure Deleting (Q L : List Piece) (f i j : Nat) : Prop where
  len : L.length = Q.length
  head : L.take i = without (Q.take j) f
  tail : L.drop j = Q.drop j
  lt : i < j
theorem Deleting.start {Q : List Piece} {f j : Nat} {p : Piece} (hp : Q[j]? = some p) (hf : p.f = f) (h : ∀ p' ∈ Q.take j, p'.f ≠ f) : Deleting Q Q f j (j + 1) :=
  ⟨rfl, by rw [without_snoc Q f j p hp, if_pos hf, without_none _ _ h], rfl, by omega⟩
theorem Deleting.at_ {Q L : List Piece} {f i j : Nat} (h : Deleting Q L f i j) : L[j]? = Q[j]? := by
  have := congrArg (fun l : List Piece => l[0]?) h.tail
  simpa [List.getElem?_drop] using this
theorem Deleting.drop {Q L : List Piece} {f i j : Nat} (h : Deleting Q L f i j) {p : Piece} (hp : Q[j]? = some p) (hf : p.f = f) : Deleting Q L f i (j + 1) :=
  ⟨h.len, by rw [without_snoc Q f j p hp, if_pos hf]; exact h.head, by rw [← List.drop_drop, h.tail, List.drop_drop], by have := h.lt; omega⟩
theorem Deleting.keep {Q L : List Piece} {f i j : Nat} (h : Deleting Q L f i j) {p : Piece} (hp : Q[j]? = some p) (hf : p.f ≠ f) : Deleting Q (L.set i p) f (i + 1) (j + 1) := by
  have hj := (List.getElem?_eq_some_iff.1 hp).1
  have h1 := h.lt
  have h2 := h.len
  refine ⟨by rw [List.length_set]; exact h.len, ?_, ?_, by omega⟩
  · rw [without_snoc Q f j p hp, if_neg hf, ← h.head, List.take_add_one, List.take_set_of_le (Nat.le_refl _), List.getElem?_set_self (by omega)]; rfl
  · rw [List.drop_set_of_lt (by omega), ← List.drop_drop, h.tail, List.drop_drop]
end Dk
end Go.Proofs.Ytbpodclodflgfaa
