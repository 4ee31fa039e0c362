/-
  Rows of strings: an argument's, and a row of the call's own.
-/
import Derived.Test.YtliadekcbkedmaaDoorFLeaf
import Derived.Laws.OwnMore
import Derived.OwnWalk
import Derived.BigFrame
namespace Go.Proofs.YtliadekcbkedmaaDoor
open Go Go.RowKit Go.Shelf
abbrev encStr (x : List UInt8) : Value := .string ⟨x.toArray⟩
def sv (X : List (List UInt8)) : List Value := X.map encStr
theorem sv_length (X : List (List UInt8)) : (sv X).length = X.length := by simp [sv]
theorem sv_cells (X : List (List UInt8)) : ∀ v ∈ sv X, v.oneCell' = true := fun v hv => by
  obtain ⟨b, _, rfl⟩ := List.mem_map.1 hv
  rfl
theorem encStr_to {x : List UInt8} {R : ByteArray} (h : x = R.data.toList) : encStr x = .string R := by
  subst h
  unfold encStr
  rw [str_back]
theorem infoS : (Tryd.prog.info? 9).map (fun i => (i.zero, i.size, i.bytes)) = some (some (.string ⟨#[]⟩), 1, 16) := by kernel_rfl
/-- A slice that reads as these strings. -/
structure Lv (w : World) (xa : Option Addr) (b off cap : Nat) (X : List (List UInt8)) : Prop where
  at_ : 0 < X.length → xa = some ⟨b, off, none⟩
  cell : ∀ j, j < X.length → w.cell? ⟨b, off + j, none⟩ = some (encStr (X.getD j []))
  lt : 0 < X.length → b < w.heap.size
  le : X.length ≤ cap
theorem Lv.below {w w' : World} {xa : Option Addr} {b off cap : Nat} {X : List (List UInt8)} (h : Lv w xa b off cap X) (hb : Below w.heap.size w w') : Lv w' xa b off cap X :=
  ⟨h.at_, fun j hj => (hb.cell (p := ⟨b, off + j, none⟩) (h.lt (by omega))).trans (h.cell j hj), fun hp => Nat.lt_of_lt_of_le (h.lt hp) hb.size, h.le⟩
theorem Lv.take {w : World} {xa : Option Addr} {b off cap : Nat} {X : List (List UInt8)} (h : Lv w xa b off cap X) (k : Nat) : Lv w xa b off cap (X.take k) :=
  ⟨fun hp => h.at_ (by rw [List.length_take] at hp; omega), fun j hj => by
    rw [List.length_take] at hj
    rw [h.cell j (by omega)]
    simp only [List.getD_eq_getElem?_getD]
    rw [List.getElem?_take_of_lt (by omega)], fun hp => h.lt (by rw [List.length_take] at hp; omega), by rw [List.length_take]; have := h.le; omega⟩
theorem Lv.drop {w : World} {xa : Option Addr} {b off cap : Nat} {X : List (List UInt8)} (h : Lv w xa b off cap X) (k : Nat) (hk : k < X.length) : Lv w (some ⟨b, off + k, none⟩) b (off + k) (cap - k) (X.drop k) :=
  ⟨fun _ => rfl, fun j hj => by
    rw [List.length_drop] at hj
    have := h.cell (k + j) (by omega)
    rw [Nat.add_assoc, this]
    simp only [List.getD_eq_getElem?_getD]
    rw [List.getElem?_drop], fun _ => h.lt (by omega), by rw [List.length_drop]; have := h.le; omega⟩
/-- A value that holds just these strings, the call's own. -/
def SOwn (w : World) (base : Nat) (v : Value) (X : List (List UInt8)) : Prop := w.ownsRow base 9 1 v X.length (sv X)
theorem SOwn.alloc {w : World} {base : Nat} {v : Value} {l : List (List UInt8)} (h : SOwn w base v l) (o : Obj) : SOwn (w.alloc o) base v l := World.ownsRow.alloc h o
theorem SOwn.drews {w : World} {base : Nat} {v : Value} {l : List (List UInt8)} (h : SOwn w base v l) (n : Nat) : SOwn (w.drewN n) base v l := h
theorem SOwn.allocDrew {w : World} {base : Nat} {v : Value} {l : List (List UInt8)} (h : SOwn w base v l) (o : Obj) : SOwn (w.alloc o).drew base v l := h.alloc o
theorem SOwn.below {w w' : World} {base : Nat} {v : Value} {l : List (List UInt8)} (h : SOwn w base v l) (hb : Below w.heap.size w w') : SOwn w' base v l :=
  World.ownsRow.kept (row := none) h ⟨hb.os, hb.tape, hb.output, hb.size, fun i hi _ => hb.block i hi⟩ (by cases v.ownBlock with | none => exact .inl rfl | some k => exact .inr (by simp))
theorem SOwn.base {w : World} {b b' : Nat} {v : Value} {l : List (List UInt8)} (h : SOwn w b v l) (hb : b' ≤ b) : SOwn w b' v l := by
  refine ⟨h.1, ?_⟩
  rcases h.2 with hn | ⟨g, cap, cur, hv, hbg, rest⟩
  · exact .inl hn
  · exact .inr ⟨g, cap, cur, hv, Nat.le_trans hb hbg, rest⟩
theorem SOwn.nil (w : World) (base : Nat) : SOwn w base (.slice none 0 0) [] := World.ownsRow_nil _ _ _ _
theorem sv_at {X : List (List UInt8)} {j : Nat} (h : j < X.length) : (sv X)[j]? = some (encStr (X.getD j [])) := by simp [sv, h]
theorem SOwn.row {w : World} {base : Nat} {v : Value} {X : List (List UInt8)} (h : SOwn w base v X) : ∃ xa b cap, v = .slice xa X.length cap ∧ Lv w xa b 0 cap X := by
  have hx := h.1
  rcases h.2 with ⟨rfl, h0⟩ | ⟨g, cap, cur, rfl, hb, hg, hnc, _⟩
  · exact ⟨none, 0, 0, by rw [h0], fun hp => by omega, fun j hj => by omega, fun hp => by omega, by omega⟩
  · refine ⟨_, g, cap, rfl, fun _ => rfl, fun j hj => ?_, fun _ => (Array.getElem?_eq_some_iff.1 hg).1, hnc⟩
    have := World.ownsRow.cells (g := g) h rfl j _ (sv_at hj)
    rw [add_plain0] at this
    rw [Nat.zero_add]; exact this
section
variable {w : World} {ops : Array Oper} {o : Oper} {a : Act} {Q : Exit → Act → World → Prop}
theorem wp_append_strs {K : Act → World → Prop} (s x : Operand) (ho : o.op = .call { callee := .builtin .append, args := #[s, x], argTypes := #[41, 41] })
    (base : Nat) (v : Value) (L : List (List UInt8)) (hs : a.eval s = v) (hown : SOwn w base v L) (ad : Addr) (m c : Nat) (news : List (List UInt8)) (hx : a.eval x = .slice (some ad) m c) (hl : news.length = m)
    (hnews : ∀ j u, (sv news)[j]? = some u → w.cell? (ad.add j) = some u) (hbig : L.length + m ≤ 1000000000) (hbase : base ≤ w.heap.size)
    (h : ∀ v' w', SOwn w' base v' (L ++ news) → w.grownBy w' v.ownBlock → K (a.put o.dst v') w') : o.wp Tryd.prog a w K Q := by
  obtain ⟨i0, hi, hz0, hz1, hz2⟩ := info_parts infoS
  refine wp_append_own w s x 41 ho base 9 i0 (.string ⟨#[]⟩) 1 16 Tryd.underlying41 hi hz0 hz1 hz2 rfl (by omega) v L.length (sv L) hs hown ad m c (sv news) hx (by rw [sv_length, hl]; omega) hnews (sv_cells _) (by unfold maxLen; omega) (by omega) hbase fun v' w' h2 h3 _ => h v' w' ?_ h3
  have e1 : (L ++ news).length = L.length + m := by rw [List.length_append, hl]
  have e2 : sv (L ++ news) = sv L ++ sv news := by simp [sv]
  unfold SOwn
  rw [e1, e2]
  exact h2
theorem step_append_strs {K : Act → World → Prop} {E : Prop} (hgd : o.guard = none) (s x : Operand) (ho : o.op = .call { callee := .builtin .append, args := #[s, x], argTypes := #[41, 41] })
    (base : Nat) (v : Value) (L : List (List UInt8)) (hs : a.eval s = v) (hown : SOwn w base v L) (ad : Addr) (m c : Nat) (news : List (List UInt8)) (hx : a.eval x = .slice (some ad) m c) (hl : news.length = m)
    (hnews : ∀ j u, (sv news)[j]? = some u → w.cell? (ad.add j) = some u) (hbig : L.length + m ≤ 1000000000) (hbase : base ≤ w.heap.size)
    (h : ∀ v' w', SOwn w' base v' (L ++ news) → w.grownBy w' v.ownBlock → K (a.put o.dst v') w') : if Region.wanted o (yielded ops a.tmps) = true then Oper.wp Tryd.prog o a w K Q else E := by
  have hw : Region.wanted o (yielded ops a.tmps) = true := by simp [Region.wanted, hgd]
  rw [if_pos hw]
  exact wp_append_strs s x ho base v L hs hown ad m c news hx hl hnews hbig hbase h
theorem wpList_append_strs {rest : List Oper} (hgd : o.guard = none) (s x : Operand) (ho : o.op = .call { callee := .builtin .append, args := #[s, x], argTypes := #[41, 41] })
    (base : Nat) (v : Value) (L : List (List UInt8)) (hs : a.eval s = v) (hown : SOwn w base v L) (ad : Addr) (m c : Nat) (news : List (List UInt8)) (hx : a.eval x = .slice (some ad) m c) (hl : news.length = m)
    (hnews : ∀ j u, (sv news)[j]? = some u → w.cell? (ad.add j) = some u) (hbig : L.length + m ≤ 1000000000) (hbase : base ≤ w.heap.size)
    (h : ∀ v' w', SOwn w' base v' (L ++ news) → w.grownBy w' v.ownBlock → wpList Tryd.prog ops Q rest (a.put o.dst v') w') : wpList Tryd.prog ops Q (o :: rest) a w :=
  wpList_plain hgd fun _ hK => wp_append_strs s x ho base v L hs hown ad m c news hx hl hnews hbig hbase fun v' w' h2 h3 => hK _ _ (h v' w' h2 h3)
end
end Go.Proofs.YtliadekcbkedmaaDoor
