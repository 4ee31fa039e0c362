/-
  append onto a row of bytes that a conversion made (or that an append made anew).
-/
import Derived.Test.YtdleaipcogomfaaDoorDKeeps
import Derived.Test.YtdleaipcogomfaaDoorDFlipT
import Derived.ArgAppend
namespace Go.Proofs.YtdleaipcogomfaaDoor
open Go Go.RowKit Go.Shelf
/-- The call's own row in block g: n bytes are known, cap cells can be written. -/
structure BR (w : World) (base g cap : Nat) (l : List UInt8) : Prop where
  lo : base ≤ g
  lt : g < w.heap.size
  le : l.length ≤ cap
  mx : cap ≤ maxLen
  cell : ∀ j, j < l.length → w.cell? ⟨g, j, none⟩ = some (.int .u8 ((l.getD j 0).toNat : Int))
  room : ∀ j, j < cap → (w.cell? ⟨g, j, none⟩).isSome = true
  free : ∀ j, j < cap → w.frozen? ⟨g, j, none⟩ = false
def BRV (w : World) (base : Nat) (v : Value) (l : List UInt8) : Prop := ∃ g cap, v = .slice (some ⟨g, 0, none⟩) l.length cap ∧ BR w base g cap l
theorem BR.below {w w' : World} {base g cap : Nat} {l : List UInt8} (h : BR w base g cap l) (hb : Below w.heap.size w w') : BR w' base g cap l :=
  ⟨h.lo, Nat.lt_of_lt_of_le h.lt hb.size, h.le, h.mx, fun j hj => (hb.cell (p := ⟨g, j, none⟩) h.lt).trans (h.cell j hj), fun j hj => by rw [hb.cell (p := ⟨g, j, none⟩) h.lt]; exact h.room j hj,
    fun j hj => (World.frozen?_of_block (hb.block g h.lt)).trans (h.free j hj)⟩
theorem BRV.below {w w' : World} {base : Nat} {v : Value} {l : List UInt8} (h : BRV w base v l) (hb : Below w.heap.size w w') : BRV w' base v l := by
  obtain ⟨g, cap, hv, h⟩ := h
  exact ⟨g, cap, hv, h.below hb⟩
theorem BRV.alloc {w : World} {base : Nat} {v : Value} {l : List UInt8} (h : BRV w base v l) (o : Obj) : BRV (w.alloc o) base v l := h.below (below_alloc (Below.refl _ _) (Nat.le_refl _) o)
theorem BRV.drew {w : World} {base : Nat} {v : Value} {l : List UInt8} (h : BRV w base v l) : BRV w.drew base v l := h.below (below_drew (Below.refl _ _))
theorem BRV.drews {w : World} {base : Nat} {v : Value} {l : List UInt8} (h : BRV w base v l) (n : Nat) : BRV (w.drewN n) base v l := h.below (below_drewN (Below.refl _ _) n)
theorem BRV.allocDrew {w : World} {base : Nat} {v : Value} {l : List UInt8} (h : BRV w base v l) (o : Obj) : BRV (w.alloc o).drew base v l := (h.alloc o).drew
theorem BR.of_owned {w : World} {base : Nat} {v : Value} {l : List UInt8} {n : Nat} (h : w.ownsRow base 5 1 v n (bv l)) (hl : l.length = n) (hn : 0 < n) : BRV w base v l := by
  subst hl
  rcases h.2 with ⟨_, h0⟩ | ⟨g, cap, cur, rfl, hb, hg, hnc, hcm, hcs, ht⟩
  · omega
  · have hlt := (Array.getElem?_eq_some_iff.1 hg).1
    refine ⟨g, cap, rfl, hb, hlt, hnc, hcm, fun j hj => ?_, fun j hj => ?_, fun j hj => ?_⟩
    · have := h.cells (g := g) rfl j _ (bv_at hj)
      rw [add_plain0] at this
      exact this
    · have : j < cur.size := by omega
      simp [World.cell?, hg, this]
    · simp [World.frozen?, hg]
theorem Below.setCells {B g : Nat} (hg : B ≤ g) : ∀ (vs : List Value) (o : Nat) (a w : World), Below B a w → Below B a (w.setCells g o vs)
  | [], _, _, _, h => h
  | v :: r, o, a, w, h => Below.setCells hg r (o + 1) a _ (h.setCell (p := ⟨g, o, none⟩) hg v)
theorem setCells_size (g : Nat) : ∀ (vs : List Value) (o : Nat) (w : World), (w.setCells g o vs).heap.size = w.heap.size
  | [], _, _ => rfl
  | v :: r, o, w => by
    rw [World.setCells, setCells_size g r (o + 1)]
    simp [World.setCell]
theorem run_append_BR {w : World} {base : Nat} {v : Value} {l : List UInt8} (h : BRV w base v l) (ty : TypeId) (a : Addr) (m c : Nat) (news : List UInt8) (hl : news.length = m)
    (hnews : ∀ j u, (bv news)[j]? = some u → w.cell? (a.add j) = some u) (hm : 0 < m) (hbig : l.length + m ≤ 1000000000) (hbase : base ≤ w.heap.size) :
    ∃ v' w', (Builtin.append_ #[51, 51] ty #[v, .slice (some a) m c]).run Tryd.prog w = .ok v' w' ∧ BRV w' base v' (l ++ news) ∧ Below base w w' := by
  obtain ⟨i0, hi, hz0, hz1, hz2⟩ := info_parts infoU
  obtain ⟨g, cap, rfl, hr⟩ := h
  have hnl : (bv news).length = m := by rw [bv_length, hl]
  by_cases hroom : l.length + m ≤ cap
  · have run := run_append_room_cells (P := Tryd.prog) w 51 ty 5 i0 Tryd.underlying51 hi g 0 l.length cap a m c (bv news) (by rw [hnl, hz1]; omega) hnews (bv_cells _) hroom
      (fun j hj => hr.room _ (by rw [hz1]; omega)) (fun j hj => hr.free _ (by rw [hz1]; omega))
    rw [hz1, Nat.zero_add, Nat.mul_one] at run
    have hin := World.cell?_setCells_in g (bv news) l.length w (fun j hj => hr.room _ (by omega))
    have hout := fun j (hj : j < l.length ∨ l.length + (bv news).length ≤ j) => World.cell?_setCells_out g (bv news) l.length w ⟨g, j, none⟩ (fun _ _ => hj)
    refine ⟨_, _, run, ⟨g, cap, by rw [List.length_append, hl], hr.lo, ?_, by rw [List.length_append, hl]; exact hroom, hr.mx, fun j hj => ?_, fun j hj => ?_, fun j hj => ?_⟩, Below.setCells hr.lo _ _ _ _ (Below.refl _ _)⟩
    · rw [setCells_size]; exact hr.lt
    · rw [List.length_append, hl] at hj
      by_cases hjl : j < l.length
      · rw [hout j (.inl hjl), hr.cell j hjl]
        simp only [List.getD_eq_getElem?_getD]
        rw [List.getElem?_append_left hjl]
      · have := hin (j - l.length) (by omega)
        rw [show l.length + (j - l.length) = j by omega] at this
        rw [this]
        simp only [List.getD_eq_getElem?_getD]
        rw [List.getElem?_append_right (by omega)]
        have hb := bv_at (l := news) (j := j - l.length) (by omega)
        rw [List.getElem?_eq_getElem (by omega)] at hb
        simpa [List.getD_eq_getElem?_getD] using hb
    · by_cases hjo : j < l.length ∨ l.length + (bv news).length ≤ j
      · rw [hout j hjo]; exact hr.room j hj
      · have := hin (j - l.length) (by omega)
        rw [show l.length + (j - l.length) = j by omega] at this
        rw [this]; rfl
    · rw [World.frozen?_setCells]; exact hr.free j hj
  · obtain ⟨v', w', hrun, hown, hgrow⟩ := run_append_arg_grows (P := Tryd.prog) w 51 ty 5 i0 (.int .u8 0) 1 1 Tryd.underlying51 hi hz0 hz1 hz2 rfl (by omega) ⟨g, 0, none⟩ l.length cap (bv l) (by rw [bv_length]; omega)
      (fun j u hj => by
        have hjl : j < l.length := by have := (List.getElem?_eq_some_iff.1 hj).1; simpa [bv] using this
        rw [add_plain0, hr.cell j hjl, ← hj, bv_at hjl]) a m c (bv news) (by rw [hnl]; omega) hnews (by omega) (by unfold maxLen; omega) (by omega)
    have e : bv l ++ bv news = bv (l ++ news) := by simp [bv]
    rw [e] at hown
    obtain ⟨g', cap', hv', h'⟩ := BR.of_owned hown (by rw [List.length_append, hl]) (by omega)
    exact ⟨v', w', hrun, ⟨g', cap', hv', Nat.le_trans hbase h'.lo, h'.lt, h'.le, h'.mx, h'.cell, h'.room, h'.free⟩, below_none (Below.refl _ _) hgrow hbase⟩
section
variable {w : World} {ops : Array Oper} {o : Oper} {a : Act} {Q : Exit → Act → World → Prop}
theorem wp_append_BR {K : Act → World → Prop} (s x : Operand) (ho : o.op = .call { callee := .builtin .append, args := #[s, x], argTypes := #[51, 51] })
    (base : Nat) (v : Value) (L : List UInt8) (hs : a.eval s = v) (hown : BRV w base v L) (ad : Addr) (m c : Nat) (news : List UInt8) (hx : a.eval x = .slice (some ad) m c) (hl : news.length = m)
    (hnews : ∀ j u, (bv news)[j]? = some u → w.cell? (ad.add j) = some u) (hm : 0 < m) (hbig : L.length + m ≤ 1000000000) (hbase : base ≤ w.heap.size)
    (h : ∀ v' w', BRV w' base v' (L ++ news) → Below base w w' → K (a.put o.dst v') w') : o.wp Tryd.prog a w K Q := by
  obtain ⟨v', w', hr, h2, h3⟩ := run_append_BR hown o.type ad m c news hl hnews hm hbig hbase
  unfold Oper.wp execOp
  simp only [ho, resolve, invoke, builtin, Sem.run_bind, Sem.run_pure, Result.andThen_ok, List.map_toArray, List.map_cons, List.map_nil, hs, hx, hr]
  exact h v' w' h2 h3
theorem step_append_BR {K : Act → World → Prop} {E : Prop} (hgd : o.guard = none) (s x : Operand) (ho : o.op = .call { callee := .builtin .append, args := #[s, x], argTypes := #[51, 51] })
    (base : Nat) (v : Value) (L : List UInt8) (hs : a.eval s = v) (hown : BRV w base v L) (ad : Addr) (m c : Nat) (news : List UInt8) (hx : a.eval x = .slice (some ad) m c) (hl : news.length = m)
    (hnews : ∀ j u, (bv news)[j]? = some u → w.cell? (ad.add j) = some u) (hm : 0 < m) (hbig : L.length + m ≤ 1000000000) (hbase : base ≤ w.heap.size)
    (h : ∀ v' w', BRV w' base v' (L ++ news) → Below base w w' → K (a.put o.dst v') w') : if Region.wanted o (yielded ops a.tmps) = true then Oper.wp Tryd.prog o a w K Q else E := by
  have hw : Region.wanted o (yielded ops a.tmps) = true := by simp [Region.wanted, hgd]
  rw [if_pos hw]
  exact wp_append_BR s x ho base v L hs hown ad m c news hx hl hnews hm hbig hbase h
theorem wpList_append_BR {rest : List Oper} (hgd : o.guard = none) (s x : Operand) (ho : o.op = .call { callee := .builtin .append, args := #[s, x], argTypes := #[51, 51] })
    (base : Nat) (v : Value) (L : List UInt8) (hs : a.eval s = v) (hown : BRV w base v L) (ad : Addr) (m c : Nat) (news : List UInt8) (hx : a.eval x = .slice (some ad) m c) (hl : news.length = m)
    (hnews : ∀ j u, (bv news)[j]? = some u → w.cell? (ad.add j) = some u) (hm : 0 < m) (hbig : L.length + m ≤ 1000000000) (hbase : base ≤ w.heap.size)
    (h : ∀ v' w', BRV w' base v' (L ++ news) → Below base w w' → wpList Tryd.prog ops Q rest (a.put o.dst v') w') : wpList Tryd.prog ops Q (o :: rest) a w :=
  wpList_plain hgd fun _ hK => wp_append_BR s x ho base v L hs hown ad m c news hx hl hnews hm hbig hbase fun v' w' h2 h3 => hK _ _ (h v' w' h2 h3)
end
/-- The converted string's bytes, in a row of the call's own. -/
theorem bytes_row (s : ByteArray) (hs : s.size ≤ 100000000) (w : World) : ∃ (C : Nat) (W1 : World), (convert 9 51 (.string s)).run Tryd.prog w = .ok (.slice (some ⟨w.heap.size, 0, none⟩) s.size C) W1 ∧ BR W1 w.heap.size w.heap.size C s.data.toList ∧ Below w.heap.size w W1 := by
  have hz := Lib.size_eq s
  have hge := grownCap_ge w s.size 0 5
  have hcs : (Lib.bytesCells w 5 s).size = grownCap w s.size 0 5 := by
    have h2 : s.size = s.data.size := rfl
    simp [Lib.bytesCells]
    omega
  refine ⟨_, _, Lib.run_convert_string_bytes (P := Tryd.prog) w 9 51 5 s Tryd.underlying9 Tryd.underlying51 Tryd.underlying5,
    ⟨Nat.le_refl _, by rw [Lib.bytesWorld_size]; omega, by rw [← hz]; exact hge, grownCap_le_maxLen w s.size 0 5 (by unfold maxLen; omega), fun j hj => Lib.bytesWorld_cell w _ s j (by rw [hz]; exact hj), fun j hj => ?_, fun j hj => ?_⟩,
    rfl, rfl, rfl, by rw [Lib.bytesWorld_size]; omega, fun k hk => Lib.bytesWorld_at_old w _ s k hk⟩
  · have : j < (Lib.bytesCells w 5 s).size := by omega
    simp [World.cell?, Lib.bytesWorld_at_new, this]
  · simp [World.frozen?, Lib.bytesWorld_at_new]
    try omega
end Go.Proofs.YtdleaipcogomfaaDoor
