/-
  A row of bytes of the call's own, also one that a conversion made: read, stored into, appended to, turned back.
-/
import Derived.Test.YtbelmadbjiiodaaRDa
import Derived.Lib.ConvBytes
import Derived.ArgAppend
import Derived.Laws.OwnMore
namespace Go.Proofs.Ytbelmadbjiiodaa
open Go Go.RowKit
theorem rb_plain (g j : Nat) : (⟨g, 0, none⟩ : Addr).add j = ⟨g, j, none⟩ := by unfold Addr.add; split <;> simp_all
theorem rb_at {l : List UInt8} {j : Nat} (h : j < l.length) : (bv l)[j]? = some (.int .u8 ((l.getD j 0).toNat : Int)) := by
  simp [bv, h]
theorem rb_none {B : Nat} {a w w' : World} (h : Below B a w) (hg : w.grownBy w' none) (hB : B ≤ a.heap.size) : Below B a w' :=
  h.trans ⟨hg.os, hg.tape, hg.output, hg.size, fun i hi => hg.block i (Nat.lt_of_lt_of_le (Nat.lt_of_lt_of_le hi hB) h.size) (by simp)⟩
theorem rb_new (w : World) (l : List Value) (t : TypeId) : ∀ (j : Nat) (u : Value), l[j]? = some u → (w.alloc (.cells l.toArray t)).cell? (Addr.add ⟨w.heap.size, 0, none⟩ j) = some u := by
  intro j u hj
  rw [rb_plain]
  exact (Blk.made w l.toArray t).cell (by simpa using hj)
/-- The call's own row in block g: n bytes are known, cap cells can be written. -/
structure BR (w : World) (base g cap : Nat) (l : List UInt8) : Prop where
  lo : base ≤ g
  lt : g < w.heap.size
  le : l.length ≤ cap
  mx : cap ≤ maxLen
  cell : ∀ j, j < l.length → w.cell? ⟨g, j, none⟩ = some (.int .u8 ((l.getD j 0).toNat : Int))
  room : ∀ j, j < cap → (w.cell? ⟨g, j, none⟩).isSome = true
  free : ∀ j, j < cap → w.frozen? ⟨g, j, none⟩ = false
def BRV (w : World) (base : Nat) (v : Value) (l : List UInt8) : Prop := ∃ g cap, v = .slice (some ⟨g, 0, none⟩) l.length cap ∧ BR w base g cap l
theorem BR.below {w w' : World} {base g cap : Nat} {l : List UInt8} (h : BR w base g cap l) (hb : Below w.heap.size w w') : BR w' base g cap l :=
  ⟨h.lo, Nat.lt_of_lt_of_le h.lt hb.size, h.le, h.mx, fun j hj => (hb.cell (p := ⟨g, j, none⟩) h.lt).trans (h.cell j hj), fun j hj => by rw [hb.cell (p := ⟨g, j, none⟩) h.lt]; exact h.room j hj,
    fun j hj => (World.frozen?_of_block (hb.block g h.lt)).trans (h.free j hj)⟩
theorem BRV.below {w w' : World} {base : Nat} {v : Value} {l : List UInt8} (h : BRV w base v l) (hb : Below w.heap.size w w') : BRV w' base v l := by
  obtain ⟨g, cap, hv, h⟩ := h
  exact ⟨g, cap, hv, h.below hb⟩
theorem BRV.alloc {w : World} {base : Nat} {v : Value} {l : List UInt8} (h : BRV w base v l) (o : Obj) : BRV (w.alloc o) base v l := h.below (below_alloc (Below.refl _ _) (Nat.le_refl _) o)
theorem BRV.drew {w : World} {base : Nat} {v : Value} {l : List UInt8} (h : BRV w base v l) : BRV w.drew base v l := h.below (below_drew (Below.refl _ _))
theorem BRV.drews {w : World} {base : Nat} {v : Value} {l : List UInt8} (h : BRV w base v l) (n : Nat) : BRV (w.drewN n) base v l := h.below (below_drewN (Below.refl _ _) n)
theorem BRV.allocDrew {w : World} {base : Nat} {v : Value} {l : List UInt8} (h : BRV w base v l) (o : Obj) : BRV (w.alloc o).drew base v l := (h.alloc o).drew
theorem BR.of_owned {w : World} {base : Nat} {v : Value} {l : List UInt8} {n : Nat} (h : w.ownsRow base 5 1 v n (bv l)) (hl : l.length = n) (hn : 0 < n) : BRV w base v l := by
  subst hl
  rcases h.2 with ⟨_, h0⟩ | ⟨g, cap, cur, rfl, hb, hg, hnc, hcm, hcs, ht⟩
  · omega
  · have hlt := (Array.getElem?_eq_some_iff.1 hg).1
    refine ⟨g, cap, rfl, hb, hlt, hnc, hcm, fun j hj => ?_, fun j hj => ?_, fun j hj => ?_⟩
    · have := h.cells (g := g) rfl j _ (rb_at hj)
      rw [rb_plain] at this
      exact this
    · have : j < cur.size := by omega
      simp [World.cell?, hg, this]
    · simp [World.frozen?, hg]
theorem Below.setCells {B g : Nat} (hg : B ≤ g) : ∀ (vs : List Value) (o : Nat) (a w : World), Below B a w → Below B a (w.setCells g o vs)
  | [], _, _, _, h => h
  | v :: r, o, a, _, h => Below.setCells hg r (o + 1) a _ (h.setCell (p := ⟨g, o, none⟩) hg v)
theorem setCells_size (g : Nat) : ∀ (vs : List Value) (o : Nat) (w : World), (w.setCells g o vs).heap.size = w.heap.size
  | [], _, _ => rfl
  | v :: r, o, w => by
    rw [World.setCells, setCells_size g r (o + 1)]
    simp [World.setCell]
theorem run_append_BR {w : World} {base : Nat} {v : Value} {l : List UInt8} (h : BRV w base v l) (ty : TypeId) (a : Addr) (m c : Nat) (news : List UInt8) (hl : news.length = m)
    (hnews : ∀ j u, (bv news)[j]? = some u → w.cell? (a.add j) = some u) (_hm : 0 < m) (hbig : l.length + m ≤ 1000000000) (hbase : base ≤ w.heap.size) :
    ∃ v' w', (Builtin.append_ #[43, 43] ty #[v, .slice (some a) m c]).run Try.prog w = .ok v' w' ∧ BRV w' base v' (l ++ news) ∧ Below base w w' := by
  obtain ⟨i0, hi, hz0, hz1, hz2⟩ := info_parts infoU
  obtain ⟨g, cap, rfl, hr⟩ := h
  have hnl : (bv news).length = m := by rw [bv_length, hl]
  by_cases hroom : l.length + m ≤ cap
  · have run := run_append_room_cells (P := Try.prog) w 43 ty 5 i0 Try.underlying43 hi g 0 l.length cap a m c (bv news) (by rw [hnl, hz1]; omega) hnews (bv_cells _) hroom
      (fun j hj => hr.room _ (by rw [hz1]; omega)) (fun j hj => hr.free _ (by rw [hz1]; omega))
    rw [hz1, Nat.zero_add, Nat.mul_one] at run
    have hin := World.cell?_setCells_in g (bv news) l.length w (fun j hj => hr.room _ (by omega))
    have hout := fun j (hj : j < l.length ∨ l.length + (bv news).length ≤ j) => World.cell?_setCells_out g (bv news) l.length w ⟨g, j, none⟩ (fun _ _ => hj)
    refine ⟨_, _, run, ⟨g, cap, by rw [List.length_append, hl], hr.lo, ?_, by rw [List.length_append, hl]; exact hroom, hr.mx, fun j hj => ?_, fun j hj => ?_, fun j hj => ?_⟩, Below.setCells hr.lo _ _ _ _ (Below.refl _ _)⟩
    · rw [setCells_size]; exact hr.lt
    · rw [List.length_append, hl] at hj
      by_cases hjl : j < l.length
      · rw [hout j (.inl hjl), hr.cell j hjl]
        simp only [List.getD_eq_getElem?_getD]
        rw [List.getElem?_append_left hjl]
      · have := hin (j - l.length) (by omega)
        rw [show l.length + (j - l.length) = j by omega] at this
        rw [this]
        simp only [List.getD_eq_getElem?_getD]
        rw [List.getElem?_append_right (by omega)]
        have hb := rb_at (l := news) (j := j - l.length) (by omega)
        rw [List.getElem?_eq_getElem (by omega)] at hb
        simpa [List.getD_eq_getElem?_getD] using hb
    · by_cases hjo : j < l.length ∨ l.length + (bv news).length ≤ j
      · rw [hout j hjo]; exact hr.room j hj
      · have := hin (j - l.length) (by omega)
        rw [show l.length + (j - l.length) = j by omega] at this
        rw [this]; rfl
    · rw [World.frozen?_setCells]; exact hr.free j hj
  · obtain ⟨v', w', hrun, hown, hgrow⟩ := run_append_arg_grows (P := Try.prog) w 43 ty 5 i0 (.int .u8 0) 1 1 Try.underlying43 hi hz0 hz1 hz2 rfl (by omega) ⟨g, 0, none⟩ l.length cap (bv l) (by rw [bv_length]; omega)
      (fun j u hj => by
        have hjl : j < l.length := by have := (List.getElem?_eq_some_iff.1 hj).1; simpa [bv] using this
        rw [rb_plain, hr.cell j hjl, ← hj, rb_at hjl]) a m c (bv news) (by rw [hnl]; omega) hnews (by omega) (by unfold maxLen; omega) (by omega)
    have e : bv l ++ bv news = bv (l ++ news) := by simp [bv]
    rw [e] at hown
    obtain ⟨g', cap', hv', h'⟩ := BR.of_owned hown (by rw [List.length_append, hl]) (by omega)
    exact ⟨v', w', hrun, ⟨g', cap', hv', Nat.le_trans hbase h'.lo, h'.lt, h'.le, h'.mx, h'.cell, h'.room, h'.free⟩, rb_none (Below.refl _ _) hgrow hbase⟩
section
variable {w : World} {ops : Array Oper} {o : Oper} {a : Act} {Q : Exit → Act → World → Prop}
theorem wp_append_BR {K : Act → World → Prop} (s x : Operand) (ho : o.op = .call { callee := .builtin .append, args := #[s, x], argTypes := #[43, 43] })
    (base : Nat) (v : Value) (L : List UInt8) (hs : a.eval s = v) (hown : BRV w base v L) (ad : Addr) (m c : Nat) (news : List UInt8) (hx : a.eval x = .slice (some ad) m c) (hl : news.length = m)
    (hnews : ∀ j u, (bv news)[j]? = some u → w.cell? (ad.add j) = some u) (hm : 0 < m) (hbig : L.length + m ≤ 1000000000) (hbase : base ≤ w.heap.size)
    (h : ∀ v' w', BRV w' base v' (L ++ news) → Below base w w' → K (a.put o.dst v') w') : o.wp Try.prog a w K Q := by
  obtain ⟨v', w', hr, h2, h3⟩ := run_append_BR hown o.type ad m c news hl hnews hm hbig hbase
  unfold Oper.wp execOp
  simp only [ho, resolve, invoke, builtin, Sem.run_bind, Sem.run_pure, Result.andThen_ok, List.map_toArray, List.map_cons, List.map_nil, hs, hx, hr]
  exact h v' w' h2 h3
theorem step_append_BR {K : Act → World → Prop} {E : Prop} (hgd : o.guard = none) (s x : Operand) (ho : o.op = .call { callee := .builtin .append, args := #[s, x], argTypes := #[43, 43] })
    (base : Nat) (v : Value) (L : List UInt8) (hs : a.eval s = v) (hown : BRV w base v L) (ad : Addr) (m c : Nat) (news : List UInt8) (hx : a.eval x = .slice (some ad) m c) (hl : news.length = m)
    (hnews : ∀ j u, (bv news)[j]? = some u → w.cell? (ad.add j) = some u) (hm : 0 < m) (hbig : L.length + m ≤ 1000000000) (hbase : base ≤ w.heap.size)
    (h : ∀ v' w', BRV w' base v' (L ++ news) → Below base w w' → K (a.put o.dst v') w') : if Region.wanted o (yielded ops a.tmps) = true then Oper.wp Try.prog o a w K Q else E := by
  have hw : Region.wanted o (yielded ops a.tmps) = true := by simp [Region.wanted, hgd]
  rw [if_pos hw]
  exact wp_append_BR s x ho base v L hs hown ad m c news hx hl hnews hm hbig hbase h
theorem wpList_append_BR {rest : List Oper} (hgd : o.guard = none) (s x : Operand) (ho : o.op = .call { callee := .builtin .append, args := #[s, x], argTypes := #[43, 43] })
    (base : Nat) (v : Value) (L : List UInt8) (hs : a.eval s = v) (hown : BRV w base v L) (ad : Addr) (m c : Nat) (news : List UInt8) (hx : a.eval x = .slice (some ad) m c) (hl : news.length = m)
    (hnews : ∀ j u, (bv news)[j]? = some u → w.cell? (ad.add j) = some u) (hm : 0 < m) (hbig : L.length + m ≤ 1000000000) (hbase : base ≤ w.heap.size)
    (h : ∀ v' w', BRV w' base v' (L ++ news) → Below base w w' → wpList Try.prog ops Q rest (a.put o.dst v') w') : wpList Try.prog ops Q (o :: rest) a w :=
  wpList_plain hgd fun _ hK => wp_append_BR s x ho base v L hs hown ad m c news hx hl hnews hm hbig hbase fun v' w' h2 h3 => hK _ _ (h v' w' h2 h3)
end
/-- The converted string's bytes, in a row of the call's own. -/
theorem bytes_row (s : ByteArray) (hs : s.size ≤ 100000000) (w : World) : ∃ (C : Nat) (W1 : World), (convert 9 43 (.string s)).run Try.prog w = .ok (.slice (some ⟨w.heap.size, 0, none⟩) s.size C) W1 ∧ BR W1 w.heap.size w.heap.size C s.data.toList ∧ Below w.heap.size w W1 := by
  have hz := Lib.size_eq s
  have hge := grownCap_ge w s.size 0 5
  have hcs : (Lib.bytesCells w 5 s).size = grownCap w s.size 0 5 := by
    have h2 : s.size = s.data.size := rfl
    simp [Lib.bytesCells]
    omega
  refine ⟨_, _, Lib.run_convert_string_bytes (P := Try.prog) w 9 43 5 s Try.underlying9 Try.underlying43 Try.underlying5,
    ⟨Nat.le_refl _, by rw [Lib.bytesWorld_size]; omega, by rw [← hz]; exact hge, grownCap_le_maxLen w s.size 0 5 (by unfold maxLen; omega), fun j hj => Lib.bytesWorld_cell w _ s j (by rw [hz]; exact hj), fun j hj => ?_, fun j hj => ?_⟩,
    rfl, rfl, rfl, by rw [Lib.bytesWorld_size]; omega, fun k hk => Lib.bytesWorld_at_old w _ s k hk⟩
  · have : j < (Lib.bytesCells w 5 s).size := by omega
    simp [World.cell?, Lib.bytesWorld_at_new, this]
  · simp [World.frozen?, Lib.bytesWorld_at_new]
    try omega
theorem BR.set {w : World} {base g cap k : Nat} {l : List UInt8} (h : BR w base g cap l) (hk : k < l.length) (x : UInt8) : BR (w.setCell ⟨g, k, none⟩ (.int .u8 (x.toNat : Int))) base g cap (l.set k x) := by
  refine ⟨h.lo, by simpa [World.setCell] using h.lt, by simpa using h.le, h.mx, fun j hj => ?_, fun j hj => ?_, fun j hj => by rw [World.frozen?_setCell]; exact h.free j hj⟩
  · rw [List.length_set] at hj
    by_cases hjk : j = k
    · subst hjk
      rw [World.cell?_setCell_same _ _ _ (h.cell j hj)]
      simp [hj]
    · rw [World.cell?_setCell_other _ _ _ _ (by intro e; injection e with _ e2; exact hjk e2.symm), h.cell j hj]
      simp only [List.getD_eq_getElem?_getD]
      rw [List.getElem?_set_ne (fun e => hjk e.symm)]
  · by_cases hjk : j = k
    · subst hjk
      rw [World.cell?_setCell_same _ _ _ (h.cell j hk)]; rfl
    · rw [World.cell?_setCell_other _ _ _ _ (by intro e; injection e with _ e2; exact hjk e2.symm)]
      exact h.room j hj
theorem BR.conv {w : World} {base g cap n : Nat} {l : List UInt8} (h : BR w base g cap l) (hn : l.length = n) :
    (convert 43 9 (.slice (some ⟨g, 0, none⟩) n cap)).run Try.prog w = .ok (.string (enc l)) w := by
  subst hn
  exact run_convert_bytes_back (P := Try.prog) w 43 9 5 ⟨g, 0, none⟩ cap l Try.underlying43 Try.underlying5 Try.underlying9 (fun j hj => by
    rw [rb_plain, h.cell j hj]
    simp [hj])
end Go.Proofs.Ytbelmadbjiiodaa
