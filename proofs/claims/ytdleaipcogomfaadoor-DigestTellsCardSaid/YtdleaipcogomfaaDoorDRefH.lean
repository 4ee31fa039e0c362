/-
  Rows of words as ints; the reference's k; turn and word as quiet calls.
-/
import Derived.Test.YtdleaipcogomfaaDoorDRefG
namespace Go.Proofs.YtdleaipcogomfaaDoor
open Go Go.RowKit Go.Shelf
def iv (l : List Dg.W32) : List Value := l.map fun x => .int .i64 (x.toNat : Int)
theorem iv_length (l : List Dg.W32) : (iv l).length = l.length := by simp [iv]
theorem iv_at {l : List Dg.W32} {j : Nat} (h : j < l.length) : (iv l)[j]? = some (.int .i64 ((l.getD j 0).toNat : Int)) := by simp [iv, h]
theorem iv_cells (l : List Dg.W32) : ∀ v ∈ iv l, v.oneCell' = true := fun v hv => by
  obtain ⟨b, _, rfl⟩ := List.mem_map.1 hv
  rfl
theorem infoI : (Tryd.prog.info? 3).map (fun i => (i.zero, i.size, i.bytes)) = some (some (.int .i64 0), 1, 8) := by kernel_rfl
/-- Words in block g. -/
structure IR (w : World) (g : Nat) (l : List Dg.W32) : Prop where
  cell : ∀ j, j < l.length → w.cell? ⟨g, j, none⟩ = some (.int .i64 ((l.getD j 0).toNat : Int))
  lt : g < w.heap.size
theorem IR.below {w w' : World} {g : Nat} {l : List Dg.W32} (h : IR w g l) (hb : Below w.heap.size w w') : IR w' g l :=
  ⟨fun j hj => (hb.cell (p := ⟨g, j, none⟩) h.lt).trans (h.cell j hj), Nat.lt_of_lt_of_le h.lt hb.size⟩
theorem IR.drews {w : World} {g : Nat} {l : List Dg.W32} (h : IR w g l) (n : Nat) : IR (w.drewN n) g l := ⟨h.cell, h.lt⟩
theorem IR.made (w : World) (l : List Dg.W32) (t : TypeId) : IR (w.alloc (.cells (iv l).toArray t)) w.heap.size l :=
  ⟨fun j hj => (Blk.made w (iv l).toArray t).cell (by simpa using iv_at hj), by rw [alloc_size]; omega⟩
/-- A value that holds just these words, the call's own. -/
def IOwn (w : World) (base : Nat) (v : Value) (l : List Dg.W32) : Prop := w.ownsRow base 3 1 v l.length (iv l)
theorem IOwn.row {w : World} {base : Nat} {v : Value} {l : List Dg.W32} (h : IOwn w base v l) (hn : 0 < l.length) : ∃ g cap, v = .slice (some ⟨g, 0, none⟩) l.length cap ∧ base ≤ g ∧ IR w g l := by
  obtain ⟨g, cap, hv, hb, hg, hc⟩ := row_some h hn
  exact ⟨g, cap, hv, hb, ⟨fun j hj => hc j _ (iv_at hj), hg⟩⟩
theorem IOwn.alloc {w : World} {base : Nat} {v : Value} {l : List Dg.W32} (h : IOwn w base v l) (o : Obj) : IOwn (w.alloc o) base v l := World.ownsRow.alloc h o
theorem IOwn.drew {w : World} {base : Nat} {v : Value} {l : List Dg.W32} (h : IOwn w base v l) : IOwn w.drew base v l := h
theorem IOwn.drews {w : World} {base : Nat} {v : Value} {l : List Dg.W32} (h : IOwn w base v l) (n : Nat) : IOwn (w.drewN n) base v l := h
theorem IOwn.allocDrew {w : World} {base : Nat} {v : Value} {l : List Dg.W32} (h : IOwn w base v l) (o : Obj) : IOwn (w.alloc o).drew base v l := (h.alloc o).drew
section
variable {w : World} {ops : Array Oper} {o : Oper} {a : Act} {Q : Exit → Act → World → Prop}
theorem wp_append_ints {K : Act → World → Prop} (s x : Operand) (ho : o.op = .call { callee := .builtin .append, args := #[s, x], argTypes := #[50, 50] })
    (base : Nat) (v : Value) (L : List Dg.W32) (hs : a.eval s = v) (hown : IOwn w base v L) (ad : Addr) (m c : Nat) (news : List Dg.W32) (hx : a.eval x = .slice (some ad) m c) (hl : news.length = m)
    (hnews : ∀ j u, (iv news)[j]? = some u → w.cell? (ad.add j) = some u) (hbig : L.length + m ≤ 1000000000) (hbase : base ≤ w.heap.size)
    (h : ∀ v' w', IOwn w' base v' (L ++ news) → w.grownBy w' v.ownBlock → K (a.put o.dst v') w') : o.wp Tryd.prog a w K Q := by
  obtain ⟨i0, hi, hz0, hz1, hz2⟩ := info_parts infoI
  refine wp_append_own w s x 50 ho base 3 i0 (.int .i64 0) 1 8 Tryd.underlying50 hi hz0 hz1 hz2 rfl (by omega) v L.length (iv L) hs hown ad m c (iv news) hx (by rw [iv_length, hl]; omega) hnews (iv_cells _) (by unfold maxLen; omega) (by omega) hbase fun v' w' h2 h3 _ => h v' w' ?_ h3
  have e1 : (L ++ news).length = L.length + m := by rw [List.length_append, hl]
  have e2 : iv (L ++ news) = iv L ++ iv news := by simp [iv]
  unfold IOwn
  rw [e1, e2]
  exact h2
theorem step_append_ints {K : Act → World → Prop} {E : Prop} (hgd : o.guard = none) (s x : Operand) (ho : o.op = .call { callee := .builtin .append, args := #[s, x], argTypes := #[50, 50] })
    (base : Nat) (v : Value) (L : List Dg.W32) (hs : a.eval s = v) (hown : IOwn w base v L) (ad : Addr) (m c : Nat) (news : List Dg.W32) (hx : a.eval x = .slice (some ad) m c) (hl : news.length = m)
    (hnews : ∀ j u, (iv news)[j]? = some u → w.cell? (ad.add j) = some u) (hbig : L.length + m ≤ 1000000000) (hbase : base ≤ w.heap.size)
    (h : ∀ v' w', IOwn w' base v' (L ++ news) → w.grownBy w' v.ownBlock → K (a.put o.dst v') w') : if Region.wanted o (yielded ops a.tmps) = true then Oper.wp Tryd.prog o a w K Q else E := by
  have hw : Region.wanted o (yielded ops a.tmps) = true := by simp [Region.wanted, hgd]
  rw [if_pos hw]
  exact wp_append_ints s x ho base v L hs hown ad m c news hx hl hnews hbig hbase h
theorem wpList_append_ints {rest : List Oper} (hgd : o.guard = none) (s x : Operand) (ho : o.op = .call { callee := .builtin .append, args := #[s, x], argTypes := #[50, 50] })
    (base : Nat) (v : Value) (L : List Dg.W32) (hs : a.eval s = v) (hown : IOwn w base v L) (ad : Addr) (m c : Nat) (news : List Dg.W32) (hx : a.eval x = .slice (some ad) m c) (hl : news.length = m)
    (hnews : ∀ j u, (iv news)[j]? = some u → w.cell? (ad.add j) = some u) (hbig : L.length + m ≤ 1000000000) (hbase : base ≤ w.heap.size)
    (h : ∀ v' w', IOwn w' base v' (L ++ news) → w.grownBy w' v.ownBlock → wpList Tryd.prog ops Q rest (a.put o.dst v') w') : wpList Tryd.prog ops Q (o :: rest) a w :=
  wpList_plain hgd fun _ hK => wp_append_ints s x ho base v L hs hown ad m c news hx hl hnews hbig hbase fun v' w' h2 h3 => hK _ _ (h v' w' h2 h3)
end
/-- The reference's table of constants: a new row. -/
theorem rk_any (w : World) : Calls Tryd.prog 76 #[] w fun e w' => e = .returned (.slice (some ⟨w.heap.size, 0, none⟩) 64 64) ∧ IR w' w.heap.size Dg.K ∧ Below w.heap.size w w' := by
  have HI := Lib.hid (IR.made w Dg.K 3)
  have HB := Lib.hid (below_alloc (Below.refl w.heap.size w) (Nat.le_refl _) (.cells (iv Dg.K).toArray 3))
  go_enter Tryd.func76, Tryd.ntmps76
  go_wp2
  go_ret
  exact ⟨rfl, HI.out, HB.out⟩
theorem rturn_quiet (x : Dg.W32) (k : Int) (h1 : 1 ≤ k) (h2 : k ≤ 31) (n : Nat) (w : World) :
    Calls Tryd.prog 74 #[.int .i64 x.toNat, .int .i64 k] (w.drewN n) fun e w' => e = .returned (.int .i64 (Dg.ror x k.toNat).toNat) ∧ ∃ m, w' = w.drewN m := by
  obtain ⟨j, rfl⟩ : ∃ j : Nat, k = (j : Int) := ⟨k.toNat, by omega⟩
  exact Calls.quiet_of (rturn_any x j (by omega) (by omega) _)
theorem rturn_at (x : Dg.W32) (k : Int) (j : Nat) (hk : k = (j : Int)) (h1 : 1 ≤ j) (h2 : j ≤ 31) (R : Dg.W32) (hR : Dg.ror x j = R) (w : World) :
    Calls Tryd.prog 74 #[.int .i64 x.toNat, .int .i64 k] w fun e w' => e = .returned (.int .i64 (R.toNat : Int)) ∧ ∃ m, w' = w.drewN m := by
  subst hk hR
  exact rturn_any x j h1 h2 w
theorem or_nat64 (x y : Nat) (hx : x < 4294967296) (hy : y < 4294967296) : bits .or .i64 (x : Int) (y : Int) = ((x ||| y : Nat) : Int) := by
  have h := Dg.v_or (BitVec.ofNat 32 x) (BitVec.ofNat 32 y)
  rw [BitVec.toNat_or, BitVec.toNat_ofNat, BitVec.toNat_ofNat, Nat.mod_eq_of_lt (by omega), Nat.mod_eq_of_lt (by omega)] at h
  exact h
theorem word_said64 (a b c d : UInt8) :
    bits .or .i64 (bits .or .i64 (bits .or .i64 ((a.toNat : Int) * 16777216) ((b.toNat : Int) * 65536)) ((c.toNat : Int) * 256)) (d.toNat : Int) = ((Dg.word a b c d).toNat : Int) := by
  have ha := UInt8.toNat_lt a
  have hb := UInt8.toNat_lt b
  have hc := UInt8.toNat_lt c
  have hd := UInt8.toNat_lt d
  have e1 : (a.toNat * 16777216) ||| (b.toNat * 65536) = 65536 * (a.toNat * 256 + b.toNat) := by
    have := Dg.or_add a.toNat (b.toNat * 65536) 24 (by omega)
    rw [Nat.mul_comm a.toNat]; exact this.trans (by omega)
  have e2 : (65536 * (a.toNat * 256 + b.toNat)) ||| (c.toNat * 256) = 256 * ((a.toNat * 256 + b.toNat) * 256 + c.toNat) := by
    have := Dg.or_add (a.toNat * 256 + b.toNat) (c.toNat * 256) 16 (by omega)
    exact this.trans (by omega)
  have e3 : (256 * ((a.toNat * 256 + b.toNat) * 256 + c.toNat)) ||| d.toNat = ((a.toNat * 256 + b.toNat) * 256 + c.toNat) * 256 + d.toNat := by
    have := Dg.or_add ((a.toNat * 256 + b.toNat) * 256 + c.toNat) d.toNat 8 (by omega)
    exact this.trans (by omega)
  have f1 : (a.toNat : Int) * 16777216 = ((a.toNat * 16777216 : Nat) : Int) := by omega
  have f2 : (b.toNat : Int) * 65536 = ((b.toNat * 65536 : Nat) : Int) := by omega
  have f3 : (c.toNat : Int) * 256 = ((c.toNat * 256 : Nat) : Int) := by omega
  rw [f1, f2, f3, or_nat64 _ _ (by omega) (by omega), e1, or_nat64 _ _ (by omega) (by omega), e2, or_nat64 _ _ (by omega) (by omega), e3]
  unfold Dg.word
  rw [BitVec.toNat_ofNat, Nat.mod_eq_of_lt (by omega)]
end Go.Proofs.YtdleaipcogomfaaDoor
