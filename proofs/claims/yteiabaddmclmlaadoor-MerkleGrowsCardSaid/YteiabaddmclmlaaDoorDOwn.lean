/-
  A []byte that the call makes and grows; its string.
-/
import Derived.Test.YteiabaddmclmlaaDoorDBytes
import Derived.Test.YteiabaddmclmlaaDoorDHex
import Derived.OwnWalk
import Derived.StillTailTactics
namespace Go.Proofs.YteiabaddmclmlaaDoor
open Go Go.RowKit Go.Shelf
theorem infoU : (Tryd.prog.info? 5).map (fun i => (i.zero, i.size, i.bytes)) = some (some (.int .u8 0), 1, 1) := by kernel_rfl
/-- A value that holds just these bytes, the call's own. -/
def BytesOf (w : World) (base : Nat) (v : Value) (l : List UInt8) : Prop := w.ownsRow base 5 1 v l.length (bv l)
theorem row_some {w : World} {base : Nat} {e : TypeId} {v : Value} {n : Nat} {xs : List Value} (h : w.ownsRow base e 1 v n xs) (hn : 0 < n) :
    ∃ g cap, v = .slice (some ⟨g, 0, none⟩) n cap ∧ base ≤ g ∧ g < w.heap.size ∧ ∀ (j : Nat) (u : Value), xs[j]? = some u → w.cell? ⟨g, j, none⟩ = some u := by
  have hx := h.1
  rcases h.2 with ⟨_, h0⟩ | ⟨g, cap, cur, rfl, hb, hg, _, _, _, ht⟩
  · omega
  · refine ⟨g, cap, rfl, hb, (Array.getElem?_eq_some_iff.1 hg).1, fun j u hu => ?_⟩
    have hj : j < xs.length := (List.getElem?_eq_some_iff.1 hu).1
    have : cur[j]? = some u := by
      rw [← ht, List.getElem?_take_of_lt (by omega)] at hu
      simpa using hu
    simp [World.cell?, hg, this]
theorem BytesOf.back {w : World} {base : Nat} {v : Value} {l : List UInt8} (h : BytesOf w base v l) : (convert 43 9 v).run Tryd.prog w = .ok (.string ⟨l.toArray⟩) w := by
  by_cases hn : 0 < l.length
  · obtain ⟨g, cap, rfl, _, hg, hc⟩ := row_some h hn
    exact run_convert_bytes_back (P := Tryd.prog) w 43 9 5 ⟨g, 0, none⟩ cap l Tryd.underlying43 Tryd.underlying5 Tryd.underlying9 (fun j hj => by
      rw [add_plain0]
      exact hc j _ (by unfold bv; rw [List.getElem?_map, List.getElem?_eq_getElem hj]; rfl))
  · have hl : l = [] := List.eq_nil_of_length_eq_zero (by omega)
    subst hl
    rcases h.2 with ⟨rfl, _⟩ | ⟨g, cap, cur, rfl, _⟩
    · exact run_convert_bytes_nil (P := Tryd.prog) w 43 5 Tryd.underlying43 Tryd.underlying5 0 0 9 Tryd.underlying9
    · exact run_convert_bytes_back (P := Tryd.prog) w 43 9 5 ⟨g, 0, none⟩ cap [] Tryd.underlying43 Tryd.underlying5 Tryd.underlying9 (fun j hj => absurd hj (Nat.not_lt_zero _))
theorem below_none {B : Nat} {a w w' : World} (h : Below B a w) (hg : w.grownBy w' none) (hB : B ≤ a.heap.size) : Below B a w' :=
  h.trans ⟨hg.os, hg.tape, hg.output, hg.size, fun i hi => hg.block i (Nat.lt_of_lt_of_le (Nat.lt_of_lt_of_le hi hB) h.size) (by simp)⟩
theorem below_grown {B : Nat} {a w w' : World} {base : Nat} {e : TypeId} {size : Nat} {v : Value} {n : Nat} {xs : List Value} (h : Below B a w) (ho : w.ownsRow base e size v n xs) (hg : w.grownBy w' v.ownBlock) (hB : B ≤ a.heap.size) (hb : B ≤ base) : Below B a w' :=
  h.trans ⟨hg.os, hg.tape, hg.output, hg.size, fun i hi => hg.block i (Nat.lt_of_lt_of_le (Nat.lt_of_lt_of_le hi hB) h.size) (fun e => by have := (ho.lt i e.symm).1; omega)⟩
theorem cells_new (w : World) (l : List Value) (t : TypeId) : ∀ (j : Nat) (u : Value), l[j]? = some u → (w.alloc (.cells l.toArray t)).cell? (Addr.add ⟨w.heap.size, 0, none⟩ j) = some u := by
  intro j u hj
  rw [add_plain0]
  exact (Blk.made w l.toArray t).cell (by simpa using hj)

theorem bv_cells (l : List UInt8) : ∀ v ∈ bv l, v.oneCell' = true := fun v hv => by
  obtain ⟨b, _, rfl⟩ := List.mem_map.1 hv
  rfl
section
variable {w : World} {ops : Array Oper} {o : Oper} {a : Act} {Q : Exit → Act → World → Prop}
theorem wp_append_bytes {K : Act → World → Prop} (s x : Operand) (ho : o.op = .call { callee := .builtin .append, args := #[s, x], argTypes := #[43, 43] })
    (base : Nat) (v : Value) (L : List UInt8) (hs : a.eval s = v) (hown : BytesOf w base v L) (ad : Addr) (m c : Nat) (news : List UInt8) (hx : a.eval x = .slice (some ad) m c) (hl : news.length = m)
    (hnews : ∀ j u, (bv news)[j]? = some u → w.cell? (ad.add j) = some u) (hbig : L.length + m ≤ 1000000000) (hbase : base ≤ w.heap.size)
    (h : ∀ v' w', BytesOf w' base v' (L ++ news) → w.grownBy w' v.ownBlock → K (a.put o.dst v') w') : o.wp Tryd.prog a w K Q := by
  obtain ⟨i0, hi, hz0, hz1, hz2⟩ := info_parts infoU
  refine wp_append_own w s x 43 ho base 5 i0 (.int .u8 0) 1 1 Tryd.underlying43 hi hz0 hz1 hz2 rfl (by omega) v L.length (bv L) hs hown ad m c (bv news) hx (by rw [bv_length, hl]; omega) hnews (bv_cells _) (by unfold maxLen; omega) (by omega) hbase fun v' w' h2 h3 _ => h v' w' ?_ h3
  have e1 : (L ++ news).length = L.length + m := by rw [List.length_append, hl]
  have e2 : bv (L ++ news) = bv L ++ bv news := by simp [bv]
  unfold BytesOf
  rw [e1, e2]
  exact h2
theorem step_append_bytes {K : Act → World → Prop} {E : Prop} (hgd : o.guard = none) (s x : Operand) (ho : o.op = .call { callee := .builtin .append, args := #[s, x], argTypes := #[43, 43] })
    (base : Nat) (v : Value) (L : List UInt8) (hs : a.eval s = v) (hown : BytesOf w base v L) (ad : Addr) (m c : Nat) (news : List UInt8) (hx : a.eval x = .slice (some ad) m c) (hl : news.length = m)
    (hnews : ∀ j u, (bv news)[j]? = some u → w.cell? (ad.add j) = some u) (hbig : L.length + m ≤ 1000000000) (hbase : base ≤ w.heap.size)
    (h : ∀ v' w', BytesOf w' base v' (L ++ news) → w.grownBy w' v.ownBlock → K (a.put o.dst v') w') : if Region.wanted o (yielded ops a.tmps) = true then Oper.wp Tryd.prog o a w K Q else E := by
  have hw : Region.wanted o (yielded ops a.tmps) = true := by simp [Region.wanted, hgd]
  rw [if_pos hw]
  exact wp_append_bytes s x ho base v L hs hown ad m c news hx hl hnews hbig hbase h
theorem wpList_append_bytes {rest : List Oper} (hgd : o.guard = none) (s x : Operand) (ho : o.op = .call { callee := .builtin .append, args := #[s, x], argTypes := #[43, 43] })
    (base : Nat) (v : Value) (L : List UInt8) (hs : a.eval s = v) (hown : BytesOf w base v L) (ad : Addr) (m c : Nat) (news : List UInt8) (hx : a.eval x = .slice (some ad) m c) (hl : news.length = m)
    (hnews : ∀ j u, (bv news)[j]? = some u → w.cell? (ad.add j) = some u) (hbig : L.length + m ≤ 1000000000) (hbase : base ≤ w.heap.size)
    (h : ∀ v' w', BytesOf w' base v' (L ++ news) → w.grownBy w' v.ownBlock → wpList Tryd.prog ops Q rest (a.put o.dst v') w') : wpList Tryd.prog ops Q (o :: rest) a w :=
  wpList_plain hgd fun _ hK => wp_append_bytes s x ho base v L hs hown ad m c news hx hl hnews hbig hbase fun v' w' h2 h3 => hK _ _ (h v' w' h2 h3)
end
theorem BytesOf.alloc {w : World} {base : Nat} {v : Value} {l : List UInt8} (h : BytesOf w base v l) (o : Obj) : BytesOf (w.alloc o) base v l := World.ownsRow.alloc h o
theorem BytesOf.drew {w : World} {base : Nat} {v : Value} {l : List UInt8} (h : BytesOf w base v l) : BytesOf w.drew base v l := h
theorem below_drew {B : Nat} {a w : World} (h : Below B a w) : Below B a w.drew := ⟨h.os, h.tape, h.output, h.size, h.block⟩
theorem BytesOf.allocDrew {w : World} {base : Nat} {v : Value} {l : List UInt8} (h : BytesOf w base v l) (o : Obj) : BytesOf (w.alloc o).drew base v l := (h.alloc o).drew
theorem cells_newDrew (w : World) (l : List Value) (t : TypeId) : ∀ (j : Nat) (u : Value), l[j]? = some u → (w.alloc (.cells l.toArray t)).drew.cell? (Addr.add ⟨w.heap.size, 0, none⟩ j) = some u := cells_new w l t
theorem and15 (c : UInt8) : bits .and .u8 (c.toNat : Int) 15 = ((c.toNat % 16 : Nat) : Int) := by
  have H : ∀ k : Fin 256, bits .and .u8 (k.val : Int) 15 = ((k.val % 16 : Nat) : Int) := by decide +kernel
  exact H ⟨c.toNat, UInt8.toNat_lt c⟩
theorem index_at (s : ByteArray) (k : IntKind) (i : Int) (n : Nat) (hi : i = (n : Int)) (hn : n < s.data.toList.length) (w : World) : (Instr.index 9 (.string s) (.int k i)).run Tryd.prog w = .ok (.int .u8 ((s.data.toList.getD n 0).toNat : Int)) w := by
  subst hi
  have hz := Lib.size_eq s
  rw [run_index_string _ _ _ _ _ Tryd.underlying9]
  have hn' : n < s.size := by omega
  simp [hn']
  rfl
set_option maxHeartbeats 4000000 in
set_option maxRecDepth 100000 in
theorem hex_any (s : ByteArray) (hs : s.size ≤ 100000000) (w : World) :
    Calls Tryd.prog 21 #[.string s] w fun e w' => e = .returned (.string ⟨(Dg.hex s.data.toList).toArray⟩) ∧ Below w.heap.size w w' := by
  obtain ⟨i0, hi, hz0, hz1, hz2⟩ := info_parts infoU
  have hz := Lib.hid (Lib.size_eq s)
  obtain ⟨n2, hn2⟩ : ∃ n, n = 2 * s.size := ⟨_, rfl⟩
  have hn3 : n2 ≤ 200000000 := by omega
  have hm : ((2 : Int) * (s.size : Int)) = (n2 : Int) := by omega
  clear hn2
  go_enter Tryd.func21, Tryd.ntmps21
  go_wp2_with (at_make; refine wpList_make_own _ rfl _ _ 43 rfl w.heap.size 5 i0 (.int .u8 0) 1 Tryd.underlying43 hi hz0 hz1 .i64 .i64 _ n2 rfl rfl (by omega) (by rw [hz2]; omega) (by unfold maxLen; omega) (Nat.le_refl _) ?_; intro w1 hown hgrow; have HO := Lib.hid hown; have HB := Lib.hid (below_none (Below.refl w.heap.size w) hgrow (Nat.le_refl _)); clear hown hgrow)
  go_loopw [3, 11] (fun v i wr => ∃ k : Nat, ∃ vv : Value, v = vv ∧ i = .int .i64 k ∧ k ≤ s.size ∧ Hid (BytesOf wr w.heap.size vv (Dg.hex (s.data.toList.take k))) ∧ Hid (Below w.heap.size w wr)) (fun _ i _ => s.size - (intOf i).toNat)
  case atStart => exact ⟨0, _, rfl, rfl, by omega, HO.out, HB.out⟩
  case round =>
    clear HO HB
    obtain ⟨k, v, rfl, rfl, hk, hown, hB⟩ := hrel
    by_cases hlt : k < s.size
    · obtain ⟨c, hc⟩ : ∃ c, s[k] = c := ⟨_, rfl⟩
      have hN : Dg.hex (s.data.toList.take (k + 1)) = Dg.hex (s.data.toList.take k) ++ Dg.hexC c := by
        rw [List.take_succ_eq_append_getElem (by rw [← hz.out]; exact hlt), ← hc]
        unfold Dg.hex
        rw [List.flatMap_append, List.flatMap_cons, List.flatMap_nil, List.append_nil]
        rfl
      have hl : (Dg.hex (s.data.toList.take k)).length = 2 * k := by rw [Dg.hex_length, List.length_take, ← hz.out, Nat.min_eq_left hk]
      obtain ⟨L, hL⟩ : ∃ L, Dg.hex (s.data.toList.take k) = L := ⟨_, rfl⟩
      rw [hL] at hown hN hl
      clear hL
      have HN := Lib.hid (show ∀ P : List UInt8 → Prop, P (L ++ Dg.hexC c) → P (Dg.hex (s.data.toList.take (k + 1))) from fun P h => by rw [hN]; exact h)
      clear hN
      have HL := Lib.hid hl
      clear hl
      have hcl := UInt8.toNat_lt c
      go_wp2_with fail
      have i1 := fun w' : World => index_at ⟨#[48, 49, 50, 51, 52, 53, 54, 55, 56, 57, 97, 98, 99, 100, 101, 102]⟩ .u8 ((c.toNat : Int) / (16 : Int)) (c.toNat / 16) (by omega) (show c.toNat / 16 < 16 by omega) w'
      have hlo := and15 c
      have i2 := fun w' : World => index_at ⟨#[48, 49, 50, 51, 52, 53, 54, 55, 56, 57, 97, 98, 99, 100, 101, 102]⟩ .u8 ((c.toNat % 16 : Nat) : Int) (c.toNat % 16) rfl (show c.toNat % 16 < 16 by omega) w'
      have HX := Lib.hid (show ∀ P : List UInt8 → Prop, P [(Dg.hexDigits.getD (c.toNat / 16) 0), (Dg.hexDigits.getD (c.toNat % 16) 0)] → P (Dg.hexC c) from fun P h => h)
      change ∀ w' : World, _ = Result.ok (Value.int .u8 ((Dg.hexDigits.getD (c.toNat / 16) 0).toNat : Int)) w' at i1
      change ∀ w' : World, _ = Result.ok (Value.int .u8 ((Dg.hexDigits.getD (c.toNat % 16) 0).toNat : Int)) w' at i2
      obtain ⟨x, hx⟩ : ∃ x, Dg.hexDigits.getD (c.toNat / 16) 0 = x := ⟨_, rfl⟩
      obtain ⟨y, hy⟩ : ∃ x, Dg.hexDigits.getD (c.toNat % 16) 0 = x := ⟨_, rfl⟩
      obtain ⟨lo, hlo'⟩ : ∃ n, c.toNat % 16 = n := ⟨_, rfl⟩
      rw [hx] at i1
      rw [hy] at i2
      rw [hx, hy] at HX
      rw [hlo'] at hlo i2
      clear hlo' hx hy
      go_region_held3 (fun _ => True) (trivial) ((refine step_append_bytes (by rfl) _ _ (by rfl) w.heap.size _ L (by rfl) (BytesOf.allocDrew hown.out _) ⟨wr.heap.size, 0, none⟩ 2 2 [x, y] (by rfl) rfl (cells_newDrew wr (bv [x, y]) _) (by rw [HL.out]; omega) (Nat.le_trans hB.out.size (by first | exact Nat.le_succ _ | simp)) ?_; intro v1 w1 hown1 hgrow))
      all_goals
        have HO1 := Lib.hid (HX.out (fun t => BytesOf w1 w.heap.size v1 (L ++ t)) hown1)
        have HO2 := Lib.hid (HN.out (fun t => BytesOf w1 w.heap.size v1 t) HO1.out)
        have HB1 := Lib.hid (below_grown (below_drew (below_alloc hB.out (Nat.le_refl _) _)) (BytesOf.allocDrew hown.out _) hgrow (Nat.le_refl _) (Nat.le_refl _))
        clear hown1 hgrow HO1
        go_wp2
        go_roundw
        case rel => exact ⟨k + 1, v1, rfl, rfl, by omega, HO2.out, HB1.out⟩
        case measure => simp [intOf]; omega
    · obtain rfl : k = s.size := by omega
      have e : s.data.toList.take s.size = s.data.toList := List.take_of_length_le (by rw [← hz.out]; exact Nat.le_refl _)
      rw [e] at hown
      have hcv := hown.out.back
      go_wp2
      go_ret
      exact ⟨rfl, hB.out⟩
end Go.Proofs.YteiabaddmclmlaaDoor
