/-
  The reference's Size and Arm.
-/
import Derived.Test.YtbelmadbjiiodaaRDn
namespace Go.Proofs.Ytbelmadbjiiodaa
open Go Go.RowKit
set_option maxHeartbeats 1000000 in
set_option maxRecDepth 100000 in
theorem rsize_any {w : World} {g : Nat} {D : Dk.Disk} (h : RAt w g D) (f : Int) : Calls Try.prog 18 #[.pointer (some ⟨g, 0, none⟩), .int .i64 f] w fun e w' => e = .returned (.int .i64 (Dk.size D f : Int)) ∧ Below w.heap.size w w' := by
  by_cases h0 : 0 ≤ f
  · by_cases h1 : f ≤ 11
    · obtain ⟨fn, rfl⟩ : ∃ n : Nat, f = (n : Int) := ⟨f.toNat, by omega⟩
      have e : Dk.size D (fn : Int) = (Dk.read D fn).length := by unfold Dk.size; rw [if_pos ⟨h0, h1⟩]; rfl
      have CR := Lib.hid (rread_any h fn (by omega))
      obtain ⟨R, hR⟩ : ∃ R, enc (Dk.read D fn) = R := ⟨_, rfl⟩
      have HZ := Lib.hid (show (R.size : Int) = ((Dk.size D (fn : Int) : Nat) : Int) from by rw [e, ← hR, Lib.size_eq]; rfl)
      rw [hR] at CR
      clear h hR e
      go_enter Try.func18, Try.ntmps18
      go_wp2_with (go_at_call 42; with_reducible refine CR.out.mono ?_; rintro _ w2 ⟨rfl, hb⟩)
      go_ret
      exact ⟨by rw [HZ.out]; rfl, hb⟩
    · have e : Dk.size D f = 0 := by unfold Dk.size; rw [if_neg (by omega)]
      rw [e]
      clear h e
      go_enter Try.func18, Try.ntmps18
      go_wp2
      go_ret
      exact ⟨rfl, Below.refl _ _⟩
  · have e : Dk.size D f = 0 := by unfold Dk.size; rw [if_neg (by omega)]
    rw [e]
    clear h e
    go_enter Try.func18, Try.ntmps18
    go_wp2
    go_ret
    exact ⟨rfl, Below.refl _ _⟩
/-- append to a row without room that the call has just made: of nothing at all, it is the row. -/
theorem run_lit_none {w : World} {g c : Nat} {ts e ty : TypeId} {i : TypeInfo} (ht : Try.prog.underlying ts = some (.slice e)) (hi : Try.prog.info? e = some i) :
    (Builtin.append_ #[ts, ts] ty #[.slice (some ⟨g, 0, none⟩) 0 0, .slice none 0 c]).run Try.prog w = .ok (.slice (some ⟨g, 0, none⟩) 0 0) w := by
  simp [Builtin.append_, run_underlying ht, sizeOf, typeInfo, hi, Builtin.lenOf, Builtin.firstCells, loadCells, loadCellsFrom, storeCells]
/-- A literal without elements: the call's own row. -/
theorem lit_own (w : World) (e : TypeId) (size : Nat) : (w.alloc (.cells #[] e)).ownsRow w.heap.size e size (.slice (some ⟨w.heap.size, 0, none⟩) 0 0) 0 [] :=
  ⟨by simp, .inr ⟨w.heap.size, 0, #[], rfl, Nat.le_refl _, heap_alloc_new _ _, Nat.le_refl _, by unfold maxLen; omega, by simp, by simp⟩⟩
theorem run_lit_app {w : World} {gb base : Nat} {ts e ty : TypeId} {i : TypeInfo} {z : Value} {size bytes : Nat} (ht : Try.prog.underlying ts = some (.slice e)) (hi : Try.prog.info? e = some i) (hz : i.zero = some z) (hsize : i.size = size) (hby : i.bytes = bytes) (hzs : z.cells.size = size) (hsz : 0 < size)
    (hown : w.ownsRow base e size (.slice (some ⟨gb, 0, none⟩) 0 0) 0 []) (xa : Option Addr) (xb xo m c : Nat) (news : List Value) (hl : news.length = m * size) (hx : 0 < m → xa = some ⟨xb, xo, none⟩) (hnews : ∀ j u, news[j]? = some u → w.cell? ⟨xb, xo + j, none⟩ = some u) (h1 : ∀ u ∈ news, u.oneCell' = true)
    (hmx : m ≤ 100000000) (hbytes : bytes ≤ 64) (hbase : base ≤ w.heap.size) :
    ∃ v' w', (Builtin.append_ #[ts, ts] ty #[.slice (some ⟨gb, 0, none⟩) 0 0, .slice xa m c]).run Try.prog w = .ok v' w' ∧ w'.ownsRow base e size v' m news ∧ w.grownBy w' (some gb) := by
  cases xa with
  | none =>
    obtain rfl : m = 0 := by
      cases Nat.eq_zero_or_pos m with
      | inl h => exact h
      | inr h => have := hx h; cases this
    obtain rfl : news = [] := List.eq_nil_of_length_eq_zero (by simpa using hl)
    exact ⟨_, _, run_lit_none ht hi, hown, World.grownBy.refl _ _⟩
  | some ad =>
    have hc : ∀ j u, news[j]? = some u → w.cell? (ad.add j) = some u := fun j u hj => by
      have hm : 0 < m := by
        have := (List.getElem?_eq_some_iff.1 hj).1
        cases Nat.eq_zero_or_pos m with
        | inl h => subst h; simp at hl; subst hl; simp at this
        | inr h => exact h
      have := hx hm
      injection this with this
      subst this
      rw [show (⟨xb, xo, none⟩ : Addr).add j = ⟨xb, xo + j, none⟩ from by unfold Addr.add; split <;> simp_all]
      exact hnews j u hj
    obtain ⟨v', w', hr, h2, h3, _⟩ := app_same w ty i z bytes ht hi hz hsize hby hzs hsz hown ad m c news hl hc h1 (by unfold maxLen; omega) (by rw [Nat.zero_add]; exact Nat.le_trans (Nat.mul_le_mul hmx hbytes) (by decide)) hbase
    rw [Nat.zero_add, List.nil_append] at h2
    exact ⟨v', w', hr, h2, h3⟩
section
variable {w : World} {ops : Array Oper} {o : Oper} {a : Act} {Q : Exit → Act → World → Prop} {rest : List Oper}
theorem wpList_lit_ints (hgd : o.guard = none) (s x : Operand) (ho : o.op = .call { callee := .builtin .append, args := #[s, x], argTypes := #[30, 30] }) {gb base : Nat} (hs : a.eval s = .slice (some ⟨gb, 0, none⟩) 0 0)
    (hown : w.ownsRow base 3 1 (.slice (some ⟨gb, 0, none⟩) 0 0) 0 []) (xa : Option Addr) (xb xo m c : Nat) (ks : List Int) (hx : a.eval x = .slice xa m c) (hk : IR w xa xb xo ks) (hkn : ks.length = m) (hmx : m ≤ 100000000) (hbase : base ≤ w.heap.size)
    (h : ∀ v' w', Hid (w'.ownsRow base 3 1 v' ks.length (iv ks)) → Hid (w.grownBy w' (some gb)) → wpList Try.prog ops Q rest (a.put o.dst v') w') : wpList Try.prog ops Q (o :: rest) a w := by
  refine wpList_plain hgd fun K hK => ?_
  obtain ⟨i0, hi, hz0, hz1, hz2⟩ := info_parts infoI
  obtain ⟨v', w', hr, h2, h3⟩ := run_lit_app (ty := o.type) Try.underlying30 hi hz0 hz1 hz2 rfl (by omega) hown xa xb xo m c (iv ks) (by rw [iv_length, hkn, Nat.mul_one]) (fun hp => hk.addr (by omega)) (fun j u hj => by
    have hj2 : j < ks.length := by have := (List.getElem?_eq_some_iff.1 hj).1; rwa [iv_length] at this
    rw [hk.cell j hj2]
    rw [← hj]
    simp [iv, hj2]) (iv_cells _) hmx (by omega) hbase
  subst hkn
  unfold Oper.wp execOp
  simp only [ho, resolve, invoke, builtin, Sem.run_bind, Sem.run_pure, Result.andThen_ok, List.map_toArray, List.map_cons, List.map_nil, hs, hx, hr]
  exact hK _ _ (h v' w' h2 h3)
end
theorem ir_still {w w' : World} {a : Option Addr} {b off g : Nat} {ks : List Int} (h : IR w a b off ks) (hm : RMv g w w') (hf : 0 < ks.length → ¬ RFoot w g b) : IR w' a b off ks :=
  ⟨h.addr, fun j hj => (World.cell?_of_block (a := ⟨b, off + j, none⟩) (hm.block b (h.lt (by omega)) (hf (by omega)))).trans (h.cell j hj), fun hp => Nat.lt_of_lt_of_le (h.lt hp) hm.size, h.fit⟩
set_option maxHeartbeats 1000000 in
set_option maxRecDepth 100000 in
theorem rarm_any {w : World} {g : Nat} {D : Dk.Disk} (h : RAt w g D) (n : Int) (hn : -9223372036854775808 ≤ n) (hm : n ≤ 9223372036854775807) (ka : Option Addr) (kb koff kn kcap : Nat) (ks : List Int) (hk : IR w ka kb koff ks) (hkn : ks.length = kn) (hkl : kn ≤ 100000000) (hap : 0 < ks.length → ¬ RFoot w g kb) :
    Calls Try.prog 40 #[.pointer (some ⟨g, 0, none⟩), .int .i64 n, .slice ka kn kcap] w fun e w' => (∃ v, e = .returned v) ∧ RAt w' g (Dk.arm D n ks) ∧ RMv g w w' := by
  obtain ⟨vl, vq, vk, hv⟩ := h
  have c4 := hv.cells.2.2.2.2.1
  have f4 := hv.blk.free 4
  have f5 := hv.blk.free 5
  have hlt := hv.lt
  have HE := Lib.hid (fun (m : Int) (h0 : 0 ≤ m) (h1 : m ≤ 9223372036854775807) =>
    show ∃ vl vq vk, RV (w.setCell ⟨g, 4, none⟩ (.int .i64 m)) g vl vq vk { D with armed := m } ∧ RMv g w (w.setCell ⟨g, 4, none⟩ (.int .i64 m)) ∧ IR (w.setCell ⟨g, 4, none⟩ (.int .i64 m)) ka kb koff ks from by
      have h3 := hv.put (vl' := vl) (vq' := vq) (vk' := vk) (D' := { D with armed := m }) 4 (.int .i64 m) rfl hv.last hv.pend hv.keep ⟨hv.good.len, hv.good.pcs, hv.good.q, hv.good.lost0, hv.good.lost1, h0, h1⟩
      have h4 := (RMv.refl g w).store hv.blk 4 (.int .i64 m) (fun x hx => by cases hx)
      exact ⟨vl, vq, vk, h3, h4, ir_still hk h4 hap⟩)
  have FIN := Lib.hid (fun (m : Int) (h0 : 0 ≤ m) (h1 : m ≤ 9223372036854775807) (hme : max n 0 = m) (w3 : World) (v3 : Value)
      (ho : w3.ownsRow (w.setCell ⟨g, 4, none⟩ (.int .i64 m)).heap.size 3 1 v3 ks.length (iv ks)) (hg : ((w.setCell ⟨g, 4, none⟩ (.int .i64 m)).alloc (.cells #[] 3)).grownBy w3 (some (w.setCell ⟨g, 4, none⟩ (.int .i64 m)).heap.size)) =>
    show w3.cell? ⟨g, 5, none⟩ = some vk ∧ w3.frozen? ⟨g, 5, none⟩ = false ∧ RAt (w3.setCell ⟨g, 5, none⟩ v3) g (Dk.arm D n ks) ∧ RMv g w (w3.setCell ⟨g, 5, none⟩ v3) from by
      subst hme
      have h3 := hv.put (vl' := vl) (vq' := vq) (vk' := vk) (D' := { D with armed := max n 0 }) 4 (.int .i64 (max n 0)) rfl hv.last hv.pend hv.keep ⟨hv.good.len, hv.good.pcs, hv.good.q, hv.good.lost0, hv.good.lost1, h0, h1⟩
      have h4 := (RMv.refl g w).store hv.blk 4 (.int .i64 (max n 0)) (fun x hx => by cases hx)
      have hb := r_grown (r_new (w.setCell ⟨g, 4, none⟩ (.int .i64 (max n 0))) (.cells #[] 3)) (Nat.le_refl _) hg (fun b e => by injection e with e; omega)
      have h5 := h3.below hb
      refine ⟨h5.cells.2.2.2.2.2, h5.blk.free 5, ⟨_, _, _, h5.put (vl' := vl) (vq' := vq) (vk' := v3) (D' := Dk.arm D n ks) 5 v3 rfl h5.last h5.pend (own_base ho) ⟨h5.good.len, h5.good.pcs, h5.good.q, h5.good.lost0, h5.good.lost1, h0, h1⟩⟩, ?_⟩
      exact (h4.trans (RMv.of_below hb h3.lt)).store h5.blk 5 v3 (fun x hx => .inl (by omega)))
  clear hv hk hap
  by_cases h0 : 0 ≤ n
  · have hmx : max n 0 = n := Int.max_eq_left h0
    have h0' := h0
    have hm' := hm
    obtain ⟨l1, l2, l3, h5, h6, h7⟩ := HE.out n h0' hm'
    have HF := Lib.hid (FIN.out n h0' hm' hmx)
    have hsz : (w.setCell ⟨g, 4, none⟩ (.int .i64 n)).heap.size = w.heap.size := World.size_setCell _ _ _
    have HI := Lib.hid (h7.below (r_new _ (.cells #[] 3)))
    have HL := Lib.hid (lit_own (w.setCell ⟨g, 4, none⟩ (.int .i64 n)) 3 1)
    have HB := Lib.hid (show w.heap.size ≤ ((w.setCell ⟨g, 4, none⟩ (.int .i64 n)).alloc (.cells #[] 3)).heap.size from by rw [alloc_size, hsz]; omega)
    rw [hsz] at HL HF
    clear HE FIN h5 h6 h7 hmx hsz
    go_enter Try.func40, Try.ntmps40
    go_wp2_with (at_builtin; refine wpList_lit_ints rfl _ _ rfl rfl HL.out ka kb koff kn kcap ks rfl HI.out hkn hkl HB.out ?_; intro v3 w3 ho hg; obtain ⟨pa, nn, cc, hv3⟩ := own_slice ho.out; subst hv3; obtain ⟨q1, q2, q3, q4⟩ := HF.out w3 _ ho.out hg.out; have Q3 := Lib.hid q3; have Q4 := Lib.hid q4; clear q3 q4 ho hg)
    all_goals go_end0
    all_goals first | (exfalso; omega) | exact ⟨⟨_, rfl⟩, Q3.out, Q4.out⟩
  · have hmx : max n 0 = 0 := Int.max_eq_right (by omega)
    have h0' : (0 : Int) ≤ 0 := by decide
    have hm' : (0 : Int) ≤ 9223372036854775807 := by decide
    obtain ⟨l1, l2, l3, h5, h6, h7⟩ := HE.out 0 h0' hm'
    have HF := Lib.hid (FIN.out 0 h0' hm' hmx)
    have hsz : (w.setCell ⟨g, 4, none⟩ (.int .i64 0)).heap.size = w.heap.size := World.size_setCell _ _ _
    have HI := Lib.hid (h7.below (r_new _ (.cells #[] 3)))
    have HL := Lib.hid (lit_own (w.setCell ⟨g, 4, none⟩ (.int .i64 0)) 3 1)
    have HB := Lib.hid (show w.heap.size ≤ ((w.setCell ⟨g, 4, none⟩ (.int .i64 0)).alloc (.cells #[] 3)).heap.size from by rw [alloc_size, hsz]; omega)
    rw [hsz] at HL HF
    clear HE FIN h5 h6 h7 hmx hsz
    go_enter Try.func40, Try.ntmps40
    go_wp2_with (at_builtin; refine wpList_lit_ints rfl _ _ rfl rfl HL.out ka kb koff kn kcap ks rfl HI.out hkn hkl HB.out ?_; intro v3 w3 ho hg; obtain ⟨pa, nn, cc, hv3⟩ := own_slice ho.out; subst hv3; obtain ⟨q1, q2, q3, q4⟩ := HF.out w3 _ ho.out hg.out; have Q3 := Lib.hid q3; have Q4 := Lib.hid q4; clear q3 q4 ho hg)
    all_goals go_end0
    all_goals first | (exfalso; omega) | exact ⟨⟨_, rfl⟩, Q3.out, Q4.out⟩
end Go.Proofs.Ytbelmadbjiiodaa
