/-
  The reference's Copy.
-/
import Derived.Test.YtbelmadbjiiodaaRDo
import Derived.Deep.RegionHeld3
namespace Go.Proofs.Ytbelmadbjiiodaa
open Go Go.RowKit
section
variable {w W W' z : World} {b B : Nat} {o o' : Obj}
/-- A literal without elements that lies in W. -/
def LitAt (W : World) (b : Nat) (e : TypeId) : Prop := W.heap[b]? = some (.cells #[] e)
theorem lit_new (W : World) (e : TypeId) : LitAt (W.alloc (.cells #[] e)) W.heap.size e := heap_alloc_new _ _
theorem lit_new1 (W : World) (o : Obj) (e : TypeId) : LitAt ((W.alloc o).alloc (.cells #[] e)) (W.heap.size + 1) e := by
  have := heap_alloc_new (W.alloc o) (.cells #[] e)
  rw [alloc_size] at this
  exact this
theorem lit_new2 (W : World) (o o' : Obj) (e : TypeId) : LitAt (((W.alloc o).alloc o').alloc (.cells #[] e)) (W.heap.size + 1 + 1) e := by
  have := heap_alloc_new ((W.alloc o).alloc o') (.cells #[] e)
  rw [alloc_size, alloc_size] at this
  exact this
theorem lit_old {e : TypeId} (h : LitAt W b e) : LitAt (W.alloc o) b e := ((r_new W o).block b (Array.getElem?_eq_some_iff.1 h).1).trans h
theorem lit_drew {e : TypeId} (h : LitAt W b e) : LitAt W.drew b e := h
theorem lit_step {e : TypeId} (k : Hid (Below W.heap.size W z)) (h : LitAt W b e) : LitAt z b e := (k.out.block b (Array.getElem?_eq_some_iff.1 h).1).trans h
theorem bl_refl (B : Nat) (W : World) : Below B W W := Below.refl _ _
theorem bl_alloc (h : Below w.heap.size w W) : Below w.heap.size w (W.alloc o) := h.alloc h.size o
theorem bl_drew (h : Below w.heap.size w W) : Below w.heap.size w W.drew := below_drew h
theorem bl_step (k : Hid (Below W.heap.size W z)) (h : Below w.heap.size w W) : Below w.heap.size w z := h.trans (k.out.mono h.size)
theorem bl_size (h : Below w.heap.size w W) : w.heap.size ≤ W.heap.size := h.size
theorem bl_size1 (h : Below w.heap.size w W) : w.heap.size ≤ W.heap.size + 1 := Nat.le_succ_of_le h.size
theorem bl_size2 (h : Below w.heap.size w W) : w.heap.size ≤ W.heap.size + 1 + 1 := Nat.le_succ_of_le (Nat.le_succ_of_le h.size)
end
theorem run_lit {w : World} {gb base : Nat} {ts e ty : TypeId} {i : TypeInfo} {z : Value} {size bytes : Nat} (ht : Try.prog.underlying ts = some (.slice e)) (hi : Try.prog.info? e = some i) (hz : i.zero = some z) (hsize : i.size = size) (hby : i.bytes = bytes) (hzs : z.cells.size = size) (hsz : 0 < size)
    (hlit : LitAt w gb e) (hgb : base ≤ gb) (xa : Option Addr) (xb xo m c : Nat) (news : List Value) (hl : news.length = m * size) (hx : 0 < m → xa = some ⟨xb, xo, none⟩) (hnews : ∀ j u, news[j]? = some u → w.cell? ⟨xb, xo + j, none⟩ = some u) (h1 : ∀ u ∈ news, u.oneCell' = true)
    (hmx : m ≤ 100000000) (hbytes : bytes ≤ 64) :
    ∃ v' w', (Builtin.append_ #[ts, ts] ty #[.slice (some ⟨gb, 0, none⟩) 0 0, .slice xa m c]).run Try.prog w = .ok v' w' ∧ w'.ownsRow base e size v' m news ∧ Below w.heap.size w w' := by
  have hlt : gb < w.heap.size := (Array.getElem?_eq_some_iff.1 hlit).1
  have hown : w.ownsRow base e size (.slice (some ⟨gb, 0, none⟩) 0 0) 0 [] := ⟨by simp, .inr ⟨gb, 0, #[], rfl, hgb, hlit, Nat.le_refl _, by unfold maxLen; omega, by simp, by simp⟩⟩
  cases Nat.eq_zero_or_pos m with
  | inl h0 =>
    subst h0
    obtain rfl : news = [] := List.eq_nil_of_length_eq_zero (by simpa using hl)
    refine ⟨.slice (some ⟨gb, 0, none⟩) 0 0, w, ?_, hown, Below.refl _ _⟩
    cases xa <;> simp [Builtin.append_, run_underlying ht, sizeOf, typeInfo, hi, Builtin.lenOf, Builtin.firstCells, loadCells, loadCellsFrom, storeCells]
  | inr hp =>
    obtain rfl := hx hp
    have hc : ∀ j u, news[j]? = some u → w.cell? ((⟨xb, xo, none⟩ : Addr).add j) = some u := fun j u hj => by
      rw [show (⟨xb, xo, none⟩ : Addr).add j = ⟨xb, xo + j, none⟩ from by unfold Addr.add; split <;> simp_all]
      exact hnews j u hj
    obtain ⟨v', w', hr, h2, h3, _⟩ := app_same w ty i z bytes ht hi hz hsize hby hzs hsz hown ⟨xb, xo, none⟩ m c news hl hc h1 (by unfold maxLen; omega) (by rw [Nat.zero_add]; exact Nat.le_trans (Nat.mul_le_mul hmx hbytes) (by decide)) (by omega)
    rw [Nat.zero_add, List.nil_append] at h2
    subst hsize hby
    have hr2 := run_append_grow (P := Try.prog) w ts ty e i z ht hi hz ⟨gb, 0, none⟩ 0 0 [] (by simp) (fun j v hj => by simp at hj) ⟨xb, xo, none⟩ m c news hl hc (by omega) (by omega) (growslice_fits (by omega) (by rw [Nat.zero_add]; exact Nat.le_trans (Nat.mul_le_mul hmx hbytes) (by decide)))
    rw [hr2] at hr
    injection hr with e1 e2
    subst e1 e2
    exact ⟨_, _, hr2, h2, below_behind (r_new w.drew _)⟩
section
variable {w : World} {ops : Array Oper} {o : Oper} {a : Act} {Q : Exit → Act → World → Prop}
theorem step_lit_strs {K : Act → World → Prop} {E : Prop} (hgd : o.guard = none) (s x : Operand) (ho : o.op = .call { callee := .builtin .append, args := #[s, x], argTypes := #[50, 50] }) {gb base : Nat} (hs : a.eval s = .slice (some ⟨gb, 0, none⟩) 0 0)
    (hlit : LitAt w gb 9) (hgb : base ≤ gb) (xa : Option Addr) (xb xo m c : Nat) (hx : a.eval x = .slice xa m c) (L : List (List UInt8)) (hL : L.length = m) (hxa : 0 < m → xa = some ⟨xb, xo, none⟩) (hnews : ∀ j u, (rs L)[j]? = some u → w.cell? ⟨xb, xo + j, none⟩ = some u) (hmx : m ≤ 100000000)
    (h : ∀ v' w', Hid (w'.ownsRow base 9 1 v' m (rs L)) → Hid (Below w.heap.size w w') → K (a.put o.dst v') w') : if Region.wanted o (yielded ops a.tmps) = true then Oper.wp Try.prog o a w K Q else E := by
  have hw : Region.wanted o (yielded ops a.tmps) = true := by simp [Region.wanted, hgd]
  rw [if_pos hw]
  obtain ⟨i0, hi, hz0, hz1, hz2⟩ := info_parts infoS5
  obtain ⟨v', w', hr, h2, h3⟩ := run_lit (ty := o.type) (size := 1) Try.underlying50 hi hz0 hz1 hz2 rfl (by omega) hlit hgb xa xb xo m c (rs L) (by rw [rs_length, hL, Nat.mul_one]) hxa hnews (rs_cells _) hmx (by omega)
  unfold Oper.wp execOp
  simp only [ho, resolve, invoke, builtin, Sem.run_bind, Sem.run_pure, Result.andThen_ok, List.map_toArray, List.map_cons, List.map_nil, hs, hx, hr]
  exact h v' w' h2 h3
theorem step_lit_ints {K : Act → World → Prop} {E : Prop} (hgd : o.guard = none) (s x : Operand) (ho : o.op = .call { callee := .builtin .append, args := #[s, x], argTypes := #[30, 30] }) {gb base : Nat} (hs : a.eval s = .slice (some ⟨gb, 0, none⟩) 0 0)
    (hlit : LitAt w gb 3) (hgb : base ≤ gb) (xa : Option Addr) (xb xo m c : Nat) (hx : a.eval x = .slice xa m c) (L : List Int) (hL : L.length = m) (hxa : 0 < m → xa = some ⟨xb, xo, none⟩) (hnews : ∀ j u, (iv L)[j]? = some u → w.cell? ⟨xb, xo + j, none⟩ = some u) (hmx : m ≤ 100000000)
    (h : ∀ v' w', Hid (w'.ownsRow base 3 1 v' m (iv L)) → Hid (Below w.heap.size w w') → K (a.put o.dst v') w') : if Region.wanted o (yielded ops a.tmps) = true then Oper.wp Try.prog o a w K Q else E := by
  have hw : Region.wanted o (yielded ops a.tmps) = true := by simp [Region.wanted, hgd]
  rw [if_pos hw]
  obtain ⟨i0, hi, hz0, hz1, hz2⟩ := info_parts infoI
  obtain ⟨v', w', hr, h2, h3⟩ := run_lit (ty := o.type) (size := 1) Try.underlying30 hi hz0 hz1 hz2 rfl (by omega) hlit hgb xa xb xo m c (iv L) (by rw [iv_length, hL, Nat.mul_one]) hxa hnews (iv_cells _) hmx (by omega)
  unfold Oper.wp execOp
  simp only [ho, resolve, invoke, builtin, Sem.run_bind, Sem.run_pure, Result.andThen_ok, List.map_toArray, List.map_cons, List.map_nil, hs, hx, hr]
  exact h v' w' h2 h3
theorem step_lit_pieces {K : Act → World → Prop} {E : Prop} (hgd : o.guard = none) (s x : Operand) (ho : o.op = .call { callee := .builtin .append, args := #[s, x], argTypes := #[51, 51] }) {gb base : Nat} (hs : a.eval s = .slice (some ⟨gb, 0, none⟩) 0 0)
    (hlit : LitAt w gb 71) (hgb : base ≤ gb) (xa : Option Addr) (xb xo m c : Nat) (hx : a.eval x = .slice xa m c) (L : List Dk.Piece) (hL : L.length = m) (hxa : 0 < m → xa = some ⟨xb, xo, none⟩) (hnews : ∀ j u, (pv L)[j]? = some u → w.cell? ⟨xb, xo + j, none⟩ = some u) (hmx : m ≤ 100000000)
    (h : ∀ v' w', Hid (w'.ownsRow base 71 3 v' m (pv L)) → Hid (Below w.heap.size w w') → K (a.put o.dst v') w') : if Region.wanted o (yielded ops a.tmps) = true then Oper.wp Try.prog o a w K Q else E := by
  have hw : Region.wanted o (yielded ops a.tmps) = true := by simp [Region.wanted, hgd]
  rw [if_pos hw]
  obtain ⟨i0, hi, hz0, hz1, hz2⟩ := info_parts infoQ5
  obtain ⟨v', w', hr, h2, h3⟩ := run_lit (ty := o.type) (size := 3) Try.underlying51 hi hz0 hz1 hz2 rfl (by omega) hlit hgb xa xb xo m c (pv L) (by rw [pv_length, hL]) hxa hnews (by intro u hu; obtain ⟨p, _, hp⟩ := List.mem_flatMap.1 hu; simp [pc] at hp; rcases hp with rfl | rfl | rfl <;> rfl) hmx (by omega)
  unfold Oper.wp execOp
  simp only [ho, resolve, invoke, builtin, Sem.run_bind, Sem.run_pure, Result.andThen_ok, List.map_toArray, List.map_cons, List.map_nil, hs, hx, hr]
  exact h v' w' h2 h3
end
theorem rcopy_end {w z8 z14 z32 : World} {g qm km : Nat} {D : Dk.Disk} {vl vq vk v8 v14 v32 : Value} (hv : RV w g vl vq vk D) (h8 : z8.ownsRow w.heap.size 9 1 v8 12 (rs (lasts D))) (b8 : Below z8.heap.size z8 z32)
    (h14 : z14.ownsRow w.heap.size 71 3 v14 qm (pv D.queue)) (hqm : D.queue.length = qm) (b14 : Below z14.heap.size z14 z32) (h32 : z32.ownsRow w.heap.size 3 1 v32 km (iv D.keep)) (hkm : D.keep.length = km) (hb : Below w.heap.size w z32) :
    ∃ c, Ending.returned (.pointer (some ⟨z32.heap.size, 0, none⟩)) = .returned (.pointer (some ⟨c, 0, none⟩)) ∧ RAt (z32.alloc (.cells #[v8, v14, .int .i64 D.lost, .bool D.down, .int .i64 D.armed, v32] 53)) c D ∧
      Below w.heap.size w (z32.alloc (.cells #[v8, v14, .int .i64 D.lost, .bool D.down, .int .i64 D.armed, v32] 53)) ∧ (∀ b, RFoot (z32.alloc (.cells #[v8, v14, .int .i64 D.lost, .bool D.down, .int .i64 D.armed, v32] 53)) c b → w.heap.size ≤ b) := by
  subst hqm hkm
  have hr : RV (z32.alloc (.cells #[v8, v14, .int .i64 D.lost, .bool D.down, .int .i64 D.armed, v32] 53)) z32.heap.size v8 v14 v32 D :=
    ⟨Blk.made z32 #[v8, v14, .int .i64 D.lost, .bool D.down, .int .i64 D.armed, v32] 53, own_base (r_below (r_below h8 b8) (r_new z32 _)), own_base (r_below (r_below h14 b14) (r_new z32 _)), own_base (r_below h32 (r_new z32 _)), hv.good⟩
  refine ⟨_, rfl, ⟨_, _, _, hr⟩, below_alloc hb (Nat.le_refl _) _, fun b hf => ?_⟩
  rcases hf with rfl | ⟨i, v, hi, hc, hv'⟩
  · exact hb.size
  · have hcs := hr.cells
    have : i = 0 ∨ i = 1 := by omega
    rcases this with rfl | rfl
    · rw [hcs.1] at hc
      injection hc with hc
      subst hc
      exact r_from h8 b hv'
    · rw [hcs.2.1] at hc
      injection hc with hc
      subst hc
      exact r_from h14 b hv'
set_option maxHeartbeats 8000000 in
set_option maxRecDepth 100000 in
theorem rcopy_any {w : World} {g : Nat} {D : Dk.Disk} (h : RAt w g D) (hq : D.queue.length ≤ 100000000) (hkl : D.keep.length ≤ 100000000) :
    Calls Try.prog 12 #[.pointer (some ⟨g, 0, none⟩)] w fun e w' => ∃ c, e = .returned (.pointer (some ⟨c, 0, none⟩)) ∧ RAt w' c D ∧ Below w.heap.size w w' ∧ (∀ b, RFoot w' c b → w.heap.size ≤ b) := by
  obtain ⟨vl, vq, vk, hv⟩ := h
  obtain ⟨lb, lc, rfl, _, hlc⟩ := hv.lshape
  obtain ⟨qa, qm, qc, rfl⟩ := own_slice hv.pend
  obtain ⟨ka, km, kc, rfl⟩ := own_slice hv.keep
  have KEEP := Lib.hid (fun (W : World) (hb : Below w.heap.size w W) =>
    show W.cell? ⟨g, 0, none⟩ = some (.slice (some ⟨lb, 0, none⟩) 12 lc) ∧ W.cell? ⟨g, 1, none⟩ = some (.slice qa qm qc) ∧ W.cell? ⟨g, 2, none⟩ = some (.int .i64 D.lost) ∧ W.cell? ⟨g, 3, none⟩ = some (.bool D.down) ∧ W.cell? ⟨g, 4, none⟩ = some (.int .i64 D.armed) ∧ W.cell? ⟨g, 5, none⟩ = some (.slice ka km kc) from (hv.below hb).cells)
  obtain ⟨qb, hqm, hqa, hqn⟩ : ∃ qb, D.queue.length = qm ∧ (0 < qm → qa = some ⟨qb, 0, none⟩) ∧ ∀ W, Below w.heap.size w W → ∀ j u, (pv D.queue)[j]? = some u → W.cell? ⟨qb, 0 + j, none⟩ = some u := by
    rcases hv.pend.2 with ⟨e, h0⟩ | ⟨gq, cap, cur, e, _⟩
    · injection e with e1 e2 e3
      have hnil : D.queue = [] := List.eq_nil_of_length_eq_zero h0
      exact ⟨0, by rw [h0, e2], fun hp => by omega, fun W _ j u hj => by rw [hnil] at hj; simp [pv] at hj⟩
    · injection e with e1 e2 e3
      refine ⟨gq, e2.symm, fun _ => e1, fun W hb j u hj => ?_⟩
      have h1 := (hv.below hb).pend.cells (g := gq) (by rw [e1]; rfl) j u hj
      rw [show (⟨gq, 0, none⟩ : Addr).add j = ⟨gq, j, none⟩ from by unfold Addr.add; split <;> simp_all] at h1
      rw [Nat.zero_add]
      exact h1
  obtain ⟨kb, hkm, hka, hkn⟩ : ∃ kb, D.keep.length = km ∧ (0 < km → ka = some ⟨kb, 0, none⟩) ∧ ∀ W, Below w.heap.size w W → ∀ j u, (iv D.keep)[j]? = some u → W.cell? ⟨kb, 0 + j, none⟩ = some u := by
    rcases hv.keep.2 with ⟨e, h0⟩ | ⟨gq, cap, cur, e, _⟩
    · injection e with e1 e2 e3
      have hnil : D.keep = [] := List.eq_nil_of_length_eq_zero h0
      exact ⟨0, by rw [h0, e2], fun hp => by omega, fun W _ j u hj => by rw [hnil] at hj; simp [iv] at hj⟩
    · injection e with e1 e2 e3
      refine ⟨gq, e2.symm, fun _ => e1, fun W hb j u hj => ?_⟩
      have h1 := (hv.below hb).keep.cells (g := gq) (by rw [e1]; rfl) j u hj
      rw [show (⟨gq, 0, none⟩ : Addr).add j = ⟨gq, j, none⟩ from by unfold Addr.add; split <;> simp_all] at h1
      rw [Nat.zero_add]
      exact h1
  have hln : ∀ W, Below w.heap.size w W → ∀ j u, (rs (lasts D))[j]? = some u → W.cell? ⟨lb, 0 + j, none⟩ = some u := by
    intro W hb j u hj
    have h1 := (hv.below hb).last.cells (g := lb) rfl j u hj
    rw [show (⟨lb, 0, none⟩ : Addr).add j = ⟨lb, j, none⟩ from by unfold Addr.add; split <;> simp_all] at h1
    rw [Nat.zero_add]
    exact h1
  have HQ := Lib.hid hqn
  have HK := Lib.hid hkn
  have HL := Lib.hid hln
  have HQA := Lib.hid hqa
  have HKA := Lib.hid hka
  have HQM := Lib.hid hqm
  have HKM := Lib.hid hkm
  have HV := Lib.hid hv
  have hq2 : qm ≤ 100000000 := by omega
  have hk2 : km ≤ 100000000 := by omega
  clear hv hlc hqn hkn hln hqa hka hqm hkm hq hkl
  go_enter Try.func12, Try.ntmps12
  go_wp2_with fail
  go_region_held3 (fun W => W.cell? ⟨g, 0, none⟩ = some (.slice (some ⟨lb, 0, none⟩) 12 lc) ∧ W.cell? ⟨g, 1, none⟩ = some (.slice qa qm qc) ∧ W.cell? ⟨g, 2, none⟩ = some (.int .i64 D.lost) ∧ W.cell? ⟨g, 3, none⟩ = some (.bool D.down) ∧ W.cell? ⟨g, 4, none⟩ = some (.int .i64 D.armed) ∧ W.cell? ⟨g, 5, none⟩ = some (.slice ka km kc)) ((refine KEEP.out _ ?_; (repeat' (first | with_reducible exact bl_refl _ _ | with_reducible refine bl_alloc ?_ | with_reducible refine bl_drew ?_ | with_reducible refine bl_step (by assumption) ?_)))) ((first
    | (refine step_lit_strs rfl (.tmp 3) (.tmp 7) rfl rfl ?cA (base := w.heap.size) ?cB (some ⟨lb, 0, none⟩) lb 0 12 lc rfl (lasts D) (lasts_length D) (fun _ => rfl) (HL.out _ ?cC) (by decide) ?_; (case cA => (repeat' (first | with_reducible exact lit_new _ _ | with_reducible exact lit_new1 _ _ _ | with_reducible exact lit_new2 _ _ _ _ | with_reducible refine lit_old ?_ | with_reducible refine lit_drew ?_ | with_reducible refine lit_step (by assumption) ?_))); (case cB => ((first | with_reducible refine bl_size ?_ | with_reducible refine bl_size1 ?_ | with_reducible refine bl_size2 ?_); (repeat' (first | with_reducible exact bl_refl _ _ | with_reducible refine bl_alloc ?_ | with_reducible refine bl_drew ?_ | with_reducible refine bl_step (by assumption) ?_)))); (case cC => (repeat' (first | with_reducible exact bl_refl _ _ | with_reducible refine bl_alloc ?_ | with_reducible refine bl_drew ?_ | with_reducible refine bl_step (by assumption) ?_))); intro v8 z8 ho8 hb8; obtain ⟨x8a, x8n, x8c, e8⟩ := own_slice ho8.out; subst e8)
    | (refine step_lit_pieces rfl (.tmp 9) (.tmp 13) rfl rfl ?cA (base := w.heap.size) ?cB qa qb 0 qm qc rfl D.queue HQM.out HQA.out (HQ.out _ ?cC) hq2 ?_; (case cA => (repeat' (first | with_reducible exact lit_new _ _ | with_reducible exact lit_new1 _ _ _ | with_reducible exact lit_new2 _ _ _ _ | with_reducible refine lit_old ?_ | with_reducible refine lit_drew ?_ | with_reducible refine lit_step (by assumption) ?_))); (case cB => ((first | with_reducible refine bl_size ?_ | with_reducible refine bl_size1 ?_ | with_reducible refine bl_size2 ?_); (repeat' (first | with_reducible exact bl_refl _ _ | with_reducible refine bl_alloc ?_ | with_reducible refine bl_drew ?_ | with_reducible refine bl_step (by assumption) ?_)))); (case cC => (repeat' (first | with_reducible exact bl_refl _ _ | with_reducible refine bl_alloc ?_ | with_reducible refine bl_drew ?_ | with_reducible refine bl_step (by assumption) ?_))); intro v14 z14 ho14 hb14; obtain ⟨x14a, x14n, x14c, e14⟩ := own_slice ho14.out; subst e14)
    | (refine step_lit_ints rfl (.tmp 27) (.tmp 31) rfl rfl ?cA (base := w.heap.size) ?cB ka kb 0 km kc rfl D.keep HKM.out HKA.out (HK.out _ ?cC) hk2 ?_; (case cA => (repeat' (first | with_reducible exact lit_new _ _ | with_reducible exact lit_new1 _ _ _ | with_reducible exact lit_new2 _ _ _ _ | with_reducible refine lit_old ?_ | with_reducible refine lit_drew ?_ | with_reducible refine lit_step (by assumption) ?_))); (case cB => ((first | with_reducible refine bl_size ?_ | with_reducible refine bl_size1 ?_ | with_reducible refine bl_size2 ?_); (repeat' (first | with_reducible exact bl_refl _ _ | with_reducible refine bl_alloc ?_ | with_reducible refine bl_drew ?_ | with_reducible refine bl_step (by assumption) ?_)))); (case cC => (repeat' (first | with_reducible exact bl_refl _ _ | with_reducible refine bl_alloc ?_ | with_reducible refine bl_drew ?_ | with_reducible refine bl_step (by assumption) ?_))); intro v32 z32 ho32 hb32; obtain ⟨x32a, x32n, x32c, e32⟩ := own_slice ho32.out; subst e32)
    | fail))
  all_goals
    go_wp2
    go_ret
    exact rcopy_end HV.out ho8.out (by (repeat' (first | with_reducible exact bl_refl _ _ | with_reducible refine bl_alloc ?_ | with_reducible refine bl_drew ?_ | with_reducible refine bl_step (by assumption) ?_))) ho14.out HQM.out (by (repeat' (first | with_reducible exact bl_refl _ _ | with_reducible refine bl_alloc ?_ | with_reducible refine bl_drew ?_ | with_reducible refine bl_step (by assumption) ?_))) ho32.out HKM.out (by (repeat' (first | with_reducible exact bl_refl _ _ | with_reducible refine bl_alloc ?_ | with_reducible refine bl_drew ?_ | with_reducible refine bl_step (by assumption) ?_)))
end Go.Proofs.Ytbelmadbjiiodaa
