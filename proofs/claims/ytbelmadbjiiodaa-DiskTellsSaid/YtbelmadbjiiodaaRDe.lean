/-
  The reference's disk: rows that grow; without.
-/
import Derived.Test.YtbelmadbjiiodaaRDd
namespace Go.Proofs.Ytbelmadbjiiodaa
open Go Go.RowKit
theorem r_below {w w' : World} {base : Nat} {e : TypeId} {sz : Nat} {v : Value} {n : Nat} {xs : List Value} (h : w.ownsRow base e sz v n xs) (hb : Below w.heap.size w w') : w'.ownsRow base e sz v n xs := by
  obtain ⟨h1, h | ⟨g, cap, cur, rfl, h2, hg, h3, h4, h5, h6⟩⟩ := h
  · exact ⟨h1, .inl h⟩
  · exact ⟨h1, .inr ⟨g, cap, cur, rfl, h2, (hb.block g (Array.getElem?_eq_some_iff.1 hg).1).trans hg, h3, h4, h5, h6⟩⟩
theorem r_grown {B : Nat} {w wr w1 : World} {r : Option Nat} (h : Below B w wr) (hB : B ≤ w.heap.size) (hg : wr.grownBy w1 r) (hr : ∀ b, r = some b → B ≤ b) : Below B w w1 :=
  ⟨hg.os.trans h.os, hg.tape.trans h.tape, hg.output.trans h.output, Nat.le_trans h.size hg.size, fun i hi => (hg.block i (Nat.lt_of_lt_of_le (Nat.lt_of_lt_of_le hi hB) h.size) (fun e => by have := hr i e.symm; omega)).trans (h.block i hi)⟩
theorem r_from {w : World} {base : Nat} {e : TypeId} {sz : Nat} {v : Value} {n : Nat} {xs : List Value} (h : w.ownsRow base e sz v n xs) : ∀ b, v.ownBlock = some b → base ≤ b := fun b hb => by
  obtain ⟨_, ⟨rfl, _⟩ | ⟨g, cap, cur, rfl, h2, _⟩⟩ := h
  · cases hb
  · injection hb with hb
    subst hb
    exact h2
theorem r_to {B : Nat} {a w w' : World} (h : Below B a w) (hB : B ≤ a.heap.size) (k : Below w.heap.size w w') : Below B a w' := h.trans (k.mono (Nat.le_trans hB h.size))
theorem r_new (w : World) (o : Obj) : Below w.heap.size w (w.alloc o) := Below.alloc (Below.refl _ _) (Nat.le_refl _) o
section
variable {w : World} {ops : Array Oper} {o : Oper} {a : Act} {Q : Exit → Act → World → Prop} {rest : List Oper}
theorem step_app_q {K : Act → World → Prop} {E : Prop} (hgd : o.guard = none) (s x : Operand) (ho : o.op = .call { callee := .builtin .append, args := #[s, x], argTypes := #[51, 51] })
    {v : Value} {L : List Dk.Piece} (base : Nat) (hs : a.eval s = v) (hown : w.ownsRow base 71 3 v L.length (pv L)) (ad : Addr) (c : Nat) (p : Dk.Piece) (hx : a.eval x = .slice (some ad) 1 c) (hnews : ∀ j u, (pc p)[j]? = some u → w.cell? (ad.add j) = some u) (hbig : L.length ≤ 1000000000) (hbase : base ≤ w.heap.size)
    (h : ∀ v' w', w'.ownsRow base 71 3 v' (L ++ [p]).length (pv (L ++ [p])) → w.grownBy w' v.ownBlock → SF w v v' → K (a.put o.dst v') w') : if Region.wanted o (yielded ops a.tmps) = true then Oper.wp Try.prog o a w K Q else E := by
  have hw : Region.wanted o (yielded ops a.tmps) = true := by simp [Region.wanted, hgd]
  rw [if_pos hw]
  obtain ⟨i0, hi, hz0, hz1, hz2⟩ := info_parts infoQ5
  obtain ⟨v', w', hr, h2, h3, h4⟩ := app_same w o.type i0 _ 32 Try.underlying51 hi hz0 hz1 hz2 rfl (by omega) hown ad 1 c (pc p) rfl hnews (by intro u hu; simp [pc] at hu; rcases hu with rfl | rfl | rfl <;> rfl) (by unfold maxLen; omega) (by omega) hbase
  unfold Oper.wp execOp
  simp only [ho, resolve, invoke, builtin, Sem.run_bind, Sem.run_pure, Result.andThen_ok, List.map_toArray, List.map_cons, List.map_nil, hs, hx, hr]
  refine h v' w' ?_ h3 h4
  have e : (L ++ [p]).length = L.length + 1 := by simp
  have e2 : pv (L ++ [p]) = pv L ++ pc p := by rw [pv_append]; simp [pv]
  rw [e, e2]
  exact h2
theorem wpList_app_q (hgd : o.guard = none) (s x : Operand) (ho : o.op = .call { callee := .builtin .append, args := #[s, x], argTypes := #[51, 51] })
    {v : Value} {L : List Dk.Piece} (base : Nat) (hs : a.eval s = v) (hown : w.ownsRow base 71 3 v L.length (pv L)) (ad : Addr) (c : Nat) (p : Dk.Piece) (hx : a.eval x = .slice (some ad) 1 c) (hnews : ∀ j u, (pc p)[j]? = some u → w.cell? (ad.add j) = some u) (hbig : L.length ≤ 1000000000) (hbase : base ≤ w.heap.size)
    (h : ∀ v' w', w'.ownsRow base 71 3 v' (L ++ [p]).length (pv (L ++ [p])) → w.grownBy w' v.ownBlock → SF w v v' → wpList Try.prog ops Q rest (a.put o.dst v') w') : wpList Try.prog ops Q (o :: rest) a w :=
  wpList_plain hgd fun _ hK => by
    have hst := step_app_q (ops := ops) (E := True) (Q := Q) (o := o) hgd s x ho base hs hown ad c p hx hnews hbig hbase (fun v' w' h1 h2 h3 => hK _ _ (h v' w' h1 h2 h3))
    rw [if_pos (by simp [Region.wanted, hgd])] at hst
    exact hst
theorem step_app_s {K : Act → World → Prop} {E : Prop} (hgd : o.guard = none) (s x : Operand) (ho : o.op = .call { callee := .builtin .append, args := #[s, x], argTypes := #[50, 50] })
    {v : Value} {L : List (List UInt8)} (base : Nat) (hs : a.eval s = v) (hown : w.ownsRow base 9 1 v L.length (rs L)) (ad : Addr) (c : Nat) (p : List UInt8) (hx : a.eval x = .slice (some ad) 1 c) (hnews : w.cell? ad = some (.string (enc p))) (hbig : L.length ≤ 1000000000) (hbase : base ≤ w.heap.size)
    (h : ∀ v' w', w'.ownsRow base 9 1 v' (L ++ [p]).length (rs (L ++ [p])) → w.grownBy w' v.ownBlock → SF w v v' → K (a.put o.dst v') w') : if Region.wanted o (yielded ops a.tmps) = true then Oper.wp Try.prog o a w K Q else E := by
  have hw : Region.wanted o (yielded ops a.tmps) = true := by simp [Region.wanted, hgd]
  rw [if_pos hw]
  obtain ⟨i0, hi, hz0, hz1, hz2⟩ := info_parts infoS5
  obtain ⟨v', w', hr, h2, h3, h4⟩ := app_same w o.type i0 _ 16 Try.underlying50 hi hz0 hz1 hz2 rfl (by omega) hown ad 1 c [.string (enc p)] rfl (by
    intro j u hu
    obtain rfl : j = 0 := by have := (List.getElem?_eq_some_iff.1 hu).1; simpa using this
    have h0 : ad.add 0 = ad := by unfold Addr.add; split <;> simp_all
    rw [h0, hnews]
    simpa using hu) (by intro u hu; simp at hu; subst hu; rfl) (by unfold maxLen; omega) (by omega) hbase
  unfold Oper.wp execOp
  simp only [ho, resolve, invoke, builtin, Sem.run_bind, Sem.run_pure, Result.andThen_ok, List.map_toArray, List.map_cons, List.map_nil, hs, hx, hr]
  refine h v' w' ?_ h3 h4
  have e : (L ++ [p]).length = L.length + 1 := by simp
  have e2 : rs (L ++ [p]) = rs L ++ [.string (enc p)] := by simp [rs]
  rw [e, e2]
  exact h2
theorem wpList_app_s (hgd : o.guard = none) (s x : Operand) (ho : o.op = .call { callee := .builtin .append, args := #[s, x], argTypes := #[50, 50] })
    {v : Value} {L : List (List UInt8)} (base : Nat) (hs : a.eval s = v) (hown : w.ownsRow base 9 1 v L.length (rs L)) (ad : Addr) (c : Nat) (p : List UInt8) (hx : a.eval x = .slice (some ad) 1 c) (hnews : w.cell? ad = some (.string (enc p))) (hbig : L.length ≤ 1000000000) (hbase : base ≤ w.heap.size)
    (h : ∀ v' w', w'.ownsRow base 9 1 v' (L ++ [p]).length (rs (L ++ [p])) → w.grownBy w' v.ownBlock → SF w v v' → wpList Try.prog ops Q rest (a.put o.dst v') w') : wpList Try.prog ops Q (o :: rest) a w :=
  wpList_plain hgd fun _ hK => by
    have hst := step_app_s (ops := ops) (E := True) (Q := Q) (o := o) hgd s x ho base hs hown ad c p hx hnews hbig hbase (fun v' w' h1 h2 h3 => hK _ _ (h v' w' h1 h2 h3))
    rw [if_pos (by simp [Region.wanted, hgd])] at hst
    exact hst
end
namespace Dk
theorem without_step (q : List Piece) (j : Nat) (p : Piece) (hp : q[j]? = some p) (f : Nat) : without (q.take (j + 1)) f = if p.f = f then without (q.take j) f else without (q.take j) f ++ [p] := by
  obtain ⟨hj, hp⟩ := List.getElem?_eq_some_iff.1 hp
  unfold without
  rw [List.take_succ_eq_append_getElem hj, hp, List.filter_append]
  by_cases h : p.f = f
  · rw [if_pos h]
    simp [h]
  · rw [if_neg h]
    simp [h]
end Dk
set_option maxHeartbeats 8000000 in
set_option maxRecDepth 100000 in
theorem rwithout_any {w : World} {g : Nat} {D : Dk.Disk} (h : RAt w g D) (f : Nat) : Calls Try.prog 54 #[.pointer (some ⟨g, 0, none⟩), .int .i64 f] w fun e w' => ∃ v', e = .returned v' ∧ Below w.heap.size w w' ∧ w'.ownsRow w.heap.size 71 3 v' (Dk.without D.queue f).length (pv (Dk.without D.queue f)) := by
  obtain ⟨vl, vq, vk, hv⟩ := h
  have c1 := hv.cells.2.1
  obtain ⟨qa, gq, qc, rfl, hqa, hql, hqc, hqs⟩ := hv.qshape
  have hgq := hv.good.q
  have HR := Lib.hid (show Dk.without D.queue f = Dk.without (D.queue.take D.queue.length) f from by rw [List.take_length])
  obtain ⟨m, hm⟩ : ∃ m, D.queue.length = m := ⟨_, rfl⟩
  rw [hm] at hqa hql HR c1 hgq
  have HM := Lib.hid hm
  have HA := Lib.hid hqa
  have HQ := Lib.hid hqs
  have KEEP := Lib.hid (fun (w1 : World) (hb : Below w.heap.size w w1) => show w1.cell? ⟨g, 1, none⟩ = some (.slice qa m qc) from (World.cell?_of_block (a := ⟨g, 1, none⟩) (hb.block g hv.lt)).trans c1)
  have HQB := Lib.hid (fun (hp : 0 < m) => show gq < w.heap.size from own_lt hv.pend (by rw [hqa hp]; rfl))
  clear hv hqa hqs hm
  go_enter Try.func54, Try.ntmps54
  go_wp2_with fail
  go_loopw [5, 6] (fun x5 i wr => ∃ j : Nat, i = .int .i64 j ∧ j ≤ m ∧ Hid (wr.ownsRow w.heap.size 71 3 x5 (Dk.without (D.queue.take j) f).length (pv (Dk.without (D.queue.take j) f))) ∧ Hid (Below w.heap.size w wr)) (fun _ i _ => m - (intOf i).toNat)
  case atStart => exact ⟨0, rfl, Nat.zero_le _, ⟨rfl, .inl ⟨rfl, rfl⟩⟩, Below.refl _ _⟩
  case round =>
    obtain ⟨j, rfl, hj, hO, hB⟩ := hrel
    have c1' := KEEP.out wr hB.out
    obtain ⟨pa, pn, pcap, rfl⟩ := own_slice hO.out
    clear c1
    by_cases hlt2 : j < m
    · obtain ⟨p, hp⟩ : ∃ p, D.queue[j]? = some p := ⟨_, List.getElem?_eq_getElem (by rw [HM.out]; exact hlt2)⟩
      obtain rfl := HA.out (by omega)
      obtain ⟨d0, d1, d2⟩ := HQ.out j p hp
      have tr : ∀ k, wr.cell? ⟨gq, k, none⟩ = w.cell? ⟨gq, k, none⟩ := fun k => World.cell?_of_block (a := ⟨gq, k, none⟩) (hB.out.block gq (HQB.out (by omega)))
      rw [← tr] at d0 d1 d2
      have hws := Dk.without_step D.queue j p hp f
      clear tr
      by_cases hpf : p.f = f
      · rw [if_pos hpf] at hws
        have HE := Lib.hid hws
        have b1 : ((p.f : Int) != (f : Int)) = false := by simp [hpf]
        clear hws hp
        go_wp2
        go_roundw
        case rel => exact ⟨j + 1, by go_num, by omega, by rw [HE.out]; exact hO.out, hB⟩
        case measure => simp [intOf]; omega
      · rw [if_neg hpf] at hws
        have HE := Lib.hid hws
        have b1 : ((p.f : Int) != (f : Int)) = true := by simp; omega
        have b2 : ¬ ((p.f : Int) = (f : Int)) := by omega
        have HOW := Lib.hid (fun o : Obj => r_below hO.out (r_new wr o))
        have HBW := Lib.hid (fun o : Obj => r_to hB.out (Nat.le_refl _) (r_new wr o))
        have hkk : (Dk.without (D.queue.take j) f).length ≤ 1000000 := Nat.le_trans (List.length_filter_le _ _) (by rw [List.length_take]; omega)
        have hsz : w.heap.size ≤ wr.heap.size + 1 := by have := hB.out.size; omega
        clear hws hp
        go_wp2_with (at_builtin; refine wpList_app_q rfl (.tmp 26) (.tmp 34) rfl w.heap.size rfl (HOW.out _) ⟨wr.heap.size, 0, none⟩ 1 p rfl (new_piece wr p _) (by omega) (by rw [alloc_size]; exact hsz) ?_; intro v1 w1 ho1 hg1 _; have HO1 := Lib.hid ho1; have HB1 := Lib.hid (r_grown (HBW.out _) (Nat.le_refl _) hg1 (r_from hO.out)); clear ho1 hg1)
        go_roundw
        case rel => exact ⟨j + 1, by go_num, by omega, by rw [HE.out]; exact HO1.out, HB1.out⟩
        case measure => simp [intOf]; omega
    · obtain rfl : j = m := by omega
      go_wp2
      go_ret
      exact ⟨_, rfl, hB.out, by rw [HR.out]; exact hO.out⟩
end Go.Proofs.Ytbelmadbjiiodaa
