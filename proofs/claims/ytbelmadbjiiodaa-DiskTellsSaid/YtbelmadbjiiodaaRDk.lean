/-
  The reference's Flush; a file is written, the queue is written.
-/
import Derived.Test.YtbelmadbjiiodaaRDj
namespace Go.Proofs.Ytbelmadbjiiodaa
open Go Go.RowKit
theorem RV.lastset {w : World} {g lb lc : Nat} {vq vk : Value} {D : Dk.Disk} (h : RV w g (.slice (some ⟨lb, 0, none⟩) 12 lc) vq vk D) (f : Nat) (hf : f < 12) (s : List UInt8) (hs : s.length ≤ 16777216) :
    w.cell? ⟨g, 0, none⟩ = some (.slice (some ⟨lb, 0, none⟩) 12 lc) ∧ w.cell? ⟨lb, f, none⟩ = some (.string (enc (D.last f))) ∧ w.frozen? ⟨lb, f, none⟩ = false ∧
    RV (w.setCell ⟨lb, f, none⟩ (.string (enc s))) g (.slice (some ⟨lb, 0, none⟩) 12 lc) vq vk { D with last := Dk.setLast D.last f s } ∧ RMv g w (w.setCell ⟨lb, f, none⟩ (.string (enc s))) := by
  obtain ⟨lb', lc', hv, _, hc⟩ := h.lshape
  have hlb : lb' = lb := by injection hv with h1 _ _; injection h1 with h1; injection h1 with h1; exact h1.symm
  subst hlb
  obtain ⟨st, hg⟩ := h.last.stored f (.string (enc s))
  rw [lasts_set D f hf s] at st
  have hne : ∀ {t : TypeId} {sz n : Nat} {v : Value} {xs : List Value}, w.ownsRow 0 t sz v n xs → t ≠ 9 → (w.setCell ⟨lb', f, none⟩ (.string (enc s))).ownsRow 0 t sz v n xs := fun ho ht => own_same ho fun b hb => set_other w lb' f b _ (fun e => by
    rcases own_apart ho h.last ht with h1 | h1
    · rw [h1] at hb; cases hb
    · exact h1 (by rw [hb, e]; rfl))
  have hgl : g ≠ lb' := fun e => own_ne h.last h.blk (by decide) (by rw [e]; rfl)
  have hgs : (w.setCell ⟨lb', f, none⟩ (.string (enc s))).heap[g]? = w.heap[g]? := set_other w lb' f g _ hgl
  refine ⟨h.cells.1, hc f hf, h.last.frozenAt f, ⟨hgs.trans h.blk, st, hne h.pend (by decide), hne h.keep (by decide), ⟨fun i hi => ?_, h.good.pcs, h.good.q, h.good.lost0, h.good.lost1, h.good.armed0, h.good.armed1⟩⟩, ?_⟩
  · show (Dk.setLast D.last f s i).length ≤ _
    unfold Dk.setLast
    split
    · exact hs
    · exact h.good.len i hi
  · exact ⟨hg.os, hg.tape, hg.output, hg.size, fun b hb hn => set_other w lb' f b _ (fun e => hn (h.lfoot (by rw [e]; rfl))), fun b hb => .inl (rfoot_same hgs hb)⟩
theorem RV.setq {w w' : World} {g : Nat} {vl vq vk vq' : Value} {D : Dk.Disk} {Q : List Dk.Piece} (h : RV w g vl vq vk D) (hb : Below w.heap.size w w') (ho : w'.ownsRow w.heap.size 71 3 vq' Q.length (pv Q)) (hG : Dk.Good { D with queue := Q }) :
    w'.cell? ⟨g, 1, none⟩ = some vq ∧ w'.frozen? ⟨g, 1, none⟩ = false ∧ RAt (w'.setCell ⟨g, 1, none⟩ vq') g { D with queue := Q } ∧ RMv g w (w'.setCell ⟨g, 1, none⟩ vq') := by
  have h2 := h.below hb
  have hfr := r_from ho
  exact ⟨h2.cells.2.1, h2.blk.free 1, ⟨_, _, _, h2.put (D' := { D with queue := Q }) 1 vq' rfl h2.last (own_base ho) h2.keep hG⟩, (RMv.of_below hb h.lt).store h2.blk 1 vq' (fun x hx => .inr (.inr (hfr x hx)))⟩
theorem Dk.Good.less {D : Dk.Disk} (h : Dk.Good D) (f : Nat) : Dk.Good { D with queue := Dk.without D.queue f } :=
  ⟨h.len, fun p hp => h.pcs p ((List.mem_filter.1 hp).1), Nat.le_trans (List.length_filter_le _ _) h.q, h.lost0, h.lost1, h.armed0, h.armed1⟩
set_option maxHeartbeats 8000000 in
set_option maxRecDepth 100000 in
theorem rflush_any {w : World} {g : Nat} {D : Dk.Disk} (h : RAt w g D) (f : Int) (hq : D.queue.length ≤ 1000000) : Calls Try.prog 35 #[.pointer (some ⟨g, 0, none⟩), .int .i64 f] w fun e w' => e = .returned (.int .i64 (Dk.ec (Dk.flush D f).1)) ∧ RAt w' g (Dk.flush D f).2 ∧ RMv g w w' := by
  have CC := Lib.hid (rcomes_any h 0 0 ⟨#[]⟩ (by decide) (by decide) (by decide) (by show D.queue.length + 0 ≤ _; omega))
  have e0 : Dk.comes D (some (0, 0, (⟨#[]⟩ : ByteArray).data.toList)) = Dk.comes D none := Dk.comes_zero D
  rw [e0] at CC
  clear e0
  obtain ⟨R, hR⟩ : ∃ R, Dk.flush D f = R := ⟨_, rfl⟩
  rw [hR]
  unfold Dk.flush at hR
  obtain ⟨D1, hD1⟩ : ∃ x, Dk.comes D none = x := ⟨_, rfl⟩
  rw [hD1] at hR CC
  have CM := Lib.hid (fun (w1 : World) (hA : RAt w1 g D1) => rmay_any hA f)
  clear hD1 h
  unfold Dk.flushB at hR
  by_cases hm : Dk.may D1 f = .ok
  · rw [if_pos hm] at hR
    rw [hm] at CM
    obtain ⟨hfl0, hfl1⟩ := Dk.may_file_of hm
    obtain ⟨fn, rfl⟩ : ∃ n : Nat, f = (n : Int) := ⟨f.toNat, by omega⟩
    have hfn : fn < 12 := by omega
    have CELL := Lib.hid (fun (w1 : World) (hA : RAt w1 g D1) => show w1.cell? ⟨g, 2, none⟩ = some (.int .i64 D1.lost) from by obtain ⟨_, _, _, hv⟩ := hA; exact hv.cells.2.2.1)
    obtain ⟨n, hn⟩ : ∃ n, D1.lost = n := ⟨_, rfl⟩
    rw [hn] at hR CELL
    by_cases hl : 0 < n
    · rw [if_pos hl] at hR
      subst hR
      have SC := Lib.hid (fun (w1 : World) (hA : RAt w1 g D1) => show w1.frozen? ⟨g, 2, none⟩ = false ∧ n ≤ 9223372036854775807 ∧ RAt (w1.setCell ⟨g, 2, none⟩ (.int .i64 (n - 1))) g { D1 with lost := n - 1 } ∧ RMv g w1 (w1.setCell ⟨g, 2, none⟩ (.int .i64 (n - 1))) from by
        obtain ⟨_, _, _, hv⟩ := hA
        have := hv.good.lost1
        refine ⟨hv.blk.free 2, by omega, hv.scalar (D' := { D1 with lost := n - 1 }) 2 _ rfl rfl rfl rfl rfl ⟨hv.good.len, hv.good.pcs, hv.good.q, by show 0 ≤ n - 1; omega, by show n - 1 ≤ _; omega, hv.good.armed0, hv.good.armed1⟩⟩)
      clear hm
      go_enter Try.func35, Try.ntmps35
      go_wp2_with (first | (go_at_call 51; with_reducible refine CC.out.mono ?_; rintro _ w1 ⟨⟨v1, rfl⟩, hA1, hM1⟩; have k2 := CELL.out _ hA1; obtain ⟨kf, kn, ks1, ks2⟩ := SC.out _ hA1) | (go_at_call 44; with_reducible refine (CM.out _ hA1).mono ?_; rintro _ w2 ⟨rfl, rfl⟩))
      go_ret
      exact ⟨rfl, ks1, hM1.trans ks2⟩
    · rw [if_neg hl] at hR
      subst hR
      have hl2 : ¬ n > 0 := hl
      have CR := Lib.hid (fun (w1 : World) (hA : RAt w1 g D1) => rread_any hA fn hfn)
      clear hm
      go_enter Try.func35, Try.ntmps35
      go_wp2_with (first | (go_at_call 51; with_reducible refine CC.out.mono ?_; rintro _ w1 ⟨⟨v1, rfl⟩, hA1, hM1⟩; have k2 := CELL.out _ hA1) | (go_at_call 44; with_reducible refine (CM.out _ hA1).mono ?_; rintro _ w2 ⟨rfl, rfl⟩))
      obtain ⟨vl, vq, vk, hv⟩ := hA1
      obtain ⟨lb, lc, rfl, _, _⟩ := hv.lshape
      have c0 := hv.cells.1
      have hvd : RV w1.drew g (.slice (some ⟨lb, 0, none⟩) 12 lc) vq vk D1 := ⟨hv.blk, hv.last, hv.pend, hv.keep, hv.good⟩
      have CRD := Lib.hid (CR.out w1.drew ⟨_, _, _, hvd⟩)
      have KEY := Lib.hid (fun (w2 : World) (hb2 : Below w1.drew.heap.size w1.drew w2) => (hvd.below hb2).lastset fn hfn (Dk.read D1 fn) (hv.good.read fn hfn))
      have HB := Lib.hid (fun (w2 : World) (hb2 : Below w1.drew.heap.size w1.drew w2) => (RMv.of_below (below_behind hb2) hv.lt))
      clear hv hvd CC CM CR CELL
      go_region_with (go_at_call 42; with_reducible refine CRD.out.mono ?_; rintro _ w2 ⟨rfl, hb2⟩; obtain ⟨q0, q1, q2, q3, q4⟩ := KEY.out _ hb2)
      all_goals (have CWO := Lib.hid (rwithout_any ⟨_, _, _, q3⟩ fn); have SQ := Lib.hid (fun (w3 : World) (v3 : Value) hb ho => q3.setq (w' := w3) (vq' := v3) (Q := Dk.without D1.queue fn) hb ho (q3.good.less fn)); have MM := Lib.hid ((HB.out _ hb2).trans q4); clear q3 q4 hb2 KEY CRD HB)
      all_goals go_wp2_with (go_at_call 54; with_reducible refine CWO.out.mono ?_; rintro _ w3 ⟨v3, rfl, hb3, ho3⟩; obtain ⟨s1, s2, s3, s4⟩ := SQ.out w3 v3 hb3 ho3; obtain ⟨pa, pn, pcap, rfl⟩ := own_slice ho3; clear hb3 ho3)
      all_goals go_ret
      all_goals exact ⟨rfl, by rw [Int.toNat_natCast, ← hn]; exact s3, (hM1.trans MM.out).trans s4⟩
  · rw [if_neg hm] at hR
    obtain ⟨x, hx⟩ : ∃ x, Dk.ec (Dk.may D1 f) = x := ⟨_, rfl⟩
    have hne := Dk.ec_ne hm
    rw [hx] at CM hne
    obtain ⟨e1, e2⟩ := hne
    have HX : RowKit.Hid (x = Dk.ec R.1) := Lib.hid (by rw [← hx, ← hR])
    have HRR : RowKit.Hid (D1 = R.2) := Lib.hid (by rw [← hR])
    clear hm hx hR
    go_enter Try.func35, Try.ntmps35
    go_wp2_with (first | (go_at_call 51; with_reducible refine CC.out.mono ?_; rintro _ w1 ⟨⟨v1, rfl⟩, hA1, hM1⟩) | (go_at_call 44; with_reducible refine (CM.out _ hA1).mono ?_; rintro _ w2 ⟨rfl, rfl⟩))
    go_ret
    exact ⟨ret_int HX.out, by rw [← HRR.out]; exact hA1, hM1⟩
end Go.Proofs.Ytbelmadbjiiodaa
