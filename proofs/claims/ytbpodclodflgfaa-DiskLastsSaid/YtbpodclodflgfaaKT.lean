/-
  Copy.
-/
import Derived.Test.YtbpodclodflgfaaKL
namespace Go.Proofs.Ytbpodclodflgfaa
open Go Go.RowKit
theorem DiskV.dup {w w' : World} {g : Nat} {vs : Nat → Value} {q k : Value} {D : Dk.Disk} (h : DiskV w g vs q k D) (hb : Below w.heap.size w w') {c : Nat} (hc : Blk w' c 56 (dcells vs q k D)) : DiskV w' c vs q k D :=
  ⟨hc, (h.below hb).file, (h.below hb).pend, (h.below hb).keep, h.apart, h.good, h.kone⟩
theorem upd_same (vs : Nat → Value) (f : Nat) (v : Value) : upd vs f v f = v := by unfold upd; rw [if_pos rfl]
theorem upd_other (vs : Nat → Value) {f i : Nat} (v : Value) (h : i ≠ f) : upd vs f v i = vs i := by unfold upd; rw [if_neg h]
theorem below_to {B : Nat} {a w w' : World} (h : Below B a w) (hB : B ≤ a.heap.size) (k : Below w.heap.size w w') : Below B a w' := h.trans (k.mono (Nat.le_trans hB h.size))
theorem grown_of_below {w w' : World} (h : Below w.heap.size w w') (r : Option Nat) : w.grownBy w' r := ⟨h.os, h.tape, h.output, h.size, fun i hi _ => h.block i hi⟩
theorem infoD : (Try.prog.info? 56).map (·.size) = some 17 := by kernel_rfl
def dzero : List Value := [.slice none 0 0, .slice none 0 0, .slice none 0 0, .slice none 0 0, .slice none 0 0, .slice none 0 0, .slice none 0 0, .slice none 0 0, .slice none 0 0, .slice none 0 0, .slice none 0 0, .slice none 0 0, .slice none 0 0, .bool false, .int .i64 0, .int .i64 0, .slice none 0 0]
set_option maxHeartbeats 2000000 in
set_option maxRecDepth 100000 in
theorem copy_any (g : Nat) (D : Dk.Disk) (w : World) (hD : DiskAt w g D) :
    Calls Try.prog 11 #[.pointer (some ⟨g, 0, none⟩)] w fun e w' => e = .returned (.pointer (some ⟨w.heap.size, 0, none⟩)) ∧ DiskAt w' w.heap.size D ∧ Below w.heap.size w w' ∧ (∀ b, Foot w' w.heap.size b → w.heap.size ≤ b) := by
  obtain ⟨vs, q, k, h⟩ := hD
  obtain ⟨a12, b12, c12, e12⟩ := own_slice h.pend
  subst e12
  have hlt := h.lt
  have hne : g ≠ w.heap.size := by omega
  have hne' : w.heap.size ≠ g := by omega
  obtain ⟨C, hC⟩ : ∃ C, dcells vs (.slice a12 b12 c12) k D = C := ⟨_, rfl⟩
  have HC := Lib.hid hC
  have HBK := Lib.hid (show w.heap[g]? = some (.cells C.toArray 56 (0, 0)) from by rw [← hC]; exact h.blk)
  have HCL := Lib.hid (show C.length = 17 from by rw [← hC]; rfl)
  have HONE := Lib.hid (show C.toArray.all (·.oneCell') = true from by
    rw [← hC]
    obtain ⟨_, _, _, e0⟩ := own_slice (h.file 0 (by omega))
    obtain ⟨_, _, _, e1⟩ := own_slice (h.file 1 (by omega))
    obtain ⟨_, _, _, e2⟩ := own_slice (h.file 2 (by omega))
    obtain ⟨_, _, _, e3⟩ := own_slice (h.file 3 (by omega))
    obtain ⟨_, _, _, e4⟩ := own_slice (h.file 4 (by omega))
    obtain ⟨_, _, _, e5⟩ := own_slice (h.file 5 (by omega))
    obtain ⟨_, _, _, e6⟩ := own_slice (h.file 6 (by omega))
    obtain ⟨_, _, _, e7⟩ := own_slice (h.file 7 (by omega))
    obtain ⟨_, _, _, e8⟩ := own_slice (h.file 8 (by omega))
    obtain ⟨_, _, _, e9⟩ := own_slice (h.file 9 (by omega))
    obtain ⟨_, _, _, e10⟩ := own_slice (h.file 10 (by omega))
    obtain ⟨_, _, _, e11⟩ := own_slice (h.file 11 (by omega))
    have hk := h.kone
    unfold dcells
    rw [e0, e1, e2, e3, e4, e5, e6, e7, e8, e9, e10, e11]
    simp [Value.oneCell'] at hk ⊢
    exact hk)
  have H := Lib.hid h
  clear h hC
  go_enter Try.func11, Try.ntmps11
  go_wp2_with (first | (refine wpList_load_row rfl _ (.tmp 6) rfl g rfl 56 C.toArray (0, 0) _ HBK.out Try.underlying56 rfl (by rw [infoD]; simp [HCL.out]) ?_) | (refine wpList_store_row rfl _ (.tmp 3) (.tmp 7) rfl w.heap.size C.toArray rfl rfl 56 dzero.toArray (Blk.made w dzero.toArray 56) (by rw [infoD]; simp [HCL.out]) (by simp [HCL.out]; rfl) HONE.out ?_))
  go_loopw [4, 8] (fun x4 i wr => ∃ (j : Nat) (vs' : Nat → Value), i = .int .i64 j ∧ j ≤ 12 ∧ Hid (DiskV wr w.heap.size vs' (.slice a12 b12 c12) k D) ∧ Hid (Below w.heap.size w wr) ∧ Hid (∀ f, f < j → ∀ x, (vs' f).ownBlock = some x → w.heap.size ≤ x)) (fun _ i _ => 12 - (intOf i).toNat)
  case atStart =>
    have hb : Below w.heap.size w ((w.alloc (.cells dzero.toArray 56)).setRow w.heap.size C.toArray) := below_setRow (below_new w _) (Nat.le_refl _) _
    exact ⟨0, vs, rfl, by omega, H.out.dup hb (by rw [HC.out]; exact setRow_heap _ _ _ _ _ _ (Blk.made w dzero.toArray 56)), hb, fun f hf => by omega⟩
  case round =>
    obtain ⟨j, vs1, rfl, hj, hD, hB, hF⟩ := hrel
    by_cases hlt2 : j < 12
    · have h1 := hD.out
      have cj := h1.cfile j hlt2
      have fj := h1.blk.free j
      obtain ⟨V, hV⟩ : ∃ V, vs1 j = V := ⟨_, rfl⟩
      have CL := Lib.hid (cloneB_sf (vs1 j) (D.last j) wr (h1.file j hlt2) (Nat.le_trans (h1.good.len j hlt2) (by omega)))
      have KEY := Lib.hid (fun (w2 : World) (v2 : Value) (ho : w2.ownsRow wr.heap.size 5 1 v2 (D.last j).length (bv (D.last j))) (hb : Below wr.heap.size wr w2) (hs : SF wr (vs1 j) v2) =>
        show Hid (DiskV (w2.setCell ⟨w.heap.size, j, none⟩ v2) w.heap.size (upd vs1 j v2) (.slice a12 b12 c12) k D) ∧ Hid (Below w.heap.size w (w2.setCell ⟨w.heap.size, j, none⟩ v2)) ∧ Hid (∀ f, f < j + 1 → ∀ x, (upd vs1 j v2 f).ownBlock = some x → w.heap.size ≤ x) ∧ w2.cell? ⟨w.heap.size, j, none⟩ = some V ∧ w2.frozen? ⟨w.heap.size, j, none⟩ = false ∧ ∃ pa n c, v2 = .slice pa n c from by
          obtain ⟨x, y⟩ := h1.setFile hlt2 (grown_of_below hb _) (own_base ho) hs (h1.good.len j hlt2)
          rw [Dk.setLast_self] at x
          have h2 := h1.below hb
          refine ⟨x, (below_to hB.out (Nat.le_refl _) hb).setCell (p := ⟨w.heap.size, j, none⟩) (Nat.le_refl _) v2, fun f hf z hz => ?_, by rw [← hV]; exact h2.cfile j hlt2, h2.blk.free j, own_slice ho⟩
          by_cases hfj : f = j
          · rw [hfj, upd_same] at hz
            exact Nat.le_trans hB.out.size (World.ownsRow.lt ho z hz).1
          · rw [upd_other vs1 v2 hfj] at hz
            exact hF.out f (by omega) z hz)
      rw [hV] at cj CL KEY
      clear h1 hV
      go_wp2_with (go_at_call 33; refine CL.out.mono ?_; rintro _ w2 ⟨v2, rfl, ho, hb, hs⟩; obtain ⟨HD2, HB2, HF2, cc, ff, pa, nn, cp, hv2⟩ := KEY.out w2 v2 ho hb hs; subst hv2; clear ho hb hs)
      go_roundw
      case rel => exact ⟨j + 1, _, by go_num, by omega, HD2, HB2, HF2⟩
      case measure => simp [intOf]; omega
    · obtain rfl : j = 12 := by omega
      have h1 := hD.out
      have cq12 := h1.cq
      have f12 := h1.blk.free 12
      have CL := Lib.hid (cloneP_sf (.slice a12 b12 c12) D.queue wr h1.pend (Nat.le_trans h1.good.q (by omega)))
      have KEY := Lib.hid (fun (w2 : World) (v2 : Value) (ho : w2.ownsRow wr.heap.size 63 3 v2 D.queue.length (pv D.queue)) (hb : Below wr.heap.size wr w2) =>
        show Hid (DiskAt (w2.setCell ⟨w.heap.size, 12, none⟩ v2) w.heap.size D ∧ Below w.heap.size w (w2.setCell ⟨w.heap.size, 12, none⟩ v2) ∧ ∀ b, Foot (w2.setCell ⟨w.heap.size, 12, none⟩ v2) w.heap.size b → w.heap.size ≤ b) ∧ w2.cell? ⟨w.heap.size, 12, none⟩ = some (.slice a12 b12 c12) ∧ w2.frozen? ⟨w.heap.size, 12, none⟩ = false ∧ ∃ pa n c, v2 = .slice pa n c from by
          obtain ⟨x, y⟩ := h1.setQ (grown_of_below hb _) (own_base ho) (fun z hz => .inr (World.ownsRow.lt ho z hz).1) h1.good.pcs h1.good.q
          have h2 := h1.below hb
          refine ⟨⟨⟨_, _, _, x⟩, (below_to hB.out (Nat.le_refl _) hb).setCell (p := ⟨w.heap.size, 12, none⟩) (Nat.le_refl _) v2, x.foot_ge (Nat.le_refl _) (fun f hf z hz => hF.out f hf z hz) (fun z hz => Nat.le_trans hB.out.size (World.ownsRow.lt ho z hz).1)⟩, h2.cq, h2.blk.free 12, own_slice ho⟩)
      clear h1
      go_wp2_with (go_at_call 34; refine CL.out.mono ?_; rintro _ w2 ⟨v2, rfl, ho, hb, hs⟩; obtain ⟨HD2, cc, ff, pa, nn, cp, hv2⟩ := KEY.out w2 v2 ho hb; subst hv2; clear ho hb hs)
      go_ret
      exact ⟨rfl, HD2.out.1, HD2.out.2.1, HD2.out.2.2⟩
end Go.Proofs.Ytbpodclodflgfaa
