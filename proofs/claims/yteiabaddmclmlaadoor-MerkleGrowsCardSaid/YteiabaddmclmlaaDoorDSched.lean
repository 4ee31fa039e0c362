/-
  schedule: the 64 words of a block.
-/
import Derived.Test.YteiabaddmclmlaaDoorDWord
import Derived.Deep.RegionHeld3
import Derived.Deep.WholeRow
import Derived.StillTailTactics
namespace Go.Proofs.YteiabaddmclmlaaDoor
open Go Go.RowKit Go.Shelf
theorem calls_turn (x : Dg.W32) (n : Nat) (k : Int) (h : k = n) (h1 : 1 ≤ n) (h2 : n ≤ 31) (w : World) :
    Calls Tryd.prog 73 #[.int .u32 x.toNat, .int .i64 k] w fun e w' => e = .returned (.int .u32 (Dg.ror x n).toNat) ∧ w = w' := by subst h; exact turn_any x n h1 h2 w
theorem calls_turnI (x : Dg.W32) (k : Int) (h1 : 1 ≤ k) (h2 : k ≤ 31) (w : World) :
    Calls Tryd.prog 73 #[.int .u32 x.toNat, .int .i64 k] w fun e w' => e = .returned (.int .u32 (Dg.ror x k.toNat).toNat) ∧ w = w' := calls_turn x k.toNat k (by omega) (by omega) (by omega) w
theorem calls_turnS (x : Dg.W32) (k : Int) (h1 : 1 ≤ k) (h2 : k ≤ 31) (w : World) :
    Calls Tryd.prog 73 #[.int .u32 x.toNat, .int .i64 k] w fun e w' => e = .returned (.int .u32 (Dg.ror x k.toNat).toNat) ∧ w' = w := (calls_turnI x k h1 h2 w).mono fun _ _ h => ⟨h.1, h.2.symm⟩
theorem info64w : (Tryd.prog.info? 71).map (·.size) = some 64 := by kernel_rfl
theorem wv_fill {n k : Nat} {A : List Dg.W32} (hA : A.length = k) (hk : k < n) (x : Dg.W32) : (wv (A ++ List.replicate (n - k) 0)).set k (.int .u32 (x.toNat : Int)) = wv ((A ++ [x]) ++ List.replicate (n - (k + 1)) 0) := by
  subst hA
  obtain ⟨m, hm⟩ : ∃ m, n - A.length = m + 1 := ⟨n - A.length - 1, by omega⟩
  rw [hm, show n - (A.length + 1) = m from by omega]
  unfold wv
  rw [List.map_append, List.set_append_right _ _ (by simp)]
  simp [List.replicate_succ]
theorem wv_rest {n k : Nat} {A : List Dg.W32} (hA : A.length = k) (hk : k < n) : (wv (A ++ List.replicate (n - k) 0))[k]? = some (.int .u32 0) := by
  rw [wv_at (by simp; omega)]
  subst hA
  simp only [List.getD_eq_getElem?_getD]
  rw [List.getElem?_append_right (Nat.le_refl _)]
  simp [show 0 < n - A.length from by omega]
theorem wv_first {A R : List Dg.W32} {j : Nat} (h : j < A.length) : (wv (A ++ R))[j]? = some (.int .u32 ((A.getD j 0).toNat : Int)) := by
  rw [wv_at (by simp; omega)]
  simp only [List.getD_eq_getElem?_getD]
  rw [List.getElem?_append_left h]
theorem shr3 (x : Dg.W32) : (x.toNat : Int) / (8 : Int) = ((x >>> 3).toNat : Int) := by rw [Dg.w_shr]; rfl
theorem shr10 (x : Dg.W32) : (x.toNat : Int) / (1024 : Int) = ((x >>> 10).toNat : Int) := by rw [Dg.w_shr]; rfl
theorem add4 (a b c d : Dg.W32) : ((a.toNat : Int) + (b.toNat : Int) + (c.toNat : Int) + (d.toNat : Int)) % (4294967296 : Int) = ((a + b + c + d).toNat : Int) := by
  rw [BitVec.toNat_add, BitVec.toNat_add, BitVec.toNat_add]
  omega
theorem ext_said (p q x y : Dg.W32) :
    ((p.toNat : Int) + bits .xor .u32 (bits .xor .u32 ((Dg.ror x 7).toNat : Int) ((Dg.ror x 18).toNat : Int)) ((x.toNat : Int) / (8 : Int)) + (q.toNat : Int) + bits .xor .u32 (bits .xor .u32 ((Dg.ror y 17).toNat : Int) ((Dg.ror y 19).toNat : Int)) ((y.toNat : Int) / (1024 : Int))) % (4294967296 : Int) =
      ((p + (Dg.ror x 7 ^^^ Dg.ror x 18 ^^^ (x >>> 3)) + q + (Dg.ror y 17 ^^^ Dg.ror y 19 ^^^ (y >>> 10))).toNat : Int) := by
  rw [shr3, shr10, Dg.w_xor, Dg.w_xor, Dg.w_xor, Dg.w_xor, add4]
theorem ext_eq (S : List Dg.W32) (k : Nat) : Dg.ext S k = S.getD (k - 16) 0 + (Dg.ror (S.getD (k - 15) 0) 7 ^^^ Dg.ror (S.getD (k - 15) 0) 18 ^^^ (S.getD (k - 15) 0 >>> 3)) + S.getD (k - 7) 0 + (Dg.ror (S.getD (k - 2) 0) 17 ^^^ Dg.ror (S.getD (k - 2) 0) 19 ^^^ (S.getD (k - 2) 0 >>> 10)) := rfl
theorem sched_next {l : List UInt8} {k : Nat} (h1 : 16 ≤ k) : Dg.sched (Dg.words l 16) (k + 1 - 16) = Dg.sched (Dg.words l 16) (k - 16) ++ [Dg.ext (Dg.sched (Dg.words l 16) (k - 16)) k] := by
  obtain ⟨n, rfl⟩ : ∃ n, k = 16 + n := ⟨k - 16, by omega⟩
  rw [show 16 + n + 1 - 16 = n + 1 from by omega, show 16 + n - 16 = n from by omega]
  rfl
theorem word_block {w : World} {g : Nat} {t : TypeId} {l : List UInt8} (hB : Blk w g t (bv l)) (hl : l.length = 64) (i : Nat) (hi : i < 16) :
    Calls Tryd.prog 81 #[.slice (some ⟨g, 4 * i, none⟩) (64 - 4 * i) (64 - 4 * i)] w fun e w' => e = .returned (.int .u32 (Dg.wordAt l i).toNat) ∧ ∃ k, w' = w.drewN k :=
  word_any _ _ _ _ g (4 * i) _ _ w (by omega) (hB.cell (bv_at (by omega))) (hB.cell (bv_at (by omega))) (hB.cell (bv_at (by omega))) (hB.cell (bv_at (by omega)))

theorem cut64 (g k : Nat) (w : World) (n : Int) (hn : n = (k : Int)) (hk : k < 64) : (Instr.sliceAt 51 (.pointer (some ⟨g, 0, none⟩)) (some (.int .i64 n)) none none).run Tryd.prog w = .ok (.slice (some ⟨g, k, none⟩) (64 - k) (64 - k)) w := by
  subst hn
  have ha : Tryd.prog.arrayLen 51 = 64 := by kernel_rfl
  have he : Tryd.prog.elem 51 = 5 := by kernel_rfl
  rw [run_sliceAt_array_l w _ ⟨g, 0, none⟩ (by rw [ha, he]; exact Tryd.underlying51) .i64 k (by omega) (by rw [ha]; omega), ha, he]
  have hs : (sizeOf 5).run Tryd.prog w = .ok 1 w := Tryd.sizeOf5 w
  rw [hs]
  simp [slicedAt, Result.andThen, show ¬ (64 : Nat) = k from by omega]
  unfold Addr.add
  split <;> simp_all
set_option maxHeartbeats 4000000 in
set_option maxRecDepth 100000 in
theorem schedule_any (l : List UInt8) (hl : l.length = 64) (g : Nat) (t : TypeId) (w : World) (hB : Blk w g t (bv l)) :
    Calls Tryd.prog 72 #[.pointer (some ⟨g, 0, none⟩)] w fun e w' => e = .returned (.agg (wv (Dg.W l)).toArray) ∧ Below w.heap.size w w' := by
  have HB := Lib.hid hB
  have hg := hB.lt
  clear hB
  go_enter Tryd.func72, Tryd.ntmps72
  go_wp2_with fail
  go_loopw [8] (fun i wr => ∃ k : Nat, i = .int .i64 k ∧ k ≤ 16 ∧ Hid (Blk wr (w.heap.size + 1) 71 (wv (Dg.words l k ++ List.replicate (64 - k) 0))) ∧ Hid (Blk wr w.heap.size 71 (wv (List.replicate 64 0))) ∧ Hid (Below w.heap.size w wr)) (fun i _ => 16 - (intOf i).toNat)
  case atStart =>
    refine ⟨0, rfl, by omega, ?_, ?_, ?_⟩
    · have := Blk.made (w.alloc (.cells (wv (List.replicate 64 0)).toArray 71)) (wv (List.replicate 64 0)).toArray 71
      rw [alloc_size] at this
      exact this
    · exact (Blk.made w (wv (List.replicate 64 0)).toArray 71).below (below_alloc (Below.refl _ _) (Nat.le_refl _) _)
    · exact below_alloc (below_alloc (Below.refl _ _) (Nat.le_refl _) _) (Nat.le_refl _) _
  case round =>
    obtain ⟨k, rfl, hk, h1, h2, h3⟩ := hrel
    by_cases hlt : k < 16
    · have HW := Lib.hid (word_block (HB.out.below h3.out) hl k hlt)
      have hcut := cut64 g (4 * k) wr (4 * (k : Int)) (by omega) (by omega)
      go_wp2_with fail
      refine HW.out.mono ?_
      rintro x w1 ⟨rfl, n1, rfl⟩
      have hc := h1.out.cell (wv_rest (Dg.words_length l k) (by omega))
      have hf := h1.out.free k
      go_wp2
      go_roundw
      case rel =>
        refine ⟨k + 1, by go_num, by omega, ?_, ?_, ?_⟩
        · have := (h1.out.drews n1).set k (.int .u32 ((Dg.wordAt l k).toNat : Int))
          rw [wv_fill (Dg.words_length l k) (by omega)] at this
          exact this
        · exact (h2.out.drews n1).other (Gr.set _ _ _) (by omega)
        · exact Gr.below_set (below_drewN h3.out n1) (by omega)
      case measure => simp [intOf]; omega
    · obtain rfl : k = 16 := by omega
      go_wp2_with fail
      have h4 : Hid (Blk wr (w.heap.size + 1) 71 (wv (Dg.sched (Dg.words l 16) 0 ++ List.replicate (64 - 16) 0))) := h1.out
      clear h1
      go_loopw [5] (fun i wr => ∃ k : Nat, i = .int .i64 k ∧ 16 ≤ k ∧ k ≤ 64 ∧ Hid (Blk wr (w.heap.size + 1) 71 (wv (Dg.sched (Dg.words l 16) (k - 16) ++ List.replicate (64 - k) 0))) ∧ Hid (Blk wr w.heap.size 71 (wv (List.replicate 64 0))) ∧ Hid (Below w.heap.size w wr)) (fun i _ => 64 - (intOf i).toNat)
      case atStart => exact ⟨16, rfl, by omega, by omega, h4, h2, h3⟩
      case round =>
        clear h4 h2 h3
        obtain ⟨k, rfl, hk0, hk, h1, h2, h3⟩ := hrel
        by_cases hlt : k < 64
        · have hS : (Dg.sched (Dg.words l 16) (k - 16)).length = k := by rw [Dg.sched_length, Dg.words_length]; omega
          have cx := h1.out.cell (wv_first (show k - 15 < (Dg.sched (Dg.words l 16) (k - 16)).length by omega))
          have cy := h1.out.cell (wv_first (show k - 2 < (Dg.sched (Dg.words l 16) (k - 16)).length by omega))
          have cp := h1.out.cell (wv_first (show k - 16 < (Dg.sched (Dg.words l 16) (k - 16)).length by omega))
          have cq := h1.out.cell (wv_first (show k - 7 < (Dg.sched (Dg.words l 16) (k - 16)).length by omega))
          have cc := h1.out.cell (wv_rest hS (show k < 64 by omega))
          have cf := h1.out.free k
          have hE := Lib.hid (ext_eq (Dg.sched (Dg.words l 16) (k - 16)) k)
          obtain ⟨x, hx⟩ : ∃ x, (Dg.sched (Dg.words l 16) (k - 16)).getD (k - 15) 0 = x := ⟨_, rfl⟩
          obtain ⟨y, hy⟩ : ∃ x, (Dg.sched (Dg.words l 16) (k - 16)).getD (k - 2) 0 = x := ⟨_, rfl⟩
          obtain ⟨p, hp⟩ : ∃ x, (Dg.sched (Dg.words l 16) (k - 16)).getD (k - 16) 0 = x := ⟨_, rfl⟩
          obtain ⟨q, hq⟩ : ∃ x, (Dg.sched (Dg.words l 16) (k - 16)).getD (k - 7) 0 = x := ⟨_, rfl⟩
          have cp0 := Lib.hid (wv_first (R := List.replicate (64 - k) 0) (show k - 16 < (Dg.sched (Dg.words l 16) (k - 16)).length by omega))
          have cq0 := Lib.hid (wv_first (R := List.replicate (64 - k) 0) (show k - 7 < (Dg.sched (Dg.words l 16) (k - 16)).length by omega))
          rw [hp] at cp0; rw [hq] at cq0
          rw [hx] at cx; rw [hy] at cy; rw [hp] at cp; rw [hq] at cq
          rw [hx, hy, hp, hq] at hE
          clear hx hy hp hq
          have hx := x.isLt
          have hy := y.isLt
          have hp := p.isLt
          have hq := q.isLt
          have e1 : IntKind.i64.wrap ((k : Int) - 15) = ((k - 15 : Nat) : Int) := by rw [IntWalk.i64_in _ (by omega)]; omega
          have e2 : IntKind.i64.wrap ((k : Int) - 2) = ((k - 2 : Nat) : Int) := by rw [IntWalk.i64_in _ (by omega)]; omega
          have e3 : IntKind.i64.wrap ((k : Int) - 16) = ((k - 16 : Nat) : Int) := by rw [IntWalk.i64_in _ (by omega)]; omega
          have e4 : IntKind.i64.wrap ((k : Int) - 7) = ((k - 7 : Nat) : Int) := by rw [IntWalk.i64_in _ (by omega)]; omega
          go_wp2_with fail
          go_region
          go_wp2_with fail
          refine wp_region_still_tail 29 (by kernel_rfl) (by kernel_rfl) ?_
          generalize hW1 : ({ wr.drew with drawn := wr.drew.drawn + 1 } : World) = W1
          have cp1 : W1.cell? ⟨w.heap.size + 1, k - 16, none⟩ = some (.int .u32 (p.toNat : Int)) := by rw [← hW1]; exact cp
          have cq1 : W1.cell? ⟨w.heap.size + 1, k - 7, none⟩ = some (.int .u32 (q.toNat : Int)) := by rw [← hW1]; exact cq
          have cc1 : W1.cell? ⟨w.heap.size + 1, k, none⟩ = some (.int .u32 0) := by rw [← hW1]; exact cc
          have cf1 : W1.frozen? ⟨w.heap.size + 1, k, none⟩ = false := by rw [← hW1]; exact cf
          have HW1 := Lib.hid hW1
          have b1 : ((k - 16 : Nat) : Int) < 64 := by omega
          have b2 : ((k - 7 : Nat) : Int) < 64 := by omega
          have b3 : (k : Int) < 64 := by omega
          clear hW1 cp cq cc cf cx cy
          simp only [List.take_succ_cons, List.take_zero, List.drop_succ_cons, List.drop_zero]
          repeat still_step
          still_call (calls_turnS x 7 (by decide) (by decide) _)
          repeat still_step
          still_call (calls_turnS x 18 (by decide) (by decide) _)
          repeat still_step
          still_call (calls_turnS y 17 (by decide) (by decide) _)
          repeat still_step
          still_call (calls_turnS y 19 (by decide) (by decide) _)
          repeat still_step
          refine wpStill_nil ?_
          go_wp2
          go_roundw
          case rel =>
            have hb : Blk W1 (w.heap.size + 1) 71 (wv (Dg.sched (Dg.words l 16) (k - 16) ++ List.replicate (64 - k) 0)) := by rw [← HW1.out]; exact h1.out
            have hb2 : Blk W1 w.heap.size 71 (wv (List.replicate 64 0)) := by rw [← HW1.out]; exact h2.out
            have hb3 : Below w.heap.size w W1 := by rw [← HW1.out]; exact below_drewN h3.out 2
            refine ⟨k + 1, by go_num, by omega, by omega, ?_, hb2.other (Gr.set _ _ _) (by omega), Gr.below_set hb3 (by omega)⟩
            have := hb.set k (.int .u32 ((Dg.ext (Dg.sched (Dg.words l 16) (k - 16)) k).toNat : Int))
            rw [wv_fill hS (by omega), ← sched_next hk0] at this
            rw [ext_said p q x y, ← hE.out]
            exact this
          case measure => simp [intOf]; omega
        · obtain rfl : k = 64 := by omega
          have h5 : Blk wr (w.heap.size + 1) 71 (wv (Dg.W l)) := by
            have : wv (Dg.sched (Dg.words l 16) (64 - 16) ++ List.replicate (64 - 64) 0) = wv (Dg.W l) := by simp [Dg.W]
            rw [← this]; exact h1.out
          obtain ⟨M, hM⟩ : ∃ M, wv (Dg.W l) = M := ⟨_, rfl⟩
          obtain ⟨Z, hZ⟩ : ∃ Z, wv (List.replicate 64 0) = Z := ⟨_, rfl⟩
          have hMl : M.length = 64 := by rw [← hM, wv_length, Dg.W_length]
          have hZl : Z.length = 64 := by rw [← hZ, wv_length, List.length_replicate]
          have hM1 : ∀ v ∈ M, v.oneCell' = true := by
            rw [← hM]; intro v hv
            obtain ⟨x, _, rfl⟩ := List.mem_map.1 hv
            rfl
          rw [hM] at h5
          have h6 : Blk wr w.heap.size 71 Z := by rw [← hZ]; exact h2.out
          have H5 := Lib.hid h5
          have H6 := Lib.hid h6
          have HM1 := Lib.hid hM1
          have HM := Lib.hid hM
          have HE : Hid (Blk (wr.setRow w.heap.size M.toArray) w.heap.size 71 M) := h6.setRow M
          have HF : Hid (Below w.heap.size w (wr.setRow w.heap.size M.toArray)) := below_setRow h3.out (Nat.le_refl _) _
          clear h1 h2 h5 h6 hM hZ hM1
          go_wp2_with (first
            | ((refine wpList_load_row rfl _ (.tmp 3) rfl (w.heap.size + 1) rfl 71 M.toArray (0, 0) _ H5.out Tryd.underlying71 rfl (by rw [info64w]; simp [hMl]) ?_))
            | ((refine wpList_store_row rfl _ (.tmp 2) (.tmp 61) rfl w.heap.size M.toArray rfl rfl 71 Z.toArray H6.out (by rw [info64w]; simp [hMl]) (by simp [hMl, hZl]) (by simpa using HM1.out) ?_)))
          (try simp only [Exit.inBlock, Exit.then])
          refine bodyPost_ret (results_cell_row rfl _ _ w.heap.size 71 M.toArray (0, 0) _ rfl HE.out Tryd.underlying71 rfl (by rw [info64w]; simp [hMl])) rfl ?_
          exact ⟨by rw [HM.out], HF.out⟩
end Go.Proofs.YteiabaddmclmlaaDoor
