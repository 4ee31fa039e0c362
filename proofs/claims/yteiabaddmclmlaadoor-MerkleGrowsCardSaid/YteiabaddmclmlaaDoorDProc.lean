/-
  process: the state behind a block.
-/
import Derived.Test.YteiabaddmclmlaaDoorDSched
import Derived.Test.YteiabaddmclmlaaDoorDCrc
namespace Go.Proofs.YteiabaddmclmlaaDoor
open Go Go.RowKit Go.Shelf
def crcT : List Dg.W32 := (List.range 16).map fun i => Dg.crcN 4 (BitVec.ofNat 32 i)
/-- The program's own table of SHA-256. -/
structure Env (W : World) : Prop where
  k : ∀ j, j < 64 → W.cell? ⟨1, j, none⟩ = some (.int .u32 ((Dg.K.getD j 0).toNat : Int))
  size : 2 ≤ W.heap.size
theorem Env.below {B : Nat} {w w' : World} (h : Env w) (hb : Below B w w') (hB : 2 ≤ B) : Env w' :=
  ⟨fun j hj => (hb.cell (p := ⟨1, j, none⟩) (by show 1 < B; omega)).trans (h.k j hj),
   Nat.le_trans h.size hb.size⟩
/-- The program's own tables, that of the CRC with them. -/
structure EnvC (W : World) : Prop where
  e : Env W
  c : ∀ j, j < 16 → W.cell? ⟨0, j, none⟩ = some (.int .u32 ((crcT.getD j 0).toNat : Int))
theorem EnvC.below {B : Nat} {w w' : World} (h : EnvC w) (hb : Below B w w') (hB : 2 ≤ B) : EnvC w' :=
  ⟨h.e.below hb hB, fun j hj => (hb.cell (p := ⟨0, j, none⟩) (by show 0 < B; omega)).trans (h.c j hj)⟩
theorem EnvC.new {w w' : World} (h : EnvC w) (hb : Below w.heap.size w w') : EnvC w' := h.below hb h.e.size
theorem Env.new {w w' : World} (h : Env w) (hb : Below w.heap.size w w') : Env w' := h.below hb h.size
theorem Env.drews {w : World} (h : Env w) (n : Nat) : Env (w.drewN n) := h.new (below_drewN (Below.refl _ _) n)
theorem Env.gr {g : Nat} {w w' : World} (h : Env w) (hb : Gr g w w') (hg : 2 ≤ g) : Env w' := h.below (Gr.below hb h.size hg) (Nat.le_refl _)

theorem call_turn_quiet (x : Dg.W32) (k : Int) (h1 : 1 ≤ k) (h2 : k ≤ 31) (n : Nat) (w : World) :
    Calls Tryd.prog 73 #[.int .u32 x.toNat, .int .i64 k] (w.drewN n) fun e w' => e = .returned (.int .u32 (Dg.ror x k.toNat).toNat) ∧ ∃ m, w' = w.drewN m :=
  Calls.quiet_of_same (calls_turnS x k h1 h2 _)
theorem wv_cells (l : List Dg.W32) : ∀ v ∈ wv l, v.oneCell' = true := by
  intro v hv
  obtain ⟨x, _, rfl⟩ := List.mem_map.1 hv
  rfl

theorem t_said (a b c d e f g h k v : Dg.W32) :
    (((h.toNat : Int) + bits .xor .u32 (bits .xor .u32 ((Dg.ror e 6).toNat : Int) ((Dg.ror e 11).toNat : Int)) ((Dg.ror e 25).toNat : Int) + bits .xor .u32 (bits .and .u32 (e.toNat : Int) (f.toNat : Int)) (bits .andNot .u32 (g.toNat : Int) (e.toNat : Int)) + (k.toNat : Int)) % (4294967296 : Int) + (v.toNat : Int)) % (4294967296 : Int) =
      ((Dg.tOf k v ⟨a, b, c, d, e, f, g, h⟩).toNat : Int) := by
  rw [Dg.w_xor, Dg.w_xor, Dg.w_and, Dg.w_andNot, Dg.w_xor, BitVec.and_comm g]
  unfold Dg.tOf
  simp only [BitVec.toNat_add]
  omega
theorem set_eight (p0 p1 p2 p3 p4 p5 p6 p7 v0 v1 v2 v3 v4 v5 v6 v7 : Value) : (((((((([p0, p1, p2, p3, p4, p5, p6, p7].set 0 v0).set 1 v1).set 2 v2).set 3 v3).set 4 v4).set 5 v5).set 6 v6).set 7 v7) = [v0, v1, v2, v3, v4, v5, v6, v7] := rfl
theorem add2 (a b : Dg.W32) : ((a + b).toNat : Int) = ((a.toNat : Int) + (b.toNat : Int)) % (4294967296 : Int) := by
  rw [BitVec.toNat_add]
  omega
theorem addS_cells (s : Dg.St) (a b c d e f g h : Dg.W32) : wv (Dg.addS s ⟨a, b, c, d, e, f, g, h⟩).list =
    [.int .u32 (((s.a.toNat : Int) + (a.toNat : Int)) % (4294967296 : Int)), .int .u32 (((s.b.toNat : Int) + (b.toNat : Int)) % (4294967296 : Int)), .int .u32 (((s.c.toNat : Int) + (c.toNat : Int)) % (4294967296 : Int)), .int .u32 (((s.d.toNat : Int) + (d.toNat : Int)) % (4294967296 : Int)),
      .int .u32 (((s.e.toNat : Int) + (e.toNat : Int)) % (4294967296 : Int)), .int .u32 (((s.f.toNat : Int) + (f.toNat : Int)) % (4294967296 : Int)), .int .u32 (((s.g.toNat : Int) + (g.toNat : Int)) % (4294967296 : Int)), .int .u32 (((s.h.toNat : Int) + (h.toNat : Int)) % (4294967296 : Int))] := by
  simp only [← add2]
  rfl
theorem u_said (a b c d e f g h : Dg.W32) :
    (bits .xor .u32 (bits .xor .u32 ((Dg.ror a 2).toNat : Int) ((Dg.ror a 13).toNat : Int)) ((Dg.ror a 22).toNat : Int) + bits .xor .u32 (bits .xor .u32 (bits .and .u32 (a.toNat : Int) (b.toNat : Int)) (bits .and .u32 (a.toNat : Int) (c.toNat : Int))) (bits .and .u32 (b.toNat : Int) (c.toNat : Int))) % (4294967296 : Int) =
      ((Dg.uOf ⟨a, b, c, d, e, f, g, h⟩).toNat : Int) := by
  rw [Dg.w_xor, Dg.w_xor, Dg.w_and, Dg.w_and, Dg.w_and, Dg.w_xor, Dg.w_xor]
  unfold Dg.uOf
  simp only [BitVec.toNat_add]
  omega
set_option maxHeartbeats 4000000 in
set_option maxRecDepth 100000 in
theorem process_any (s : Dg.St) (l : List UInt8) (hl : l.length = 64) (gs gb : Nat) (t : TypeId) (w : World) (hS : Blk w gs 49 (wv s.list)) (hB : Blk w gb t (bv l)) (hE : Env w) :
    Calls Tryd.prog 52 #[.pointer (some ⟨gs, 0, none⟩), .pointer (some ⟨gb, 0, none⟩)] w fun e w' => e = .returned (.tuple #[]) ∧ Blk w' gs 49 (wv (Dg.proc s l).list) ∧ Gr gs w w' := by
  have HC := Lib.hid (schedule_any l hl gb t w hB)
  have hgs := hS.lt
  have HS := Lib.hid hS
  have HE := Lib.hid hE
  obtain ⟨M, hM⟩ : ∃ M, wv (Dg.W l) = M := ⟨_, rfl⟩
  have hMl : M.length = 64 := by rw [← hM, wv_length, Dg.W_length]
  have HM1 := Lib.hid (show ∀ v ∈ M, v.oneCell' = true by rw [← hM]; exact wv_cells _)
  rw [hM] at HC
  have HM := Lib.hid (show ∀ j, j < 64 → M[j]? = some (.int .u32 (((Dg.W l).getD j 0).toNat : Int)) from fun j hj => by rw [← hM]; exact wv_at (by rw [Dg.W_length]; exact hj))
  clear hB hS hE hM
  go_enter Tryd.func52, Tryd.ntmps52
  go_wp2_with fail
  refine HC.out.mono ?_
  rintro e w1 ⟨rfl, hb1⟩
  have HW2 : Hid (∀ w2, (w1.alloc (.cells (wv (List.replicate 64 0)).toArray 71)).setRow w1.heap.size M.toArray = w2 → Blk w2 w1.heap.size 71 M ∧ Below w.heap.size w w2 ∧ w1.heap.size < w2.heap.size) := by
    rintro w2 rfl
    have := (Blk.made w1 (wv (List.replicate 64 0)).toArray 71).setRow M
    exact ⟨this, below_setRow (below_alloc hb1 (Nat.le_refl _) _) hb1.size _, this.lt⟩
  have hsz := hb1.size
  clear hb1 HC
  go_wp2_with (refine wpList_store_row rfl _ (.tmp 4) (.tmp 17) rfl w1.heap.size M.toArray rfl rfl 71 (wv (List.replicate 64 0)).toArray (Blk.made w1 (wv (List.replicate 64 0)).toArray 71) (by rw [info64w]; simp [hMl]) (by simp [hMl]; decide) (by simpa using HM1.out) ?_)
  generalize hW2 : World.setRow _ _ _ = w2
  obtain ⟨h1, h2, h3⟩ := HW2.out w2 hW2
  clear hW2 HW2
  obtain ⟨m, hm⟩ : ∃ m, w1.heap.size = m := ⟨_, rfl⟩
  rw [hm] at h1 h3 hsz
  rw [hm]
  clear hm
  have HS2 := Lib.hid (HS.out.below h2)
  have HE2 := Lib.hid (HE.out.new h2)
  have H1 := Lib.hid h1
  have H2 := Lib.hid h2
  have c0 := HS2.out.cell (j := 0) rfl
  have c1 := HS2.out.cell (j := 1) rfl
  have c2 := HS2.out.cell (j := 2) rfl
  have c3 := HS2.out.cell (j := 3) rfl
  have c4 := HS2.out.cell (j := 4) rfl
  have c5 := HS2.out.cell (j := 5) rfl
  have c6 := HS2.out.cell (j := 6) rfl
  have c7 := HS2.out.cell (j := 7) rfl
  clear h1 h2
  go_wp2_with fail
  go_quiet (fail)
  go_wp2_with fail
  go_loopw [5, 6, 7, 8, 9, 10, 11, 12, 50] (fun va vb vc vd ve vf vg vh i wr => ∃ k : Nat, i = .int .i64 k ∧ k ≤ 64 ∧ Hid (∃ n, wr = w2.drewN n) ∧
      va = .int .u32 ((Dg.rnds (Dg.W l) s k).a.toNat : Int) ∧ vb = .int .u32 ((Dg.rnds (Dg.W l) s k).b.toNat : Int) ∧ vc = .int .u32 ((Dg.rnds (Dg.W l) s k).c.toNat : Int) ∧ vd = .int .u32 ((Dg.rnds (Dg.W l) s k).d.toNat : Int) ∧
      ve = .int .u32 ((Dg.rnds (Dg.W l) s k).e.toNat : Int) ∧ vf = .int .u32 ((Dg.rnds (Dg.W l) s k).f.toNat : Int) ∧ vg = .int .u32 ((Dg.rnds (Dg.W l) s k).g.toNat : Int) ∧ vh = .int .u32 ((Dg.rnds (Dg.W l) s k).h.toNat : Int)) (fun _ _ _ _ _ _ _ _ i _ => 64 - (intOf i).toNat)
  case atStart => exact ⟨0, rfl, by omega, ⟨_, rfl⟩, rfl, rfl, rfl, rfl, rfl, rfl, rfl, rfl⟩
  case round =>
    clear c0 c1 c2 c3 c4 c5 c6 c7
    obtain ⟨k, rfl, hk, hwr, rfl, rfl, rfl, rfl, rfl, rfl, rfl, rfl⟩ := hrel
    by_cases hlt : k < 64
    · have HN := Lib.hid (show Dg.rnds (Dg.W l) s (k + 1) = Dg.rnd (Dg.K.getD k 0) ((Dg.W l).getD k 0) (Dg.rnds (Dg.W l) s k) from rfl)
      have cK : wr.cell? ⟨1, k, none⟩ = some (.int .u32 ((Dg.K.getD k 0).toNat : Int)) := by
        obtain ⟨n, rfl⟩ := hwr.out
        exact (HE2.out.drews n).k k hlt
      have cW : wr.cell? ⟨m, k, none⟩ = some (.int .u32 (((Dg.W l).getD k 0).toNat : Int)) := by
        obtain ⟨n, rfl⟩ := hwr.out
        exact (H1.out.drews n).cell (j := k) (HM.out k hlt)
      obtain ⟨S, hS⟩ : ∃ S, Dg.rnds (Dg.W l) s k = S := ⟨_, rfl⟩
      rw [hS] at HN
      rw [hS]
      clear hS
      obtain ⟨K, hK⟩ : ∃ K, Dg.K.getD k 0 = K := ⟨_, rfl⟩
      rw [hK] at cK HN
      clear hK
      obtain ⟨V, hV⟩ : ∃ V, (Dg.W l).getD k 0 = V := ⟨_, rfl⟩
      rw [hV] at cW HN
      clear hV
      obtain ⟨a, b, c, d, e, f, g, h⟩ := S
      simp only
      have ha := a.isLt
      have hb := b.isLt
      have hc := c.isLt
      have hd := d.isLt
      have he := e.isLt
      have hf := f.isLt
      have hg := g.isLt
      have hh := h.isLt
      have hKl := K.isLt
      have hVl := V.isLt
      go_wp2_with fail
      go_quiet (first | (go_at_call 73; exact call_turn_quiet _ _ (by decide) (by decide) _ _))
      rw [t_said a b c d e f g h K V]
      generalize hT : Dg.tOf K V ⟨a, b, c, d, e, f, g, h⟩ = T
      have HT := Lib.hid hT
      have hTl := T.isLt
      clear hT cK cW
      go_wp2_with fail
      refine (calls_turnI a 2 (by decide) (by decide) _).mono ?_
      rintro x w5 ⟨rfl, rfl⟩
      go_wp2_with fail
      refine (calls_turnI a 13 (by decide) (by decide) _).mono ?_
      rintro x w5 ⟨rfl, rfl⟩
      go_wp2_with fail
      refine (calls_turnI a 22 (by decide) (by decide) _).mono ?_
      rintro x w5 ⟨rfl, rfl⟩
      go_wp2_with fail
      go_roundw
      case rel =>
        rw [u_said a b c d e f g h]
        refine ⟨k + 1, rfl, by omega, ?_, ?_⟩
        · obtain ⟨n, hn⟩ := hwr.out
          exact ⟨_, by rw [hn, World.drewN_drewN]⟩
        · rw [HN.out]
          refine ⟨?_, rfl, rfl, rfl, ?_, rfl, rfl, rfl⟩
          · rw [show (Dg.rnd K V ⟨a, b, c, d, e, f, g, h⟩).a = T + Dg.uOf ⟨a, b, c, d, e, f, g, h⟩ from by rw [← HT.out]; rfl, add2]
          · rw [show (Dg.rnd K V ⟨a, b, c, d, e, f, g, h⟩).e = d + T from by rw [← HT.out]; rfl, add2]
      case measure => simp [intOf]; omega
    · obtain rfl : k = 64 := by omega
      have HP : Hid (Dg.proc s l = Dg.addS s (Dg.rnds (Dg.W l) s 64)) := rfl
      obtain ⟨⟨a, b, c, d, e, f, g, h⟩, hR⟩ : ∃ R, Dg.rnds (Dg.W l) s 64 = R := ⟨_, rfl⟩
      rw [hR] at HP
      rw [hR]
      clear hR
      simp only
      have HSr : Hid (Blk wr gs 49 (wv s.list)) := by
        obtain ⟨n, rfl⟩ := hwr.out
        exact HS2.out.drews n
      have HGr : Hid (Gr gs w wr) := by
        obtain ⟨n, rfl⟩ := hwr.out
        exact Gr.drews (Gr.of_below H2.out) n
      have c0 := HSr.out.cell (j := 0) rfl
      have c1 := HSr.out.cell (j := 1) rfl
      have c2 := HSr.out.cell (j := 2) rfl
      have c3 := HSr.out.cell (j := 3) rfl
      have c4 := HSr.out.cell (j := 4) rfl
      have c5 := HSr.out.cell (j := 5) rfl
      have c6 := HSr.out.cell (j := 6) rfl
      have c7 := HSr.out.cell (j := 7) rfl
      have f0 := HSr.out.free 0
      have f1 := HSr.out.free 1
      have f2 := HSr.out.free 2
      have f3 := HSr.out.free 3
      have f4 := HSr.out.free 4
      have f5 := HSr.out.free 5
      have f6 := HSr.out.free 6
      have f7 := HSr.out.free 7
      go_wp2_with fail
      go_region
      go_wp2_with fail
      go_region
      go_wp2_with fail
      go_region
      go_wp2_with fail
      go_region
      go_wp2_with fail
      go_region
      go_wp2_with fail
      go_region
      go_wp2_with fail
      go_region
      go_wp2_with fail
      go_region
      go_wp2_with fail
      refine bodyPost_end (results_none rfl _ _ _) rfl ?_
      refine ⟨rfl, ?_, ?_⟩
      · rw [HP.out, addS_cells]
        refine Blk.drew (Blk.drew (Blk.drew (Blk.drew (Blk.drew (Blk.drew (Blk.drew (Blk.drew ?_)))))))
        refine Blk.as ((((((((HSr.out.set 0 _).set 1 _).set 2 _).set 3 _).set 4 _).set 5 _).set 6 _).set 7 _) ?_
        exact set_eight _ _ _ _ _ _ _ _ _ _ _ _ _ _ _ _
      · refine Gr.drew (Gr.drew (Gr.drew (Gr.drew (Gr.drew (Gr.drew (Gr.drew (Gr.drew ?_)))))))
        exact (((((((HGr.out.trans (Gr.set _ _ _)).trans (Gr.set _ _ _)).trans (Gr.set _ _ _)).trans (Gr.set _ _ _)).trans (Gr.set _ _ _)).trans (Gr.set _ _ _)).trans (Gr.set _ _ _)).trans (Gr.set _ _ _)
end Go.Proofs.YteiabaddmclmlaaDoor
