/-
  Sum is SHA-256.
-/
import Derived.Test.YtdleaipcogomfaaDoorDSumP
import Derived.Lib.IndexBytes
namespace Go.Proofs.YtdleaipcogomfaaDoor
open Go Go.RowKit Go.Shelf
theorem info64b : (Tryd.prog.info? 60).map (·.size) = some 64 := by kernel_rfl
theorem info8w : (Tryd.prog.info? 58).map (·.size) = some 8 := by kernel_rfl
theorem putWord_at (v : Int) (x : Dg.W32) (hv : v = (x.toNat : Int)) (g off n cap : Nat) (t : TypeId) (L : List Value) (w : World) (hn : 4 ≤ n) (hB : Blk w g t L) (hoff : off + 4 ≤ L.length) :
    Calls Tryd.prog 66 #[.slice (some ⟨g, off, none⟩) n cap, .int .u32 v] w fun e w' => e = .returned (.tuple #[]) ∧ Blk w' g t (splice L off (bv (Dg.be32 x))) ∧ Gr g w w' := by subst hv; exact putWord_any x g off n cap t L w hn hB hoff
theorem ext_end (r : ByteArray) (k : Nat) : (r.extract k r.size).data.toList = r.data.toList.drop k := Lib.extract_to_end r k
theorem bv_cells (l : List UInt8) : ∀ v ∈ bv l, v.oneCell' = true := fun v hv => by
  obtain ⟨b, _, rfl⟩ := List.mem_map.1 hv
  rfl
theorem last_copy (r : ByteArray) (hq : r.size < 64) {w : World} {g : Nat} {t : TypeId} (h : Blk w g t (bv (r.data.toList.take 64 ++ (List.replicate 64 (0 : UInt8)).drop r.size))) :
    w.cell? ⟨g, r.size, none⟩ = some (.int .u8 0) ∧ w.frozen? ⟨g, r.size, none⟩ = false ∧ Hid (Blk (w.setCell ⟨g, r.size, none⟩ (.int .u8 128)) g t (bv (r.data.toList ++ 128 :: List.replicate (63 - r.size) 0))) := by
  have hz := Lib.size_eq r
  obtain ⟨R, hR⟩ : ∃ R, r.data.toList = R := ⟨_, rfl⟩
  rw [hR] at h hz ⊢
  rw [hz] at h hq ⊢
  rw [List.take_of_length_le (by omega), List.drop_replicate] at h
  obtain ⟨m, hm⟩ : ∃ m, 64 - R.length = m + 1 := ⟨63 - R.length, by omega⟩
  rw [hm, List.replicate_succ] at h
  rw [show 63 - R.length = m from by omega]
  refine ⟨h.cell ?_, h.free _, ?_⟩
  · unfold bv
    rw [List.map_append, List.getElem?_append_right (by simp)]
    simp
  · refine (h.set R.length (.int .u8 128)).as ?_
    unfold bv
    rw [List.map_append, List.set_append_right _ _ (by simp)]
    simp
set_option maxHeartbeats 4000000 in
set_option maxRecDepth 100000 in
theorem sum_any (s : ByteArray) (hs : s.size ≤ 100000000) (w : World) (hE : Env w) :
    Calls Tryd.prog 39 #[.string s] w fun e w' => e = .returned (.string ⟨(Dg.sha s.data.toList).toArray⟩) ∧ Below w.heap.size w w' := by
  have HE := Lib.hid hE
  clear hE
  go_enter Tryd.func39, Tryd.ntmps39
  go_wp2_with fail
  obtain ⟨l, hl⟩ : ∃ l, s.data.toList = l := ⟨_, rfl⟩
  have hll : l.length = s.size := by rw [← hl]; exact (Lib.size_eq s).symm
  go_loopw [5] (fun v wr => ∃ (n : Nat) (r : ByteArray) (c : List UInt8), v = .string r ∧ 64 * n + r.size = s.size ∧ Hid (r.data.toList = l.drop (64 * n)) ∧ c.length = 64 ∧
      Hid (Blk wr w.heap.size 58 (wv (Dg.absorb n Dg.H0 l).list)) ∧ Hid (Blk wr (w.heap.size + 1) 60 (bv c)) ∧ Hid (Below w.heap.size w wr)) (fun v _ => match v with | .string r => r.size | _ => 0)
  case atStart =>
    refine ⟨0, s, List.replicate 64 0, rfl, by omega, hl, by simp, ?_, ?_, below_alloc (below_alloc (Below.refl _ _) (Nat.le_refl _) _) (Nat.le_refl _) _⟩
    · exact (Blk.made w (wv Dg.H0.list).toArray 58).below (below_alloc (Below.refl _ _) (Nat.le_refl _) _)
    · have := Blk.made (w.alloc (.cells (wv Dg.H0.list).toArray 58)) (bv (List.replicate 64 0)).toArray 60
      rw [alloc_size] at this
      exact this
  case round =>
    obtain ⟨n, r, c, rfl, hn, hr, hc, h1, h2, h3⟩ := hrel
    have hall := fun w' : World => all64 (w.heap.size + 1) w'
    by_cases h64 : 64 ≤ r.size
    · have hrl := Lib.hid (Lib.size_eq r)
      go_wp2_with (refine wpList_copy_str rfl (.tmp 12) (.tmp 13) rfl (w.heap.size + 1) 64 64 r rfl rfl 60 c h2.out hc ?_; intro w1 h4 h5)
      have e4 : r.data.toList.take 64 ++ c.drop r.size = (l.drop (64 * n)).take 64 := by
        rw [List.drop_of_length_le (by omega), List.append_nil, hr.out]
      have h6 : Blk w1 (w.heap.size + 1) 60 (bv ((l.drop (64 * n)).take 64)) := by rw [← e4]; exact h4.out
      have hb : Below w.heap.size w w1 := h3.out.trans (Gr.below h5.out h3.out.size (by omega))
      have hpl : ((l.drop (64 * n)).take 64).length = 64 := by simp; omega
      refine (process_any (Dg.absorb n Dg.H0 l) ((l.drop (64 * n)).take 64) hpl w.heap.size (w.heap.size + 1) 60 w1 (h1.out.other h5.out (by omega)) h6 (HE.out.new hb)).mono ?_
      rintro e w2 ⟨rfl, h7, h8⟩
      have HB1 := Lib.hid (hb.trans (Gr.below h8 hb.size (Nat.le_refl _)))
      have H7 := Lib.hid h7
      have H6 := Lib.hid (h6.other h8 (by omega))
      clear h7 h8 hb h6 h4 h5 h1 h2 h3
      go_wp2
      go_roundw
      case rel =>
        refine ⟨n + 1, r.extract 64 r.size, (l.drop (64 * n)).take 64, rfl, by rw [ByteArray.size_extract]; omega, ?_, hpl, ?_, H6.out, HB1.out⟩
        · show _ = _
          rw [ext_end, hr.out, List.drop_drop, show 64 * n + 64 = 64 * (n + 1) from by omega]
        · rw [Dg.absorb_snoc]; exact H7.out
      case measure =>
        show (r.extract 64 r.size).size < r.size
        rw [ByteArray.size_extract]; omega
    · have hq : r.size < 64 := by omega
      have hgb : w.heap.size + 1 < wr.heap.size := h2.out.lt
      have HW3 : Hid (∀ w3, wr.setRow (w.heap.size + 1) (bv (List.replicate 64 0)).toArray = w3 → Hid (Blk w3 (w.heap.size + 1) 60 (bv (List.replicate 64 0))) ∧ Hid (Gr (w.heap.size + 1) wr w3)) := by
        rintro w3 rfl
        exact ⟨h2.out.setRow _, Gr.setRow (Gr.refl _ _) _⟩
      have HL := fun (w' : World) => last_copy r hq (w := w') (g := w.heap.size + 1) (t := 60)
      have hcut56 := fun w' : World => cut64 (w.heap.size + 1) 56 w' 56 rfl (by omega)
      have hcut60 := fun w' : World => cut64 (w.heap.size + 1) 60 w' 60 rfl (by omega)
      have HC := Lib.hid (show ∀ v ∈ bv (List.replicate 64 0), v.oneCell' = true from bv_cells _)
      have hrl := Lib.hid (Lib.size_eq r)
      by_cases h56 : 56 ≤ r.size
      · go_wp2_with (first
          | (refine wpList_store_row rfl _ (.tmp 4) (.tmp 18) rfl (w.heap.size + 1) (bv (List.replicate 64 0)).toArray rfl rfl 60 (bv c).toArray h2.out (by rw [info64b]; rfl) (by simp [bv_length, hc]) (by simpa using HC.out) ?_
             generalize hW3 : World.setRow _ _ _ = w3
             obtain ⟨h4, h5⟩ := HW3.out w3 hW3
             clear hW3 HW3)
          | (refine wpList_copy_str rfl (.tmp 19) (.tmp 20) rfl (w.heap.size + 1) 64 64 r rfl rfl 60 (List.replicate 64 0) h4.out rfl ?_
             intro w4 h6 h7
             obtain ⟨hc4, hf4, h8⟩ := HL w4 h6.out
             clear HL))
        have SA := Lib.hid (((h1.out.other h5.out (by omega)).other h7.out (by omega)).other (Gr.set (g := w.heap.size + 1) w4 r.size (.int .u8 128)) (by omega))
        have BA : Hid (Below w.heap.size w (w4.setCell ⟨w.heap.size + 1, r.size, none⟩ (.int .u8 128))) := ((h3.out.trans (Gr.below h5.out h3.out.size (by omega))).trans (Gr.below h7.out (Nat.le_trans h3.out.size h5.out.size) (by omega))).trans (Gr.below (Gr.set (g := w.heap.size + 1) w4 r.size (.int .u8 128)) (Nat.le_trans (Nat.le_trans h3.out.size h5.out.size) h7.out.size) (by omega))
        clear h1 h2 h3 h4 h5 h6 h7 hc4 hf4
        have hc1 : (r.data.toList ++ 128 :: List.replicate (63 - r.size) 0).length = 64 := by rw [List.length_append, List.length_cons, List.length_replicate, ← hrl.out]; omega
        refine (process_any (Dg.absorb n Dg.H0 l) _ hc1 w.heap.size (w.heap.size + 1) 60 _ SA.out h8.out (HE.out.new BA.out)).mono ?_
        rintro e wp ⟨rfl, hp1, hp2⟩
        have HB8 := Lib.hid (h8.out.other hp2 (by omega))
        have HS8 := Lib.hid hp1
        have BB := Lib.hid (BA.out.trans (Gr.below hp2 BA.out.size (Nat.le_refl _)))
        have hgp := BB.out.size
        clear hp1 hp2 h8 SA BA
        have HW3 : Hid (∀ w3, wp.setRow (w.heap.size + 1) (bv (List.replicate 64 0)).toArray = w3 → Hid (Blk w3 (w.heap.size + 1) 60 (bv (List.replicate 64 0))) ∧ Hid (Gr (w.heap.size + 1) wp w3)) := by
          rintro w3 rfl
          exact ⟨HB8.out.setRow _, Gr.setRow (Gr.refl _ _) _⟩
        go_wp2_with (refine wpList_store_row rfl _ (.tmp 4) (.tmp 29) rfl (w.heap.size + 1) (bv (List.replicate 64 0)).toArray rfl rfl 60 (bv (r.data.toList ++ 128 :: List.replicate (63 - r.size) 0)).toArray HB8.out (by rw [info64b]; rfl) (by rw [List.size_toArray, bv_length, hc1]; rfl) (by simpa using HC.out) ?_; generalize hW3 : World.setRow _ _ _ = w9; obtain ⟨h4, h5⟩ := HW3.out w9 hW3; clear hW3 HW3)
        have SC := Lib.hid (HS8.out.other h5.out (by omega))
        have BC := Lib.hid (BB.out.trans (Gr.below h5.out hgp (by omega)))
        have hc0 : (List.replicate 64 (0 : UInt8)).length = 64 := rfl
        clear h5 HB8 HS8 BB
        refine (putWord_at _ (BitVec.ofNat 32 (8 * l.length / 4294967296)) (by rw [BitVec.toNat_ofNat]; omega) (w.heap.size + 1) 56 8 8 60 (bv (List.replicate 64 0)) _ (by omega) h4.out (by rw [bv_length, hc0]; omega)).mono ?_
        rintro e w5 ⟨rfl, h9, h10⟩
        rw [bv_splice] at h9
        have H9 := Lib.hid h9
        have S9 := Lib.hid (SC.out.other h10 (by omega))
        have B9 := Lib.hid (BC.out.trans (Gr.below h10 BC.out.size (by omega)))
        clear h9 h10
        go_wp2_with fail
        refine (putWord_at _ (BitVec.ofNat 32 (8 * l.length)) (by rw [BitVec.toNat_ofNat]; omega) (w.heap.size + 1) 60 4 4 60 _ _ (by omega) H9.out (by rw [bv_length, length_splice _ _ _ (by rw [Dg.be32_length, hc0]; omega), hc0]; omega)).mono ?_
        rintro e w6 ⟨rfl, h11, h12⟩
        rw [bv_splice, Dg.len_block _ hc0] at h11
        have H11 := Lib.hid h11
        have S11 := Lib.hid (S9.out.other h12 (by omega))
        have B11 := Lib.hid (B9.out.trans (Gr.below h12 B9.out.size (by omega)))
        clear h11 h12
        go_wp2_with fail
        refine (process_any (Dg.proc (Dg.absorb n Dg.H0 l) (r.data.toList ++ 128 :: List.replicate (63 - r.size) 0)) _ (by rw [List.length_append, List.length_take, hc0, Dg.be64_length]; rfl) w.heap.size (w.heap.size + 1) 60 w6 S11.out H11.out (HE.out.new B11.out)).mono ?_
        rintro e w7 ⟨rfl, h13, h14⟩
        have H13 := Lib.hid h13
        have B13 := Lib.hid (B11.out.trans (Gr.below h14 B11.out.size (Nat.le_refl _)))
        clear h13 h14
        go_wp2_with fail
        refine (bytes_any _ w.heap.size w7 H13.out).mono ?_
        rintro e w8 ⟨rfl, h15⟩
        have B15 := Lib.hid (B13.out.trans (h15.mono B13.out.size))
        clear h15
        go_wp2
        go_ret
        refine ⟨?_, B15.out⟩
        have HX : (Dg.proc (Dg.proc (Dg.absorb n Dg.H0 l) (r.data.toList ++ 128 :: List.replicate (63 - r.size) 0)) (List.take 56 (List.replicate 64 0) ++ Dg.be64 (8 * s.size))).bytes = Dg.sha s.data.toList := by rw [hl, Dg.sha_long l n r.size (by omega) hq h56, ← hr.out, hll]; rfl
        exact congrArg (fun z : List UInt8 => Ending.returned (.string ⟨z.toArray⟩)) HX
      · go_wp2_with (first
          | (refine wpList_store_row rfl _ (.tmp 4) (.tmp 18) rfl (w.heap.size + 1) (bv (List.replicate 64 0)).toArray rfl rfl 60 (bv c).toArray h2.out (by rw [info64b]; rfl) (by simp [bv_length, hc]) (by simpa using HC.out) ?_
             generalize hW3 : World.setRow _ _ _ = w3
             obtain ⟨h4, h5⟩ := HW3.out w3 hW3
             clear hW3 HW3)
          | (refine wpList_copy_str rfl (.tmp 19) (.tmp 20) rfl (w.heap.size + 1) 64 64 r rfl rfl 60 (List.replicate 64 0) h4.out rfl ?_
             intro w4 h6 h7
             obtain ⟨hc4, hf4, h8⟩ := HL w4 h6.out
             clear HL))
        have SA := Lib.hid (((h1.out.other h5.out (by omega)).other h7.out (by omega)).other (Gr.set (g := w.heap.size + 1) w4 r.size (.int .u8 128)) (by omega))
        have BA : Hid (Below w.heap.size w (w4.setCell ⟨w.heap.size + 1, r.size, none⟩ (.int .u8 128))) := ((h3.out.trans (Gr.below h5.out h3.out.size (by omega))).trans (Gr.below h7.out (Nat.le_trans h3.out.size h5.out.size) (by omega))).trans (Gr.below (Gr.set (g := w.heap.size + 1) w4 r.size (.int .u8 128)) (Nat.le_trans (Nat.le_trans h3.out.size h5.out.size) h7.out.size) (by omega))
        clear h1 h2 h3 h4 h5 h6 h7 hc4 hf4
        have hc0 : (r.data.toList ++ 128 :: List.replicate (63 - r.size) 0).length = 64 := by rw [List.length_append, List.length_cons, List.length_replicate, ← hrl.out]; omega
        refine (putWord_at _ (BitVec.ofNat 32 (8 * l.length / 4294967296)) (by rw [BitVec.toNat_ofNat]; omega) (w.heap.size + 1) 56 8 8 60 (bv (r.data.toList ++ 128 :: List.replicate (63 - r.size) 0)) _ (by omega) h8.out (by rw [bv_length, hc0]; omega)).mono ?_
        rintro e w5 ⟨rfl, h9, h10⟩
        rw [bv_splice] at h9
        have H9 := Lib.hid h9
        have S9 := Lib.hid (SA.out.other h10 (by omega))
        have B9 := Lib.hid (BA.out.trans (Gr.below h10 BA.out.size (by omega)))
        clear h9 h10
        go_wp2_with fail
        refine (putWord_at _ (BitVec.ofNat 32 (8 * l.length)) (by rw [BitVec.toNat_ofNat]; omega) (w.heap.size + 1) 60 4 4 60 _ _ (by omega) H9.out (by rw [bv_length, length_splice _ _ _ (by rw [Dg.be32_length, hc0]; omega), hc0]; omega)).mono ?_
        rintro e w6 ⟨rfl, h11, h12⟩
        rw [bv_splice, Dg.len_block _ hc0] at h11
        have H11 := Lib.hid h11
        have S11 := Lib.hid (S9.out.other h12 (by omega))
        have B11 := Lib.hid (B9.out.trans (Gr.below h12 B9.out.size (by omega)))
        clear h11 h12
        go_wp2_with fail
        refine (process_any (Dg.absorb n Dg.H0 l) _ (by rw [List.length_append, List.length_take, hc0, Dg.be64_length]; rfl) w.heap.size (w.heap.size + 1) 60 w6 S11.out H11.out (HE.out.new B11.out)).mono ?_
        rintro e w7 ⟨rfl, h13, h14⟩
        have H13 := Lib.hid h13
        have B13 := Lib.hid (B11.out.trans (Gr.below h14 B11.out.size (Nat.le_refl _)))
        clear h13 h14
        go_wp2_with fail
        refine (bytes_any _ w.heap.size w7 H13.out).mono ?_
        rintro e w8 ⟨rfl, h15⟩
        have B15 := Lib.hid (B13.out.trans (h15.mono B13.out.size))
        clear h15
        go_wp2
        go_ret
        refine ⟨?_, B15.out⟩
        have HX : (Dg.proc (Dg.absorb n Dg.H0 l) (List.take 56 (r.data.toList ++ 128 :: List.replicate (63 - r.size) 0) ++ Dg.be64 (8 * s.size))).bytes = Dg.sha s.data.toList := by rw [hl, Dg.sha_short l n r.size (by omega) (by omega), ← hr.out, Dg.short_take r.data.toList r.size hrl.out.symm (by omega), hll]
        exact congrArg (fun z : List UInt8 => Ending.returned (.string ⟨z.toArray⟩)) HX
end Go.Proofs.YtdleaipcogomfaaDoor
