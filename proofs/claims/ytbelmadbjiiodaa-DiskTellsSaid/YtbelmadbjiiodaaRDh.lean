/-
  The reference's Crash.
-/
import Derived.Test.YtbelmadbjiiodaaRDg
namespace Go.Proofs.Ytbelmadbjiiodaa
open Go Go.RowKit
theorem IR.rmv {w w' : World} {a : Option Addr} {b off g : Nat} {ks : List Int} (h : IR w a b off ks) (hm : RMv g w w') (hf : 0 < ks.length → ¬ RFoot w g b) : IR w' a b off ks :=
  ⟨h.addr, fun j hj => (World.cell?_of_block (a := ⟨b, off + j, none⟩) (hm.block b (h.lt (by omega)) (hf (by omega)))).trans (h.cell j hj), fun hp => Nat.lt_of_lt_of_le (h.lt hp) hm.size, h.fit⟩
set_option maxHeartbeats 1000000 in
set_option maxRecDepth 100000 in
theorem rcrash_down {w : World} {g : Nat} {D : Dk.Disk} (h : RAt w g D) (hd : D.down = true) (v : Value) : Calls Try.prog 38 #[.pointer (some ⟨g, 0, none⟩), v] w fun e w' => (∃ v, e = .returned v) ∧ w = w' := by
  obtain ⟨vl, vq, vk, hv⟩ := h
  have c3 := hv.cells.2.2.2.1
  rw [hd] at c3
  clear hv
  go_enter Try.func38, Try.ntmps38
  go_wp2
  (try simp only [Exit.inBlock, Exit.then]); refine bodyPost_ret (results_none rfl _ _ _) rfl ?_
  exact ⟨⟨_, rfl⟩, rfl⟩
set_option maxHeartbeats 8000000 in
set_option maxRecDepth 100000 in
theorem rcrash_any {w : World} {g : Nat} {D : Dk.Disk} (h : RAt w g D) (a : Option Addr) (b off n cap : Nat) (ks : List Int) (hk : IR w a b off ks) (hn : ks.length = n) (hf : 0 < ks.length → ¬ RFoot w g b) : Calls Try.prog 38 #[.pointer (some ⟨g, 0, none⟩), .slice a n cap] w fun e w' => (∃ v, e = .returned v) ∧ RAt w' g (Dk.crash D ks) ∧ RMv g w w' := by
  by_cases hd : D.down = true
  · refine (rcrash_down h hd _).mono ?_
    rintro e w' ⟨he, rfl⟩
    rw [Dk.down_crash hd]
    exact ⟨he, h, RMv.refl _ _⟩
  have hd' : D.down = false := by simpa using hd
  obtain ⟨F, hF⟩ : ∃ F : Nat → List UInt8, F = fun f => Dk.overK f (D.last f) D.queue ks := ⟨_, rfl⟩
  have hcr : Dk.crash D ks = { D with last := F, queue := [], down := true, armed := 0 } := by
    unfold Dk.crash
    rw [hd', hF]; rfl
  rw [hcr]
  obtain ⟨vl, vq, vk, hv⟩ := h
  have c3 := hv.cells.2.2.2.1
  rw [hd'] at c3
  have c4 := hv.cells.2.2.2.2.1
  have f3 := hv.blk.free 3
  have f4 := hv.blk.free 4
  obtain ⟨W1, hW1⟩ : ∃ x, w.setCell ⟨g, 3, none⟩ (.bool true) = x := ⟨_, rfl⟩
  have h1 := hv.put (D' := { D with down := true }) 3 (.bool true) rfl hv.last hv.pend hv.keep ⟨hv.good.len, hv.good.pcs, hv.good.q, hv.good.lost0, hv.good.lost1, hv.good.armed0, hv.good.armed1⟩
  have m1 := (RMv.refl g w).store hv.blk 3 (.bool true) (fun x hx => by cases hx)
  rw [hW1] at h1 m1
  obtain ⟨W2, hW2⟩ : ∃ x, W1.setCell ⟨g, 4, none⟩ (.int .i64 0) = x := ⟨_, rfl⟩
  have h2 := h1.put (D' := { D with down := true, armed := 0 }) 4 (.int .i64 0) rfl h1.last h1.pend h1.keep ⟨hv.good.len, hv.good.pcs, hv.good.q, hv.good.lost0, hv.good.lost1, by show (0 : Int) ≤ 0; omega, by show (0 : Int) ≤ 9223372036854775807; omega⟩
  have m2 := m1.store h1.blk 4 (.int .i64 0) (fun x hx => by cases hx)
  have e4 := h1.cells.2.2.2.2.1
  have g4 := h1.blk.free 4
  rw [hW2] at h2 m2
  have H2 := Lib.hid h2
  have M2 := Lib.hid m2
  have HK := Lib.hid (hk.rmv m2 hf)
  have HN := Lib.hid hn
  have HF := Lib.hid hF
  clear hv h1 m1 h2 m2 hk hn hf hF hcr
  go_enter Try.func38, Try.ntmps38
  go_wp2_with fail
  go_loopw [4, 5] (fun x4 x5 wr => ∃ k : Nat, x5 = .int .i64 k ∧ k ≤ 12 ∧ Hid (wr.ownsRow W2.heap.size 9 1 x4 ((List.range k).map F).length (rs ((List.range k).map F))) ∧ Hid (∀ f, f < k → (F f).length ≤ 16777216) ∧ Hid (Below W2.heap.size W2 wr)) (fun _ i _ => 12 - (intOf i).toNat)
  case atStart => exact ⟨0, rfl, by omega, ⟨rfl, .inl ⟨rfl, rfl⟩⟩, fun f hf => by omega, Below.refl _ _⟩
  case round =>
    obtain ⟨k, rfl, hk, hO, hL, hB⟩ := hrel
    have hrl := H2.out.below hB.out
    by_cases hk12 : k < 12
    · have CA := Lib.hid (rafter_any (w := wr) ⟨vl, vq, vk, hrl⟩ k hk12 a b off n cap ks (HK.out.below hB.out) HN.out)
      have hFk : Dk.overK k (D.last k) D.queue ks = F k := by rw [HF.out]
      dsimp only at CA
      rw [hFk] at CA
      have hsn : (List.range (k + 1)).map F = (List.range k).map F ++ [F k] := by rw [List.range_succ, List.map_append]; rfl
      obtain ⟨L, hLL⟩ : ∃ L, (List.range k).map F = L := ⟨_, rfl⟩
      have hlen : L.length = k := by rw [← hLL]; simp
      rw [hLL] at hO hsn
      obtain ⟨pa, pn, pcap, rfl⟩ := own_slice hO.out
      have HSN := Lib.hid hsn
      have HW := Lib.hid (fun (w2 : World) (hb2 : Below wr.heap.size wr w2) (o : Obj) => r_below hO.out (hb2.trans ((r_new w2 o).mono hb2.size)))
      have HB := Lib.hid (fun (w2 : World) (hb2 : Below wr.heap.size wr w2) (o : Obj) => r_to hB.out (Nat.le_refl _) (hb2.trans ((r_new w2 o).mono hb2.size)))
      have HS := Lib.hid (fun (w2 : World) (hb2 : Below wr.heap.size wr w2) (o : Obj) => show W2.heap.size ≤ (w2.alloc o).heap.size from by rw [alloc_size]; have := hb2.size; have := hB.out.size; omega)
      have hkk : L.length ≤ 1000000000 := by omega
      clear hLL hrl hFk hsn hlen
      go_wp2_with (first | (at_builtin; refine wpList_app_s rfl (.tmp 20) (.tmp 25) rfl W2.heap.size rfl (HW.out _ HB2.out _) ⟨w2.heap.size, 0, none⟩ 1 (F k) rfl ((Blk.made w2 #[.string (enc (F k))] 9).cell (j := 0) rfl) hkk (HS.out _ HB2.out _) ?_; intro v1 w1 ho1 hg1 _; have HO1 := Lib.hid ho1; have HB1 := Lib.hid (r_grown (HB.out _ HB2.out _) (Nat.le_refl _) hg1 (r_from hO.out)); clear ho1 hg1) | (go_at_call 55; with_reducible refine CA.out.mono ?_; rintro _ w2 ⟨rfl, hl2, hb2⟩; have HL2 := Lib.hid hl2; have HB2 := Lib.hid hb2; clear hl2 hb2))
      go_roundw
      case rel => exact ⟨k + 1, by go_num, by omega, by rw [HSN.out]; exact HO1.out, fun f hf => by
        by_cases h : f = k
        · rw [h]; exact HL2.out
        · exact hL.out f (by omega), HB1.out⟩
      case measure => simp [intOf]; omega
    · obtain rfl : k = 12 := by omega
      obtain ⟨pa, pn, pcap, rfl⟩ := own_slice hO.out
      obtain ⟨V, hV⟩ : ∃ V, Value.slice pa pn pcap = V := ⟨_, rfl⟩
      have c0 := hrl.cells.1
      have f0 := hrl.blk.free 0
      have hO' := own_base hO.out
      have hfr := r_from hO.out
      have hlen : ((List.range 12).map F).length = 12 := by simp
      have h3 := hrl.put (D' := { D with last := F, down := true, armed := 0 }) 0 (.slice pa pn pcap) rfl (by rw [hlen] at hO'; exact hO') hrl.pend hrl.keep ⟨hL.out, hrl.good.pcs, hrl.good.q, hrl.good.lost0, hrl.good.lost1, hrl.good.armed0, hrl.good.armed1⟩
      have m3 := (RMv.of_below hB.out H2.out.lt).store hrl.blk 0 (.slice pa pn pcap) (fun x hx => .inr (.inr (hfr x hx)))
      have e1 := h3.cells.2.1
      have f1 := h3.blk.free 1
      have h4 := h3.put (D' := { D with last := F, queue := [], down := true, armed := 0 }) 1 (.slice none 0 0) rfl h3.last ⟨rfl, .inl ⟨rfl, rfl⟩⟩ h3.keep ⟨hL.out, (fun p hp => by cases hp), Nat.zero_le _, hrl.good.lost0, hrl.good.lost1, hrl.good.armed0, hrl.good.armed1⟩
      have m4 := m3.store h3.blk 1 (.slice none 0 0) (fun x hx => by cases hx)
      have H4 := Lib.hid h4
      have M4 := Lib.hid m4
      clear h3 m3 h4 m4 hO' hfr hrl hV
      go_wp2
      go_end0
      exact ⟨⟨_, rfl⟩, ⟨_, _, _, H4.out⟩, M2.out.trans M4.out⟩
end Go.Proofs.Ytbelmadbjiiodaa
