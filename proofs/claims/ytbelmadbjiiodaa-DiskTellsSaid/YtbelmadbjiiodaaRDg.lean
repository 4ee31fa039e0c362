/-
  The reference's after: a file behind a crash.
-/
import Derived.Test.YtbelmadbjiiodaaRDf
namespace Go.Proofs.Ytbelmadbjiiodaa
open Go Go.RowKit
namespace Dk
theorem overK_short (f : Nat) : ∀ (q : List Piece) (ks : List Int) (s : B) (j : Nat), ks.length ≤ j → overK f s (q.take j) ks = overK f s q ks
  | [], _, _, _, _ => by simp
  | p :: q, [], s, j, _ => by cases j <;> simp [overK]
  | p :: q, k :: ks, s, 0, h => by simp at h
  | p :: q, k :: ks, s, j + 1, h => by
    have := overK_short f q ks (if p.f = f ∧ (k = 1 ∨ k = 2) then put s p.at_ (part p (some k)) else s) j (by simpa using h)
    simpa [overK] using this
end Dk
theorem put_size (x : ByteArray) (at_ : Nat) (t : ByteArray) (hx : x.size ≤ 16777216) (ht : at_ + t.size ≤ 16777216) : (enc (Dk.put x.data.toList at_ t.data.toList)).size ≤ 16777216 := by
  rw [Lib.size_eq]
  show (Dk.put x.data.toList at_ t.data.toList).length ≤ 16777216
  rw [Dk.put_length, ← Lib.size_eq, ← Lib.size_eq]
  omega
set_option maxHeartbeats 8000000 in
set_option maxRecDepth 100000 in
theorem rafter_any {w : World} {g : Nat} {D : Dk.Disk} (h : RAt w g D) (f : Nat) (hf : f < 12) (a : Option Addr) (b off n cap : Nat) (ks : List Int) (hk : IR w a b off ks) (hn : ks.length = n) : Calls Try.prog 55 #[.pointer (some ⟨g, 0, none⟩), .int .i64 f, .slice a n cap] w fun e w' => e = .returned (.string (enc (Dk.overK f (D.last f) D.queue ks))) ∧ (Dk.overK f (D.last f) D.queue ks).length ≤ 16777216 ∧ Below w.heap.size w w' := by
  obtain ⟨vl, vq, vk, hv⟩ := h
  have c0 := hv.cells.1
  have c1 := hv.cells.2.1
  obtain ⟨lb, lc, rfl, hlc, hls⟩ := hv.lshape
  obtain ⟨qa, gq, qc, rfl, hqa, hql, hqc, hqs⟩ := hv.qshape
  have cf := hls f hf
  have hgood := Lib.hid hv.good
  have HR := Lib.hid (show Dk.overK f (D.last f) D.queue ks = Dk.overK f (D.last f) (D.queue.take D.queue.length) ks from by rw [List.take_length])
  obtain ⟨m, hm⟩ : ∃ m, D.queue.length = m := ⟨_, rfl⟩
  rw [hm] at hqa hql HR c1
  have HM := Lib.hid hm
  have HA := Lib.hid hqa
  have HQ := Lib.hid hqs
  have HK := Lib.hid hk
  have HN := Lib.hid hn
  have KEEP := Lib.hid (fun (w1 : World) (hb : Below w.heap.size w w1) => show w1.cell? ⟨g, 1, none⟩ = some (.slice qa m qc) from (World.cell?_of_block (a := ⟨g, 1, none⟩) (hb.block g hv.lt)).trans c1)
  have hlt := hv.lt
  have HQB := Lib.hid (fun (hp : 0 < m) => show gq < w.heap.size from own_lt hv.pend (by rw [hqa hp]; rfl))
  have HSL := Lib.hid (hv.good.len f hf)
  have HG := Lib.hid (show m ≤ 1000000 from hm ▸ hv.good.q)
  obtain ⟨s0, hs0⟩ : ∃ s, enc (D.last f) = s := ⟨_, rfl⟩
  rw [hs0] at cf
  have HS0 := Lib.hid (show s0.data.toList = D.last f from by rw [← hs0]; rfl)
  clear hv hqa hls hqs hm hs0 hk hn
  go_enter Try.func55, Try.ntmps55
  go_wp2_with fail
  go_loopw [7, 8] (fun x7 i wr => ∃ (j : Nat) (x : ByteArray), i = .int .i64 j ∧ j ≤ m ∧ x7 = .string x ∧ x.size ≤ 16777216 ∧ Hid (x.data.toList = Dk.overK f (D.last f) (D.queue.take j) ks) ∧ Hid (Below w.heap.size w wr)) (fun _ i _ => m - (intOf i).toNat)
  case atStart => exact ⟨0, _, rfl, Nat.zero_le _, rfl, by rw [Lib.size_eq, HS0.out]; exact HSL.out, by rw [HS0.out]; unfold Dk.overK; rfl, Below.refl _ _⟩
  case round =>
    obtain ⟨j, x, rfl, hj, rfl, hxs, hO, hB⟩ := hrel
    have c1' := KEEP.out wr hB.out
    have hm1 := HG.out
    clear c0 c1 cf
    by_cases hlt2 : j < m
    · obtain ⟨p, hp⟩ : ∃ p, D.queue[j]? = some p := ⟨_, List.getElem?_eq_getElem (by rw [HM.out]; exact hlt2)⟩
      obtain rfl := HA.out (by omega)
      have hgl := HQB.out (by omega)
      obtain ⟨d0, d1, d2⟩ := HQ.out j p hp
      have hpg := hgood.out.pcs p (List.mem_of_getElem? hp)
      have tr : ∀ k, wr.cell? ⟨gq, k, none⟩ = w.cell? ⟨gq, k, none⟩ := fun k => World.cell?_of_block (a := ⟨gq, k, none⟩) (hB.out.block gq hgl)
      rw [← tr] at d0 d1 d2
      have hsn := Dk.overK_snoc f D.queue ks (D.last f) j p hp
      obtain ⟨s, hs⟩ : ∃ s, enc p.s = s := ⟨_, rfl⟩
      have hs2 : s.data.toList = p.s := by rw [← hs]; rfl
      rw [hs] at d2
      obtain ⟨at_, hat⟩ : ∃ a, p.at_ = a := ⟨_, rfl⟩
      rw [hat] at d1
      have hb1 : at_ + s.size ≤ 16777216 := by rw [Lib.size_eq s, hs2, ← hat]; exact hpg.2.2
      have hgs := hB.out.size
      have hne1 : gq ≠ wr.heap.size := by omega
      have hne2 : g ≠ wr.heap.size := by omega
      clear tr
      by_cases hjn : j < n
      · obtain ⟨k, hk⟩ : ∃ k, ks[j]? = some k := ⟨_, List.getElem?_eq_getElem (by rw [HN.out]; exact hjn)⟩
        have hkl := HK.out.lt (by rw [HN.out]; omega)
        obtain rfl := HK.out.addr (by rw [HN.out]; omega)
        have ck := HK.out.cell j (by rw [HN.out]; exact hjn)
        rw [List.getD_eq_getElem?_getD, hk, Option.getD_some] at ck
        rw [← World.cell?_of_block (a := ⟨b, off + j, none⟩) (hB.out.block b hkl)] at ck
        have hne3 : b ≠ wr.heap.size := by omega
        rw [hk] at hsn
        simp only at hsn
        by_cases hpf : p.f = f
        · have HBA := Lib.hid (r_to hB.out (Nat.le_refl _) (r_new wr (.cells #[.int .i64 (f : Int), .int .i64 (at_ : Int), .string s] 71)))
          rw [hpf] at d0
          rw [← World.cell?_of_block (a := ⟨b, off + j, none⟩) ((r_new wr (.cells #[.int .i64 (f : Int), .int .i64 (at_ : Int), .string s] 71)).block b (by omega))] at ck
          have hbn : b < (wr.alloc (.cells #[.int .i64 (f : Int), .int .i64 (at_ : Int), .string s] 71)).heap.size := by rw [alloc_size]; omega
          have HKB := Lib.hid (fun (w3 : World) (hb3 : Below (wr.alloc (.cells #[.int .i64 (f : Int), .int .i64 (at_ : Int), .string s] 71)).heap.size (wr.alloc (.cells #[.int .i64 (f : Int), .int .i64 (at_ : Int), .string s] 71)) w3) => (World.cell?_of_block (a := ⟨b, off + j, none⟩) (hb3.block b hbn)).trans ck)
          clear hbn
          by_cases h1 : k = 1
          · subst h1
            rw [if_pos ⟨hpf, .inl rfl⟩, ← hO.out, hat] at hsn
            have HF := Lib.hid (show (enc (Dk.put x.data.toList at_ s.data.toList)).data.toList = Dk.overK f (D.last f) (D.queue.take (j + 1)) ks from by rw [hsn, hs2]; rfl)
            have CP := Lib.hid (rput_any x s at_ (by omega) (by omega))
            have HPS := Lib.hid (put_size x at_ s hxs (by omega))
            clear hp hpg hpf hs hs2 hat hsn hO
            go_wp2_with (go_at_call 56; with_reducible refine (CP.out _).mono ?_; rintro _ w3 ⟨rfl, hb3⟩; have ck3 := HKB.out _ hb3; have HB3 := Lib.hid hb3; clear hb3)
            go_roundw
            case rel => exact ⟨j + 1, _, by go_num, by omega, rfl, HPS.out, HF.out, r_to HBA.out (Nat.le_refl _) HB3.out⟩
            case measure => simp [intOf]; omega
          · have b1 : (k == 1) = false := by rw [beq_eq_false_iff_ne]; exact h1
            by_cases h2 : k = 2
            · subst h2
              rw [if_pos ⟨hpf, .inr rfl⟩, ← hO.out, hat] at hsn
              by_cases h24 : s.size < 24
              · have e24 : (s.size : Int) < 24 := by omega
                have HF := Lib.hid (show (enc (Dk.put x.data.toList at_ s.data.toList)).data.toList = Dk.overK f (D.last f) (D.queue.take (j + 1)) ks from by
                  have : Dk.part p (some 2) = s.data.toList := by
                    rw [part_partB, hs2]
                    show p.s.take 24 = _
                    rw [List.take_of_length_le (by rw [← hs2, ← Lib.size_eq]; omega)]
                  rw [hsn, this]; rfl)
                have CP := Lib.hid (rput_any x s at_ (by omega) (by omega))
                have HPS := Lib.hid (put_size x at_ s hxs (by omega))
                clear hp hpg hpf hs hs2 hat hsn hO
                go_wp2_with fail
                go_region_with (go_at_call 56; with_reducible refine (CP.out _).mono ?_; rintro _ w3 ⟨rfl, hb3⟩; have HB3 := Lib.hid (r_to HBA.out (Nat.le_refl _) (below_behind hb3)))
                all_goals go_wp2
                all_goals exact ⟨⟨j + 1, _, by go_num, by omega, rfl, HPS.out, HF.out, HB3.out⟩, by simp [intOf]; omega⟩
              · have e24 : ¬ ((s.size : Int) < 24) := by omega
                obtain ⟨t, ht⟩ : ∃ t, s.extract 0 24 = t := ⟨_, rfl⟩
                have htl : t.data.toList = s.data.toList.take 24 := by rw [← ht]; exact ext_take s 24
                have hts : t.size = 24 := by rw [Lib.size_eq, htl, List.length_take, ← Lib.size_eq]; omega
                have HF := Lib.hid (show (enc (Dk.put x.data.toList at_ t.data.toList)).data.toList = Dk.overK f (D.last f) (D.queue.take (j + 1)) ks from by
                  have : Dk.part p (some 2) = t.data.toList := by
                    rw [part_partB, htl, hs2]
                    rfl
                  rw [hsn, this]; rfl)
                have CP := Lib.hid (rput_any x t at_ (by omega) (by omega))
                have HPS := Lib.hid (put_size x at_ t hxs (by omega))
                clear hp hpg hpf hs hs2 hat hsn hO htl hts
                go_wp2_with fail
                go_region_with (go_at_call 56; with_reducible refine (CP.out _).mono ?_; rintro _ w3 ⟨rfl, hb3⟩; have HB3 := Lib.hid (r_to HBA.out (Nat.le_refl _) (below_behind hb3)))
                all_goals go_wp2
                all_goals exact ⟨⟨j + 1, _, by go_num, by omega, rfl, HPS.out, HF.out, HB3.out⟩, by simp [intOf]; omega⟩
            · rw [if_neg (fun h => by rcases h.2 with h | h <;> contradiction)] at hsn
              have HE := Lib.hid hsn
              have b2 : (k == 2) = false := by rw [beq_eq_false_iff_ne]; exact h2
              clear hp hpg hpf hs hs2 hat hsn
              go_wp2
              go_roundw
              case rel => exact ⟨j + 1, _, by go_num, by omega, rfl, hxs, by rw [HE.out]; exact hO.out, HBA.out⟩
              case measure => simp [intOf]; omega
        · rw [if_neg (fun h => hpf h.1)] at hsn
          have HE := Lib.hid hsn
          obtain ⟨F, hF⟩ : ∃ F, p.f = F := ⟨_, rfl⟩
          rw [hF] at d0 hpf
          have b1 : ((F : Int) != (f : Int)) = true := by simp; omega
          clear hp hpg hF hpf hs hs2 hat hsn
          go_wp2
          go_roundw
          case rel => exact ⟨j + 1, _, by go_num, by omega, rfl, hxs, by rw [HE.out]; exact hO.out, r_to hB.out (Nat.le_refl _) (r_new wr _)⟩
          case measure => simp [intOf]; omega
      · have HE := Lib.hid (show Dk.overK f (D.last f) D.queue ks = x.data.toList from by rw [hO.out, Dk.overK_short f D.queue ks (D.last f) j (by rw [HN.out]; omega)])
        clear hp hpg hs hs2 hat hsn
        go_wp2
        go_ret
        exact ⟨ret_str (by rw [HE.out]; rfl), by rw [HE.out, ← Lib.size_eq]; exact hxs, hB.out⟩
    · obtain rfl : j = m := by omega
      have HE := Lib.hid (show Dk.overK f (D.last f) D.queue ks = x.data.toList from by rw [HR.out, ← hO.out])
      go_wp2
      go_ret
      exact ⟨ret_str (by rw [HE.out]; rfl), by rw [HE.out, ← Lib.size_eq]; exact hxs, hB.out⟩
end Go.Proofs.Ytbelmadbjiiodaa
