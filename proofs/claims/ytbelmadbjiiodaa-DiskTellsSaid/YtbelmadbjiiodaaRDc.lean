/-
  The reference's read.
-/
import Derived.Test.YtbelmadbjiiodaaRDb
namespace Go.Proofs.Ytbelmadbjiiodaa
open Go Go.RowKit
theorem below_behind {w w' : World} (h : Below w.drew.heap.size w.drew w') : Below w.heap.size w w' := (below_drew (Below.refl w.heap.size w)).trans h
set_option maxHeartbeats 8000000 in
set_option maxRecDepth 100000 in
theorem rread_any {w : World} {g : Nat} {D : Dk.Disk} (h : RAt w g D) (f : Nat) (hf : f < 12) : Calls Try.prog 42 #[.pointer (some ⟨g, 0, none⟩), .int .i64 f] w fun e w' => e = .returned (.string (enc (Dk.read D f))) ∧ Below w.heap.size w w' := by
  obtain ⟨vl, vq, vk, hv⟩ := h
  have c0 := hv.cells.1
  have c1 := hv.cells.2.1
  obtain ⟨lb, lc, rfl, hlc, hls⟩ := hv.lshape
  obtain ⟨qa, gq, qc, rfl, hqa, hql, hqc, hqs⟩ := hv.qshape
  have cf := hls f hf
  have hgood := Lib.hid hv.good
  have HR := Lib.hid (show (Dk.read D f) = Dk.over f (D.last f) (D.queue.take D.queue.length) from by rw [List.take_length]; rfl)
  have H := Lib.hid hv
  obtain ⟨m, hm⟩ : ∃ m, D.queue.length = m := ⟨_, rfl⟩
  rw [hm] at hqa hql HR c1 H
  have HM := Lib.hid hm
  have HA := Lib.hid hqa
  have HQ := Lib.hid hqs
  have KEEP := Lib.hid (fun (w1 : World) (hb : Below w.heap.size w w1) => show w1.cell? ⟨g, 1, none⟩ = some (.slice qa m qc) from (World.cell?_of_block (a := ⟨g, 1, none⟩) (hb.block g hv.lt)).trans c1)
  have hlt := hv.lt
  have HQB := Lib.hid (fun (hp : 0 < m) => show gq < w.heap.size from own_lt hv.pend (by rw [hqa hp]; rfl))
  obtain ⟨s0, hs0⟩ : ∃ s, enc (D.last f) = s := ⟨_, rfl⟩
  rw [hs0] at cf
  have HS0 := Lib.hid (show s0.data.toList = D.last f from by rw [← hs0]; rfl)
  clear hv hqa hls hqs hm hs0 H
  go_enter Try.func42, Try.ntmps42
  go_wp2_with fail
  go_loopw [5, 6] (fun x5 i wr => ∃ (j : Nat) (x : ByteArray), i = .int .i64 j ∧ j ≤ m ∧ x5 = .string x ∧ Hid (x.data.toList = Dk.over f (D.last f) (D.queue.take j)) ∧ Hid (Below w.heap.size w wr)) (fun _ i _ => m - (intOf i).toNat)
  case atStart => exact ⟨0, _, rfl, Nat.zero_le _, rfl, HS0.out, Below.refl _ _⟩
  case round =>
    obtain ⟨j, x, rfl, hj, rfl, hO, hB⟩ := hrel
    have c1' := KEEP.out wr hB.out
    clear c0 c1 cf
    by_cases hlt2 : j < m
    · obtain ⟨p, hp⟩ : ∃ p, D.queue[j]? = some p := ⟨_, List.getElem?_eq_getElem (by rw [HM.out]; exact hlt2)⟩
      obtain rfl := HA.out (by omega)
      obtain ⟨d0, d1, d2⟩ := HQ.out j p hp
      have hpg := hgood.out.pcs p (List.mem_of_getElem? hp)
      have tr : ∀ k, wr.cell? ⟨gq, k, none⟩ = w.cell? ⟨gq, k, none⟩ := fun k => World.cell?_of_block (a := ⟨gq, k, none⟩) (hB.out.block gq (HQB.out (by omega)))
      rw [← tr] at d0 d1 d2
      obtain ⟨s, hs⟩ : ∃ s, enc p.s = s := ⟨_, rfl⟩
      have hs2 : s.data.toList = p.s := by rw [← hs]; rfl
      rw [hs] at d2
      obtain ⟨at_, hat⟩ : ∃ a, p.at_ = a := ⟨_, rfl⟩
      rw [hat] at d1
      have hb1 : at_ + s.size ≤ 16777216 := by rw [Lib.size_eq s, hs2, ← hat]; exact hpg.2.2
      have hxs : x.size ≤ 100000000 := by rw [Lib.size_eq x, hO.out]; exact Nat.le_trans (hgood.out.over f j hf) (by omega)
      clear tr
      by_cases hpf : p.f = f
      · have HF := Lib.hid (show (enc (Dk.put x.data.toList at_ s.data.toList)).data.toList = Dk.over f (D.last f) (D.queue.take (j + 1)) from by
          rw [Dk.over_snoc f _ _ j p hp, if_pos hpf, hs2, hat, hO.out]; rfl)
        rw [hpf] at d0
        have CP := Lib.hid (rput_any x s at_ hxs (by omega))
        clear hp hpg hpf hs hs2 hat hO
        go_wp2_with fail
        go_region_with (go_at_call 56; with_reducible refine (CP.out _).mono ?_; rintro _ w3 ⟨rfl, hb3⟩; have HB3 := Lib.hid (below_behind hb3))
        all_goals go_wp2
        all_goals exact ⟨⟨j + 1, _, by go_num, by omega, rfl, HF.out, hB.out.trans (HB3.out.mono hB.out.size)⟩, by simp [intOf]; omega⟩
      · have HF := Lib.hid (show Dk.over f (D.last f) (D.queue.take (j + 1)) = Dk.over f (D.last f) (D.queue.take j) from by
          rw [Dk.over_snoc f _ _ j p hp, if_neg hpf])
        obtain ⟨F, hF⟩ : ∃ F, p.f = F := ⟨_, rfl⟩
        rw [hF] at d0 hpf
        have e1 : ((F : Int) == (f : Int)) = false := by rw [beq_eq_false_iff_ne]; omega
        have e2 : ¬ ((F : Int) = (f : Int)) := by omega
        clear hp hpg hF hpf hs hs2 hat
        go_wp2
        go_roundw
        case rel => exact ⟨j + 1, _, by go_num, by omega, rfl, by rw [HF.out]; exact hO.out, hB.out⟩
        case measure => simp [intOf]; omega
    · obtain rfl : j = m := by omega
      have HE := Lib.hid (show x = enc (Dk.read D f) from by rw [HR.out, ← hO.out]; rfl)
      go_wp2
      go_ret
      exact ⟨ret_str HE.out, hB.out⟩
end Go.Proofs.Ytbelmadbjiiodaa
