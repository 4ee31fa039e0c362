/-
  Flush, Cut, Turn.
-/
import Derived.Test.YtbpodclodflgfaaKM
import Derived.Test.YtbpodclodflgfaaKN
namespace Go.Proofs.Ytbpodclodflgfaa
open Go Go.RowKit
namespace Dk
theorem may_is {D : Disk} (hd : D.down = false) (f : Int) : may D f = if isFile f = true then .ok else .arg := by
  unfold may
  rw [hd]
  simp
theorem flushB_is (D : Disk) (hd : D.down = false) (f : Int) : flushB D f = if isFile f = true then (if 0 < D.lost then (.lost, { D with lost := D.lost - 1 }) else (.ok, settled D f.toNat)) else (.arg, D) := by
  unfold flushB
  rw [may_is hd]
  by_cases h : isFile f = true
  · rw [if_pos h, if_pos h, if_pos rfl]; rfl
  · rw [if_neg h, if_neg h, if_neg (by decide)]
def cutTo (D : Disk) (f n : Nat) : Disk := { settled D f with last := setLast (settled D f).last f ((read D f).take n) }
theorem cutB_is (D : Disk) (hd : D.down = false) (f n : Int) : cutB D f n = if isFile f = true then (if n < 0 ∨ ((read D f.toNat).length : Int) < n then (.arg, D) else (.ok, cutTo D f.toNat n.toNat)) else (.arg, D) := by
  unfold cutB
  rw [may_is hd]
  by_cases h : isFile f = true
  · have e : setLast (settled D f.toNat).last f.toNat ((read D f.toNat).take n.toNat) = setLast D.last f.toNat ((read D f.toNat).take n.toNat) := setLast_twice _ _ _ _
    unfold cutTo
    rw [e, if_pos h, if_pos h, if_pos rfl]; rfl
  · rw [if_neg h, if_neg h, if_neg (by decide)]
theorem settled_last (D : Disk) (f : Nat) : (settled D f).last f = read D f := by unfold settled setLast; simp
end Dk
set_option maxHeartbeats 2000000 in
set_option maxRecDepth 100000 in
theorem flush_any (g : Nat) (D : Dk.Disk) (f : Int) (w : World) (h : DiskAt w g D) :
    Calls Try.prog 29 #[.pointer (some ⟨g, 0, none⟩), .int .i64 f] w fun e w' => e = .returned (.int .i64 (Dk.ec (Dk.flush D f).1)) ∧ DiskAt w' g (Dk.flush D f).2 ∧ Mv g w w' := by
  have C1 := Lib.hid (fails_any g D w h)
  unfold Dk.flush
  obtain ⟨D1, hD1⟩ : ∃ D1, Dk.comes D none = D1 := ⟨_, rfl⟩
  rw [hD1] at C1 ⊢
  clear hD1
  by_cases hd : D1.down = true
  · have e : Dk.flushB D1 f = (.down, D1) := by unfold Dk.flushB; rw [Dk.may_down hd, if_neg (by decide)]
    rw [e]
    rw [hd] at C1
    clear h e
    go_enter Try.func29, Try.ntmps29
    go_wp2_with (go_at_call 51; refine C1.out.mono ?_; rintro _ w1 ⟨rfl, hv1, hm1⟩; have HV1 := Lib.hid hv1; have HM1 := Lib.hid hm1; clear hv1 hm1)
    go_ret
    exact ⟨rfl, HV1.out, HM1.out⟩
  · have hd' : D1.down = false := by simpa using hd
    rw [Dk.flushB_is D1 hd']
    rw [hd'] at C1
    have C2 := Lib.hid (fun w1 : World => isFile_any f w1)
    by_cases hf : Dk.isFile f = true
    · obtain ⟨f0, f1⟩ := (Dk.isFile_iff f).1 hf
      rw [if_pos hf]
      rw [hf] at C2
      obtain ⟨fn, rfl⟩ : ∃ n : Nat, f = (n : Int) := ⟨f.toNat, by omega⟩
      rw [show ((fn : Int)).toNat = fn from rfl]
      have hfn : fn < 12 := by omega
      by_cases hl : 0 < D1.lost
      · rw [if_pos hl]
        obtain ⟨lo, hlo⟩ : ∃ a, D1.lost = a := ⟨_, rfl⟩
        have KEY := Lib.hid (fun (w1 : World) (hv : DiskAt w1 g D1) => show w1.cell? ⟨g, 14, none⟩ = some (.int .i64 lo) ∧ w1.frozen? ⟨g, 14, none⟩ = false ∧ lo ≤ 9223372036854775807 ∧ Hid (DiskAt (w1.setCell ⟨g, 14, none⟩ (.int .i64 (lo - 1))) g { D1 with lost := lo - 1 } ∧ Mv g w1 (w1.setCell ⟨g, 14, none⟩ (.int .i64 (lo - 1)))) from by
          obtain ⟨vs, q, k, hv⟩ := hv
          have g1 := hv.good
          exact ⟨by rw [← hlo]; exact hv.clost, hv.blk.free 14, by rw [← hlo]; exact g1.lost1, ⟨_, _, _, hv.mark 14 _ { D1 with lost := lo - 1 } _ _ rfl rfl rfl (fun ha => hv.keep_set ha 14 _) rfl ⟨g1.len, g1.pcs, g1.q, by show (0 : Int) ≤ lo - 1; omega, by have := g1.lost1; show lo - 1 ≤ _; omega, g1.armed0, g1.armed1⟩ hv.kone⟩, Mv.set hv.blk 14 _ (fun x hx => by cases hx)⟩)
        rw [hlo] at hl ⊢
        clear h hlo hd hd' hf
        go_enter Try.func29, Try.ntmps29
        go_wp2_with (first | (go_at_call 51; refine C1.out.mono ?_; rintro _ w1 ⟨rfl, hv1, hm1⟩; obtain ⟨cc14, ff14, hlo1, HK⟩ := KEY.out w1 hv1; have HV1 := Lib.hid hv1; have HM1 := Lib.hid hm1; clear hv1 hm1) | (go_at_call 46; refine (C2.out _).mono ?_; rintro _ w2 ⟨rfl, rfl⟩))
        go_ret
        exact ⟨rfl, HK.out.1, HM1.out.trans HK.out.2⟩
      · rw [if_neg hl]
        obtain ⟨lo, hlo⟩ : ∃ a, D1.lost = a := ⟨_, rfl⟩
        have hl2 : ¬ 0 < lo := by rw [← hlo]; exact hl
        have KEY := Lib.hid (fun (w1 : World) (hv : DiskAt w1 g D1) => show w1.cell? ⟨g, 14, none⟩ = some (.int .i64 lo) from by
          obtain ⟨vs, q, k, hv⟩ := hv
          rw [← hlo]; exact hv.clost)
        have C3 := Lib.hid (fun (w1 : World) (hv : DiskAt w1 g D1) => show Calls Try.prog 52 #[.pointer (some ⟨g, 0, none⟩), .int .i64 (fn : Int)] w1 fun e w' => (∃ v, e = .returned v) ∧ DiskAt w' g (Dk.settled D1 fn) ∧ Mv g w1 w' from by
          obtain ⟨vs, q, k, hv⟩ := hv
          refine (settle_any g vs q k D1 fn hfn w1 hv).mono ?_
          rintro e w' ⟨h1, ⟨vs', q', h2⟩, h3⟩
          exact ⟨h1, ⟨_, _, _, h2⟩, h3⟩)
        clear h hlo hd hd' hf hl
        go_enter Try.func29, Try.ntmps29
        go_wp2_with (first | (go_at_call 51; refine C1.out.mono ?_; rintro _ w1 ⟨rfl, hv1, hm1⟩; have cc14 := KEY.out w1 hv1; have HV1 := Lib.hid hv1; have HM1 := Lib.hid hm1; clear hv1 hm1) | (go_at_call 46; refine (C2.out _).mono ?_; rintro _ w2 ⟨rfl, rfl⟩) | (go_at_call 52; refine (C3.out _ HV1.out).mono ?_; rintro _ w3 ⟨⟨v3, rfl⟩, hv3, hm3⟩; have HV3 := Lib.hid hv3; have HM3 := Lib.hid hm3; clear hv3 hm3))
        go_ret
        exact ⟨rfl, HV3.out, HM1.out.trans HM3.out⟩
    · rw [if_neg hf]
      have hf' : Dk.isFile f = false := by simpa using hf
      rw [hf'] at C2
      clear h hd hd' hf hf'
      go_enter Try.func29, Try.ntmps29
      go_wp2_with (first | (go_at_call 51; refine C1.out.mono ?_; rintro _ w1 ⟨rfl, hv1, hm1⟩; have HV1 := Lib.hid hv1; have HM1 := Lib.hid hm1; clear hv1 hm1) | (go_at_call 46; refine (C2.out _).mono ?_; rintro _ w2 ⟨rfl, rfl⟩))
      go_ret
      exact ⟨rfl, HV1.out, HM1.out⟩
end Go.Proofs.Ytbpodclodflgfaa
