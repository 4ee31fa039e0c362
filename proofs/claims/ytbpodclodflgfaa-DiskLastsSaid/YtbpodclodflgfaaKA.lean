/-
  The small calls of the disk.
-/
import Derived.Test.YtbpodclodflgfaaKDisk
namespace Go.Proofs.Ytbpodclodflgfaa
open Go Go.RowKit
set_option maxHeartbeats 1000000 in
set_option maxRecDepth 100000 in
theorem isFile_any (f : Int) (w : World) : Calls Try.prog 46 #[.int .i64 f] w fun e w' => e = .returned (.bool (Dk.isFile f)) ∧ w = w' := by
  by_cases h0 : 0 ≤ f
  · by_cases h1 : f ≤ 11
    · have e : Dk.isFile f = true := by unfold Dk.isFile; simp [h0, h1]
      have a1 : f < 12 := by omega
      rw [e]
      go_enter Try.func46, Try.ntmps46
      go_wp2
      go_ret
      exact ⟨rfl, rfl⟩
    · have e : Dk.isFile f = false := by unfold Dk.isFile; simp [h1]
      have a1 : ¬ f < 12 := by omega
      have a2 : 12 ≤ f := by omega
      rw [e]
      go_enter Try.func46, Try.ntmps46
      go_wp2
      go_ret
      exact ⟨rfl, rfl⟩
  · have e : Dk.isFile f = false := by unfold Dk.isFile; simp [h0]
    have a1 : f < 0 := by omega
    rw [e]
    go_enter Try.func46, Try.ntmps46
    go_wp2
    go_ret
    exact ⟨rfl, rfl⟩
set_option maxHeartbeats 1000000 in
set_option maxRecDepth 100000 in
theorem down_any (g : Nat) (vs : Nat → Value) (q k : Value) (D : Dk.Disk) (w : World) (h : DiskV w g vs q k D) :
    Calls Try.prog 17 #[.pointer (some ⟨g, 0, none⟩)] w fun e w' => e = .returned (.bool D.down) ∧ w = w' := by
  have c := h.cdown
  clear h
  go_enter Try.func17, Try.ntmps17
  go_wp2
  go_ret
  exact ⟨rfl, rfl⟩
set_option maxHeartbeats 1000000 in
set_option maxRecDepth 100000 in
theorem start_any (g : Nat) (vs : Nat → Value) (q k : Value) (D : Dk.Disk) (w : World) (h : DiskV w g vs q k D) :
    Calls Try.prog 21 #[.pointer (some ⟨g, 0, none⟩)] w fun e w' => (∃ v, e = .returned v) ∧ DiskV w' g vs q k (Dk.start D) ∧ Mv g w w' := by
  have c := h.cdown
  have c2 := h.blk.free 13
  have H := Lib.hid h
  clear h
  go_enter Try.func21, Try.ntmps21
  go_wp2
  go_end0
  exact ⟨⟨_, rfl⟩, H.out.mark 13 _ (Dk.start D) _ _ rfl rfl rfl (fun ha => H.out.keep_set ha 13 _) rfl ⟨H.out.good.len, H.out.good.pcs, H.out.good.q, H.out.good.lost0, H.out.good.lost1, H.out.good.armed0, H.out.good.armed1⟩ H.out.kone, Mv.set H.out.blk 13 _ (fun x hx => by cases hx)⟩
set_option maxHeartbeats 1000000 in
set_option maxRecDepth 100000 in
theorem lose_any (g : Nat) (vs : Nat → Value) (q k : Value) (D : Dk.Disk) (n : Int) (w : World) (h : DiskV w g vs q k D) (hn : n ≤ 9223372036854775807) :
    Calls Try.prog 30 #[.pointer (some ⟨g, 0, none⟩), .int .i64 n] w fun e w' => (∃ v, e = .returned v) ∧ DiskV w' g vs q k (Dk.lose D n) ∧ Mv g w w' := by
  have c := h.clost
  have c2 := h.blk.free 14
  have H := Lib.hid h
  clear h
  by_cases h0 : 0 ≤ n
  · have HM := Lib.hid (show Dk.lose D n = { D with lost := n } from by unfold Dk.lose; rw [Int.max_eq_left h0])
    go_enter Try.func30, Try.ntmps30
    go_wp2
    all_goals go_end0
    all_goals rw [HM.out]
    all_goals first | (exfalso; omega) | exact ⟨⟨_, rfl⟩, H.out.mark 14 _ { D with lost := n } _ _ rfl rfl rfl (fun ha => H.out.keep_set ha 14 _) rfl ⟨H.out.good.len, H.out.good.pcs, H.out.good.q, h0, hn, H.out.good.armed0, H.out.good.armed1⟩ H.out.kone, Mv.set H.out.blk 14 _ (fun x hx => by cases hx)⟩
  · have HM := Lib.hid (show Dk.lose D n = { D with lost := 0 } from by unfold Dk.lose; rw [Int.max_eq_right (by omega)])
    go_enter Try.func30, Try.ntmps30
    go_wp2
    all_goals go_end0
    all_goals rw [HM.out]
    all_goals first | (exfalso; omega) | exact ⟨⟨_, rfl⟩, H.out.mark 14 _ { D with lost := 0 } _ _ rfl rfl rfl (fun ha => H.out.keep_set ha 14 _) rfl ⟨H.out.good.len, H.out.good.pcs, H.out.good.q, (by decide : (0 : Int) ≤ 0), (by decide : (0 : Int) ≤ 9223372036854775807), H.out.good.armed0, H.out.good.armed1⟩ H.out.kone, Mv.set H.out.blk 14 _ (fun x hx => by cases hx)⟩
namespace Dk
def tick (D : Disk) : Disk := { D with armed := if D.armed = 0 then 0 else D.armed - 1 }
end Dk
set_option maxHeartbeats 1000000 in
set_option maxRecDepth 100000 in
theorem strikes_any (g : Nat) (vs : Nat → Value) (q k : Value) (D : Dk.Disk) (w : World) (h : DiskV w g vs q k D) :
    Calls Try.prog 35 #[.pointer (some ⟨g, 0, none⟩)] w fun e w' => e = .returned (.bool (decide (D.armed = 1))) ∧ DiskV w' g vs q k (Dk.tick D) ∧ Mv g w w' := by
  have c := h.carmed
  have c2 := h.blk.free 15
  have H := Lib.hid h
  have g0 := h.good.armed0
  have g1 := h.good.armed1
  clear h
  obtain ⟨a, ha⟩ : ∃ a, D.armed = a := ⟨_, rfl⟩
  rw [ha] at c g0 g1
  have HA := Lib.hid ha
  rw [ha]
  clear ha
  by_cases hz : a = 0
  · subst hz
    have e : decide ((0 : Int) = 1) = false := by decide
    rw [e]
    go_enter Try.func35, Try.ntmps35
    go_wp2
    go_ret
    refine ⟨rfl, ?_, Mv.refl _ _⟩
    have : Dk.tick D = D := by
      obtain ⟨l, q, lo, d, a, ke⟩ := D
      have := HA.out
      simp only at this
      subst this
      rfl
    rw [this]
    exact H.out
  · have hz2 : (a == 0) = false := by simpa using hz
    have hw : IntKind.i64.wrap (a - 1) = a - 1 := IntWalk.i64_in _ (by omega)
    have he : (a - 1 == 0) = decide (a = 1) := by rw [Bool.eq_iff_iff]; simp; omega
    have HE := Lib.hid he
    clear he
    go_enter Try.func35, Try.ntmps35
    go_wp2
    go_ret
    refine ⟨ret_bool HE.out, H.out.mark 15 _ (Dk.tick D) _ _ rfl rfl rfl (fun ha => H.out.keep_set (by rw [HA.out]; exact hz) 15 _) ?_ ⟨H.out.good.len, H.out.good.pcs, H.out.good.q, H.out.good.lost0, H.out.good.lost1, ?_, ?_⟩ H.out.kone, Mv.set H.out.blk 15 _ (fun x hx => by cases hx)⟩
    · unfold Dk.tick
      rw [HA.out, if_neg hz]
      rfl
    · show 0 ≤ (if D.armed = 0 then 0 else D.armed - 1)
      rw [HA.out, if_neg hz]; omega
    · show (if D.armed = 0 then 0 else D.armed - 1) ≤ _
      rw [HA.out, if_neg hz]; omega
end Go.Proofs.Ytbpodclodflgfaa
