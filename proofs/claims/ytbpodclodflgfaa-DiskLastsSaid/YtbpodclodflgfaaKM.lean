/-
  Write, whole.
-/
import Derived.Test.YtbpodclodflgfaaKL
namespace Go.Proofs.Ytbpodclodflgfaa
open Go Go.RowKit
namespace Dk
theorem write_is (D : Disk) (h0 : 0 ≤ D.armed) (f at_ : Int) (s : B) : write D f at_ s = if D.down = true then (.down, D) else if D.armed = 1 then (.down, crash (writeB (tick D) f at_ s).2 D.keep) else writeB (tick D) f at_ s := by
  by_cases hd : D.down = true
  · rw [if_pos hd]; exact down_write hd f at_ s
  · rw [if_neg hd]
    have hd' : D.down = false := by simpa using hd
    have htd : (tick D).down = false := hd'
    unfold write comes
    by_cases ha : D.armed = 0
    · rw [if_pos (.inr ha), if_neg (by omega)]
      have : tick D = D := by
        obtain ⟨l, q, lo, d, a, ke⟩ := D
        simp only at ha
        subst ha
        rfl
      rw [this]
    · rw [if_neg (by simp [hd, ha])]
      by_cases h1 : D.armed = 1
      · rw [if_neg (by omega), if_pos h1]
        have ht : tick D = { D with armed := 0 } := by unfold tick; rw [if_neg ha, h1]; rfl
        have hcd : ∀ E ks, may (crash E ks) f = .down := fun E ks => may_down (by unfold crash; by_cases h : E.down = true <;> simp [h])
        simp only
        rw [writeB_up (tick D) htd, ht]
        unfold writeB
        by_cases hf : isFile f = true
        · by_cases h2 : at_ < 0
          · have hfit : fits at_ s = false := by unfold fits; simp; omega
            rw [if_pos hf, hf, hfit]
            simp [hcd, h2]
          · by_cases h3 : fits at_ s = true
            · rw [if_pos hf, hf, h3]
              simp [hcd, h2]
            · have h3' : fits at_ s = false := by simpa using h3
              rw [if_pos hf, hf, h3']
              simp [hcd, h2]
        · have hf' : isFile f = false := by simpa using hf
          rw [if_neg hf, hf']
          simp [hcd]
      · rw [if_pos (by omega), if_neg h1]
        have : tick D = { D with armed := D.armed - 1 } := by unfold tick; rw [if_neg ha]
        rw [this]
theorem isFile_iff (f : Int) : isFile f = true ↔ 0 ≤ f ∧ f ≤ 11 := by unfold isFile; simp
end Dk
set_option maxHeartbeats 2000000 in
set_option maxRecDepth 100000 in
theorem write_in (g : Nat) (vs : Nat → Value) (q k : Value) (D : Dk.Disk) (hd : D.down = false) (f at_ : Int) (h0 : -9223372036854775808 ≤ at_) (h1 : at_ ≤ 9223372036854775807) (s : ByteArray) (hs : s.size ≤ 1000000) (hq : D.queue.length + s.size ≤ 1000000) (w : World) (h : DiskV w g vs q k D) :
    Calls Try.prog 36 #[.pointer (some ⟨g, 0, none⟩), .int .i64 f, .int .i64 at_, .string s] w fun e w' => e = .returned (.int .i64 (Dk.ec (Dk.writeB D f at_ s.data.toList).1)) ∧ (∃ q', DiskV w' g vs q' k (Dk.writeB D f at_ s.data.toList).2) ∧ Mv g w w' := by
  rw [Dk.writeB_up D hd]
  have C := Lib.hid (isFile_any f w)
  by_cases hf : Dk.isFile f = true
  · obtain ⟨f0, f1⟩ := (Dk.isFile_iff f).1 hf
    rw [if_pos hf]
    by_cases ha : at_ < 0
    · rw [if_pos ha]
      rw [hf] at C
      have H := Lib.hid h
      clear h hf
      go_enter Try.func36, Try.ntmps36
      go_wp2_with (go_at_call 46; refine C.out.mono ?_; rintro _ w1 ⟨rfl, rfl⟩)
      go_ret
      exact ⟨rfl, ⟨_, H.out⟩, Mv.refl _ _⟩
    · rw [if_neg ha]
      by_cases hfit : Dk.fits at_ s.data.toList = true
      · rw [if_pos hfit]
        obtain ⟨fn, rfl⟩ : ∃ n : Nat, f = (n : Int) := ⟨f.toNat, by omega⟩
        obtain ⟨an, rfl⟩ : ∃ n : Nat, at_ = (n : Int) := ⟨at_.toNat, by omega⟩
        have hle : an + s.size ≤ 16777216 := by
          unfold Dk.fits at hfit
          rw [← Lib.size_eq s] at hfit
          simp at hfit
          omega
        exact write_loop g vs q k D fn an (by omega) s hle hq w h
      · rw [if_neg hfit]
        have hle : 16777216 - (s.size : Int) < at_ := by
          unfold Dk.fits at hfit
          rw [← Lib.size_eq s] at hfit
          simp at hfit
          omega
        have hna : ¬ at_ < 0 := ha
        rw [hf] at C
        have H := Lib.hid h
        clear h hf hfit
        go_enter Try.func36, Try.ntmps36
        go_wp2_with (go_at_call 46; refine C.out.mono ?_; rintro _ w1 ⟨rfl, rfl⟩)
        go_ret
        exact ⟨rfl, ⟨_, H.out⟩, Mv.refl _ _⟩
  · rw [if_neg hf]
    have hf' : Dk.isFile f = false := by simpa using hf
    rw [hf'] at C
    have H := Lib.hid h
    clear h hf hf'
    go_enter Try.func36, Try.ntmps36
    go_wp2_with (go_at_call 46; refine C.out.mono ?_; rintro _ w1 ⟨rfl, rfl⟩)
    go_ret
    exact ⟨rfl, ⟨_, H.out⟩, Mv.refl _ _⟩
set_option maxHeartbeats 2000000 in
set_option maxRecDepth 100000 in
theorem write_any (g : Nat) (D : Dk.Disk) (f at_ : Int) (h0 : -9223372036854775808 ≤ at_) (h1 : at_ ≤ 9223372036854775807) (s : ByteArray) (hs : s.size ≤ 1000000) (hq : D.queue.length + s.size ≤ 1000000) (w : World) (h : DiskAt w g D) :
    Calls Try.prog 12 #[.pointer (some ⟨g, 0, none⟩), .int .i64 f, .int .i64 at_, .string s] w fun e w' => e = .returned (.int .i64 (Dk.ec (Dk.write D f at_ s.data.toList).1)) ∧ DiskAt w' g (Dk.write D f at_ s.data.toList).2 ∧ Mv g w w' := by
  obtain ⟨vs, q, k, h⟩ := h
  rw [Dk.write_is D h.good.armed0]
  have c13 := h.cdown
  by_cases hd : D.down = true
  · rw [if_pos hd]
    rw [hd] at c13
    have H := Lib.hid h
    clear h
    go_enter Try.func12, Try.ntmps12
    go_wp2
    go_ret
    exact ⟨rfl, ⟨_, _, _, H.out⟩, Mv.refl _ _⟩
  · rw [if_neg hd]
    have hd' : D.down = false := by simpa using hd
    rw [hd'] at c13
    have C1 := Lib.hid (strikes_any g vs q k D w h)
    have C2 := Lib.hid (fun (w1 : World) (hv : DiskV w1 g vs q k (Dk.tick D)) => write_in g vs q k (Dk.tick D) hd' f at_ h0 h1 s hs hq w1 hv)
    obtain ⟨r, hr⟩ : ∃ r, Dk.writeB (Dk.tick D) f at_ s.data.toList = r := ⟨_, rfl⟩
    rw [hr] at C2 ⊢
    clear hr
    by_cases ha : D.armed = 1
    · rw [if_pos ha]
      have hk := h.keep (by omega)
      obtain ⟨ka, kb, kcap, hkv, hIR, hown⟩ := IR.of_own hk
      have hnf : 0 < D.keep.length → ¬ Foot w g kb := fun hp => h.not_keep (by omega) (hown hp)
      have hdec : decide (D.armed = 1) = true := by simpa using ha
      rw [hdec] at C1
      have KEY := Lib.hid (fun (w1 : World) (q' : Value) (h1 : DiskV w1 g vs q' k r.2) (hm : Mv g w w1) =>
        show Hid (DiskV w1 g vs q' k r.2) ∧ Hid (IR w1 ka kb 0 D.keep) ∧ Hid (0 < D.keep.length → ¬ Foot w1 g kb) ∧ w1.cell? ⟨g, 16, none⟩ = some (.slice ka D.keep.length kcap) from
          ⟨h1, hIR.mv hm hnf, fun hp hf => by
            rcases hm.foot kb hf with h2 | h2
            · exact hnf hp h2
            · have := hIR.lt hp; omega, by rw [← hkv]; exact h1.ckeep⟩)
      obtain ⟨n, hn⟩ : ∃ n, D.keep.length = n := ⟨_, rfl⟩
      have HN := Lib.hid hn
      rw [hn] at KEY
      clear h hk hIR hown hnf hkv hn hdec ha hd hd'
      go_enter Try.func12, Try.ntmps12
      go_wp2_with (first | (go_at_call 35; refine C1.out.mono ?_; rintro _ w1 ⟨rfl, hv1, hm1⟩; have HV1 := Lib.hid hv1; have HM1 := Lib.hid hm1; clear hv1 hm1) | (go_at_call 36; refine (C2.out w1 HV1.out).mono ?_; rintro _ w2 ⟨rfl, ⟨q2, hv2⟩, hm2⟩; obtain ⟨HV2, HI2, HF2, cc16⟩ := KEY.out w2 q2 hv2 (HM1.out.trans hm2); have HM2 := Lib.hid hm2; clear hv2 hm2) | (go_at_call 13; refine (crash_any g r.2 ka kb 0 n kcap D.keep w2 ⟨_, _, _, HV2.out⟩ HI2.out HN.out (fun hp => HF2.out (by rw [← HN.out]; exact hp))).mono ?_; rintro _ w3 ⟨⟨v2, rfl⟩, hv3, hm3⟩; have HV3 := Lib.hid hv3; have HM3 := Lib.hid hm3; clear hv3 hm3))
      go_ret
      exact ⟨rfl, HV3.out, (HM1.out.trans HM2.out).trans HM3.out⟩
    · rw [if_neg ha]
      have hdec : decide (D.armed = 1) = false := by simpa using ha
      rw [hdec] at C1
      clear h hdec ha hd hd'
      go_enter Try.func12, Try.ntmps12
      go_wp2_with (first | (go_at_call 35; refine C1.out.mono ?_; rintro _ w1 ⟨rfl, hv1, hm1⟩; have HV1 := Lib.hid hv1; have HM1 := Lib.hid hm1; clear hv1 hm1) | (go_at_call 36; refine (C2.out w1 HV1.out).mono ?_; rintro _ w2 ⟨rfl, ⟨q2, hv2⟩, hm2⟩; have HV2 := Lib.hid hv2; have HM2 := Lib.hid hm2; clear hv2 hm2))
      go_ret
      exact ⟨rfl, ⟨_, _, _, HV2.out⟩, HM1.out.trans HM2.out⟩
end Go.Proofs.Ytbpodclodflgfaa
