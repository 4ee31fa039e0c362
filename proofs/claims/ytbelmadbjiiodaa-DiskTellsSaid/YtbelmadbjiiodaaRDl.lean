/-
  The reference's Cut.
-/
import Derived.Test.YtbelmadbjiiodaaRDk
namespace Go.Proofs.Ytbelmadbjiiodaa
open Go Go.RowKit
theorem RV.drew {w : World} {g : Nat} {vl vq vk : Value} {D : Dk.Disk} (h : RV w g vl vq vk D) : RV w.drew g vl vq vk D := ⟨h.blk, h.last, h.pend, h.keep, h.good⟩
set_option maxHeartbeats 8000000 in
set_option maxRecDepth 100000 in
theorem rcut_any {w : World} {g : Nat} {D : Dk.Disk} (h : RAt w g D) (f n : Int) (hn0 : -9223372036854775808 ≤ n) (hn1 : n ≤ 9223372036854775807) (hq : D.queue.length ≤ 1000000) : Calls Try.prog 36 #[.pointer (some ⟨g, 0, none⟩), .int .i64 f, .int .i64 n] w fun e w' => e = .returned (.int .i64 (Dk.ec (Dk.cut D f n).1)) ∧ RAt w' g (Dk.cut D f n).2 ∧ RMv g w w' := by
  have CC := Lib.hid (rcomes_any h 0 0 ⟨#[]⟩ (by decide) (by decide) (by decide) (by show D.queue.length + 0 ≤ _; omega))
  have e0 : Dk.comes D (some (0, 0, (⟨#[]⟩ : ByteArray).data.toList)) = Dk.comes D none := Dk.comes_zero D
  rw [e0] at CC
  clear e0
  obtain ⟨R, hR⟩ : ∃ R, Dk.cut D f n = R := ⟨_, rfl⟩
  rw [hR]
  unfold Dk.cut at hR
  obtain ⟨D1, hD1⟩ : ∃ x, Dk.comes D none = x := ⟨_, rfl⟩
  rw [hD1] at hR CC
  have CM := Lib.hid (fun (w1 : World) (hA : RAt w1 g D1) => rmay_any hA f)
  clear hD1 h
  unfold Dk.cutB at hR
  by_cases hm : Dk.may D1 f = .ok
  · rw [if_pos hm] at hR
    rw [hm] at CM
    obtain ⟨hfl0, hfl1⟩ := Dk.may_file_of hm
    obtain ⟨fn, rfl⟩ : ∃ n : Nat, f = (n : Int) := ⟨f.toNat, by omega⟩
    rw [Int.toNat_natCast] at hR
    have hfn : fn < 12 := by omega
    have CR := Lib.hid (fun (w1 : World) (hA : RAt w1 g D1) => rread_any hA fn hfn)
    have HGL := Lib.hid (fun (w1 : World) (hA : RAt w1 g D1) => show (Dk.read D1 fn).length ≤ 16777216 from by obtain ⟨_, _, _, hv⟩ := hA; exact hv.good.read fn hfn)
    obtain ⟨t, ht⟩ : ∃ t, enc (Dk.read D1 fn) = t := ⟨_, rfl⟩
    have htl : t.data.toList = Dk.read D1 fn := by rw [← ht]; rfl
    have hts : (Dk.read D1 fn).length = t.size := by rw [Lib.size_eq, htl]
    rw [ht] at CR
    rw [hts] at hR HGL
    clear hm ht hts
    by_cases hb : n < 0 ∨ (t.size : Int) < n
    · rw [if_pos hb] at hR
      subst hR
      by_cases hb1 : n < 0
      · go_enter Try.func36, Try.ntmps36
        go_wp2_with (first | (go_at_call 51; with_reducible refine CC.out.mono ?_; rintro _ w1 ⟨⟨v1, rfl⟩, hA1, hM1⟩; have hgl := HGL.out _ hA1) | (go_at_call 44; with_reducible refine (CM.out _ hA1).mono ?_; rintro _ w2 ⟨rfl, rfl⟩) | (go_at_call 42; with_reducible refine (CR.out _ hA1).mono ?_; rintro _ w3 ⟨rfl, hb3⟩))
        go_ret
        exact ⟨rfl, (hA1.below hb3).1, hM1.trans (hA1.below hb3).2⟩
      · have hb2 : n > (t.size : Int) := by omega
        go_enter Try.func36, Try.ntmps36
        go_wp2_with (first | (go_at_call 51; with_reducible refine CC.out.mono ?_; rintro _ w1 ⟨⟨v1, rfl⟩, hA1, hM1⟩; have hgl := HGL.out _ hA1) | (go_at_call 44; with_reducible refine (CM.out _ hA1).mono ?_; rintro _ w2 ⟨rfl, rfl⟩) | (go_at_call 42; with_reducible refine (CR.out _ hA1).mono ?_; rintro _ w3 ⟨rfl, hb3⟩))
        go_ret
        exact ⟨rfl, (hA1.below hb3).1, hM1.trans (hA1.below hb3).2⟩
    · rw [if_neg hb] at hR
      obtain ⟨nn, rfl⟩ : ∃ k : Nat, n = (k : Int) := ⟨n.toNat, by omega⟩
      rw [Int.toNat_natCast] at hR
      have hb2 : nn ≤ t.size := by omega
      have HT2 := Lib.hid (show t.extract 0 nn = enc ((Dk.read D1 fn).take nn) from by
        have := ext_take t nn
        rw [htl] at this
        rw [← this]; rfl)
      have HTL := Lib.hid (show ((Dk.read D1 fn).take nn).length ≤ t.size from by rw [List.length_take]; omega)
      subst hR
      clear hb htl
      go_enter Try.func36, Try.ntmps36
      go_wp2_with (first | (go_at_call 51; with_reducible refine CC.out.mono ?_; rintro _ w1 ⟨⟨v1, rfl⟩, hA1, hM1⟩; have hgl := HGL.out _ hA1) | (go_at_call 44; with_reducible refine (CM.out _ hA1).mono ?_; rintro _ w2 ⟨rfl, rfl⟩) | (go_at_call 42; with_reducible refine (CR.out _ hA1).mono ?_; rintro _ w3 ⟨rfl, hb3⟩))
      have hM3 := hM1.trans (hA1.below hb3).2
      obtain ⟨vl, vq, vk, hv⟩ := (hA1.below hb3).1
      obtain ⟨lb, lc, rfl, _, _⟩ := hv.lshape
      obtain ⟨q0, q1, q2, _, _⟩ := hv.drew.lastset fn hfn ((Dk.read D1 fn).take nn) (by have := HTL.out; omega)
      obtain ⟨_, _, _, q30, q4⟩ := hv.lastset fn hfn ((Dk.read D1 fn).take nn) (by have := HTL.out; omega)
      have ht2 := HT2.out
      obtain ⟨T, hT⟩ : ∃ T, enc ((Dk.read D1 fn).take nn) = T := ⟨_, rfl⟩
      rw [hT] at q30 q4 ht2
      have q3 := q30.drew
      have MM := Lib.hid ((hM3.trans q4).drew)
      have CWO := Lib.hid (rwithout_any ⟨_, _, _, q3⟩ fn)
      have SQ := Lib.hid (fun (w4 : World) (v4 : Value) hb ho => q3.setq (w' := w4) (vq' := v4) (Q := Dk.without D1.queue fn) hb ho (q3.good.less fn))
      clear hT HT2
      clear hv q30 q3 q4 CC CM CR hA1 hM1 hb3
      go_region
      all_goals go_wp2_with (go_at_call 54; with_reducible refine CWO.out.mono ?_; rintro _ w4 ⟨v4, rfl, hb4, ho4⟩; obtain ⟨s1, s2, s3, s4⟩ := SQ.out w4 v4 hb4 ho4; obtain ⟨pa, pn, pcap, rfl⟩ := own_slice ho4; clear hb4 ho4)
      all_goals go_ret
      all_goals exact ⟨rfl, s3, MM.out.trans s4⟩
  · rw [if_neg hm] at hR
    obtain ⟨x, hx⟩ : ∃ x, Dk.ec (Dk.may D1 f) = x := ⟨_, rfl⟩
    have hne := Dk.ec_ne hm
    rw [hx] at CM hne
    obtain ⟨e1, e2⟩ := hne
    have HX : RowKit.Hid (x = Dk.ec R.1) := Lib.hid (by rw [← hx, ← hR])
    have HRR : RowKit.Hid (D1 = R.2) := Lib.hid (by rw [← hR])
    clear hm hx hR
    go_enter Try.func36, Try.ntmps36
    go_wp2_with (first | (go_at_call 51; with_reducible refine CC.out.mono ?_; rintro _ w1 ⟨⟨v1, rfl⟩, hA1, hM1⟩) | (go_at_call 44; with_reducible refine (CM.out _ hA1).mono ?_; rintro _ w2 ⟨rfl, rfl⟩))
    go_ret
    exact ⟨ret_int HX.out, by rw [← HRR.out]; exact hA1, hM1⟩
end Go.Proofs.Ytbelmadbjiiodaa
