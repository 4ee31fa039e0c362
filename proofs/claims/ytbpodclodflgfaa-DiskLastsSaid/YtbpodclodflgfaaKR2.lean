/-
  Turn, whole.
-/
import Derived.Test.YtbpodclodflgfaaKR
namespace Go.Proofs.Ytbpodclodflgfaa
open Go Go.RowKit
set_option maxHeartbeats 4000000 in
set_option maxRecDepth 100000 in
theorem turn_any (g : Nat) (D : Dk.Disk) (f h : Int) (w : World) (hD0 : DiskAt w g D) :
    Calls Try.prog 31 #[.pointer (some ⟨g, 0, none⟩), .int .i64 f, .int .i64 h] w fun e w' => e = .returned (.int .i64 (Dk.ec (Dk.turn D f h).1)) ∧ DiskAt w' g (Dk.turn D f h).2 ∧ Mv g w w' := by
  obtain ⟨hgl, hD⟩ : g < w.heap.size ∧ DiskAt (w.alloc (.cells #[.int .i64 h] 3)) g D := by
    obtain ⟨vs, q, k, hv⟩ := hD0
    exact ⟨hv.lt, ⟨_, _, _, hv.alloc _⟩⟩
  have C1' := fails_any g D _ hD
  unfold Dk.turn
  obtain ⟨D1, hD1⟩ : ∃ D1, Dk.comes D none = D1 := ⟨_, rfl⟩
  rw [hD1] at C1' ⊢
  have HB := Lib.hid (fun (w' : World) (hm : Mv g (w.alloc (.cells #[.int .i64 h] 3)) w') => box_kept h hD hm)
  have HM0 := Lib.hid (Mv.of_below (below_new w (.cells #[.int .i64 h] 3)) hgl)
  clear hD1
  by_cases hd : D1.down = true
  · have e : Dk.turnB D1 f h = (.down, D1) := by unfold Dk.turnB; rw [Dk.may_down hd, if_neg (by decide)]
    rw [e]
    rw [hd] at C1'
    have C1 := Lib.hid C1'
    clear hD hD0 e C1'
    go_enter Try.func31, Try.ntmps31
    go_wp2_with (go_at_call 51; with_reducible refine C1.out.mono ?_; rintro _ w1 ⟨rfl, hv1, hm1⟩; have HV1 := Lib.hid hv1; have HM1 := Lib.hid hm1; clear hv1 hm1)
    go_ret
    exact ⟨rfl, HV1.out, HM0.out.trans HM1.out⟩
  · have hd' : D1.down = false := by simpa using hd
    rw [Dk.turnB_is D1 hd']
    have C2 := Lib.hid (fun w1 : World => isFile_any f w1)
    have C3 := Lib.hid (fun w1 : World => isFile_any h w1)
    by_cases hf : Dk.isFile f = true
    · by_cases hh : Dk.isFile h = true
      · by_cases hfh : f = h
        · rw [if_neg (fun x => x.2.2 hfh)]
          rw [hf] at C2
          rw [hh] at C3
          rw [hd'] at C1'
          have C1 := Lib.hid C1'
          clear hD hD0 C1' hd hd' hf hh
          go_enter Try.func31, Try.ntmps31
          go_wp2_with (first | (go_at_call 51; with_reducible refine C1.out.mono ?_; rintro _ w1 ⟨rfl, hv1, hm1⟩; obtain ⟨cb1, cl1⟩ := HB.out w1 hm1; have HV1 := Lib.hid hv1; have HM1 := Lib.hid hm1; clear hv1 hm1) | (go_at_call 46; with_reducible refine (C2.out _).mono ?_; rintro _ w2 ⟨rfl, rfl⟩) | (go_at_call 46; with_reducible refine (C3.out _).mono ?_; rintro _ w2 ⟨rfl, rfl⟩))
          go_ret
          exact ⟨rfl, HV1.out, HM0.out.trans HM1.out⟩
        · rw [if_pos (⟨hf, hh, hfh⟩ : Dk.isFile f = true ∧ Dk.isFile h = true ∧ f ≠ h)]
          obtain ⟨f0, f1⟩ := (Dk.isFile_iff f).1 hf
          obtain ⟨h0, h1⟩ := (Dk.isFile_iff h).1 hh
          obtain ⟨fn, rfl⟩ : ∃ n : Nat, f = (n : Int) := ⟨f.toNat, by omega⟩
          obtain ⟨hn, rfl⟩ : ∃ n : Nat, h = (n : Int) := ⟨h.toNat, by omega⟩
          refine (turn_ok g D1 fn hn (by omega) (by omega) (by omega) w D hD C1' hd' hgl).mono ?_
          intro e w' hp
          rw [show ((fn : Int)).toNat = fn from rfl, show ((hn : Int)).toNat = hn from rfl]
          by_cases hpd : Dk.pending D1.queue hn = true
          · rw [if_pos hpd] at hp ⊢
            exact hp
          · rw [if_neg hpd] at hp ⊢
            exact hp
      · rw [if_neg (fun x => hh x.2.1)]
        have hh' : Dk.isFile h = false := by simpa using hh
        rw [hf] at C2
        rw [hh'] at C3
        rw [hd'] at C1'
        have C1 := Lib.hid C1'
        clear hD hD0 C1' hd hd' hf hh hh'
        go_enter Try.func31, Try.ntmps31
        go_wp2_with (first | (go_at_call 51; with_reducible refine C1.out.mono ?_; rintro _ w1 ⟨rfl, hv1, hm1⟩; obtain ⟨cb1, cl1⟩ := HB.out w1 hm1; have HV1 := Lib.hid hv1; have HM1 := Lib.hid hm1; clear hv1 hm1) | (go_at_call 46; with_reducible refine (C2.out _).mono ?_; rintro _ w2 ⟨rfl, rfl⟩) | (go_at_call 46; with_reducible refine (C3.out _).mono ?_; rintro _ w2 ⟨rfl, rfl⟩))
        go_ret
        exact ⟨rfl, HV1.out, HM0.out.trans HM1.out⟩
    · rw [if_neg (fun x => hf x.1)]
      have hf' : Dk.isFile f = false := by simpa using hf
      rw [hf'] at C2
      rw [hd'] at C1'
      have C1 := Lib.hid C1'
      clear hD hD0 C1' hd hd' hf hf'
      go_enter Try.func31, Try.ntmps31
      go_wp2_with (first | (go_at_call 51; with_reducible refine C1.out.mono ?_; rintro _ w1 ⟨rfl, hv1, hm1⟩; obtain ⟨cb1, cl1⟩ := HB.out w1 hm1; have HV1 := Lib.hid hv1; have HM1 := Lib.hid hm1; clear hv1 hm1) | (go_at_call 46; with_reducible refine (C2.out _).mono ?_; rintro _ w2 ⟨rfl, rfl⟩))
      go_ret
      exact ⟨rfl, HV1.out, HM0.out.trans HM1.out⟩
end Go.Proofs.Ytbpodclodflgfaa
