/-
  DiskDown: the law returns true, whatever was done before, and whatever is asked of a machine that is down.
-/
import Derived.Test.YtalhilmpjnejbaaKDd
namespace Go.Proofs.Ytalhilmpjnejbaa
open Go Go.RowKit
theorem few_one (a : Dk.Act) (ka : Option Addr) (kb koff kn kcap : Nat) (w : World) (h : AC w a ka kb koff kn kcap) :
    Calls Try.prog 12 #[.slice (some ⟨w.heap.size, 0, none⟩) 1 1] (w.alloc (.cells #[.int .i64 a.do_, .int .i64 a.f, .int .i64 a.g, .int .i64 a.n, .string (enc a.s), .slice ka kn kcap] 32)) fun e w' => e = .returned (.bool (Dk.few [a])) ∧ Below (w.alloc (.cells #[.int .i64 a.do_, .int .i64 a.f, .int .i64 a.g, .int .i64 a.n, .string (enc a.s), .slice ka kn kcap] 32)).heap.size (w.alloc (.cells #[.int .i64 a.do_, .int .i64 a.f, .int .i64 a.g, .int .i64 a.n, .string (enc a.s), .slice ka kn kcap] 32)) w' :=
  few_any [a] 1 rfl (by decide) _ _ _ 1 _ (la_made h)
set_option maxHeartbeats 4000000 in
set_option maxRecDepth 100000 in
theorem down_a (X : List Dk.Act) (n : Nat) (hn : X.length = n) (hN : n ≤ 9223372036854775807) (xa : Option Addr) (b off cap : Nat) (a : Dk.Act) (ka : Option Addr) (kb koff kn kcap : Nat) (w : World) (hl : LA w xa b off X) (hA : AC w a ka kb koff kn kcap) (hF : Dk.few X = false) :
    Calls Try.prog 5 #[.slice xa n cap, .agg #[.int .i64 a.do_, .int .i64 a.f, .int .i64 a.g, .int .i64 a.n, .string (enc a.s), .slice ka kn kcap]] w fun e w' => e = .returned (.bool true) ∧ Below w.heap.size w w' := by
  have C0 := Lib.hid (fun w1 : World => small_any w1)
  have HL := Lib.hid hl
  have HA := Lib.hid hA
  have CF := Lib.hid (fun (w1 : World) (h : LA w1 xa b off X) => few_any X n hn hN xa b off cap w1 h)
  rw [hF] at CF
  clear hl hA hF hn
  go_enter Try.func5, Try.ntmps5
  go_wp2_with (first | (go_at_call 10; with_reducible refine (C0.out _).mono ?_; rintro _ w2 ⟨rfl, hb0⟩; have HB := Lib.hid (base_of HL.out HA.out hb0); clear hb0) | (go_at_call 11; with_reducible refine (mine_new _).mono ?_; rintro _ w3 ⟨rfl, hm⟩; have HM := Lib.hid hm; clear hm; have HLA := Lib.hid (HB.out.la.below HM.out.below); have HAC := Lib.hid (HB.out.ac.below HM.out.below); have HPA := Lib.hid (HB.out.pa.below HM.out.below)) | (go_at_call 12; with_reducible refine (CF.out _ HLA.out).mono ?_; rintro _ w4 ⟨rfl, hm⟩; have HQ := Lib.hid (below_to HM.out.below (Nat.le_refl _) hm); have HM4 := Lib.hid (HM.out.quiet hm); clear hm; obtain ⟨c0, c1, c2, c3, c4, c5⟩ := (HB.out.pa.below HQ.out).cells; have HAC := Lib.hid (HB.out.ac.below HQ.out)))
  go_ret
  exact ⟨rfl, below_to HB.out.up (Nat.le_refl _) HQ.out⟩
set_option maxHeartbeats 4000000 in
set_option maxRecDepth 100000 in
theorem down_b (X : List Dk.Act) (n : Nat) (hn : X.length = n) (hN : n ≤ 9223372036854775807) (xa : Option Addr) (b off cap : Nat) (a : Dk.Act) (ka : Option Addr) (kb koff kn kcap : Nat) (w : World) (hl : LA w xa b off X) (hA : AC w a ka kb koff kn kcap) (hF : Dk.few X = true) (hG : Dk.few [a] = false) :
    Calls Try.prog 5 #[.slice xa n cap, .agg #[.int .i64 a.do_, .int .i64 a.f, .int .i64 a.g, .int .i64 a.n, .string (enc a.s), .slice ka kn kcap]] w fun e w' => e = .returned (.bool true) ∧ Below w.heap.size w w' := by
  have C0 := Lib.hid (fun w1 : World => small_any w1)
  have HL := Lib.hid hl
  have HA := Lib.hid hA
  have CF := Lib.hid (fun (w1 : World) (h : LA w1 xa b off X) => few_any X n hn hN xa b off cap w1 h)
  rw [hF] at CF
  have CG := Lib.hid (fun (w1 : World) (h : AC w1 a ka kb koff kn kcap) => few_one a ka kb koff kn kcap w1 h)
  rw [hG] at CG
  clear hl hA hF hG hn
  go_enter Try.func5, Try.ntmps5
  go_wp2_with (first | (go_at_call 10; with_reducible refine (C0.out _).mono ?_; rintro _ w2 ⟨rfl, hb0⟩; have HB := Lib.hid (base_of HL.out HA.out hb0); clear hb0) | (go_at_call 11; with_reducible refine (mine_new _).mono ?_; rintro _ w3 ⟨rfl, hm⟩; have HM := Lib.hid hm; clear hm; have HLA := Lib.hid (HB.out.la.below HM.out.below); have HAC := Lib.hid (HB.out.ac.below HM.out.below); have HPA := Lib.hid (HB.out.pa.below HM.out.below)) | (go_at_call 12; with_reducible refine (CF.out _ HLA.out).mono ?_; rintro _ w4 ⟨rfl, hm⟩; have HQ := Lib.hid (below_to HM.out.below (Nat.le_refl _) hm); have HM4 := Lib.hid (HM.out.quiet hm); clear hm; obtain ⟨c0, c1, c2, c3, c4, c5⟩ := (HB.out.pa.below HQ.out).cells; have HAC := Lib.hid (HB.out.ac.below HQ.out)) | (go_at_call 12; with_reducible refine (CG.out _ HAC.out).mono ?_; rintro _ w5 ⟨rfl, hm⟩; have HM5 := Lib.hid ((HM4.out.alloc _).quiet hm); clear hm))
  go_ret
  exact ⟨rfl, below_to HB.out.up (Nat.le_refl _) HM5.out.below⟩
set_option maxHeartbeats 4000000 in
set_option maxRecDepth 100000 in
theorem down_in (X : List Dk.Act) (n : Nat) (hn : X.length = n) (hN : n ≤ 9223372036854775807) (xa : Option Addr) (b off cap : Nat) (a : Dk.Act) (ka : Option Addr) (kb koff kn kcap : Nat) (w : World) (hl : LA w xa b off X) (hA : AC w a ka kb koff kn kcap) (hF : Dk.few X = true) (hG : Dk.few [a] = true) (hf : ¬ (a.f < 0 ∨ 11 < a.f)) :
    Calls Try.prog 5 #[.slice xa n cap, .agg #[.int .i64 a.do_, .int .i64 a.f, .int .i64 a.g, .int .i64 a.n, .string (enc a.s), .slice ka kn kcap]] w fun e w' => e = .returned (.bool true) ∧ Below w.heap.size w w' := by
  have HX := Lib.hid (Dk.few_all hF)
  have HS := Lib.hid (few_len hG)
  have C0 := Lib.hid (fun w1 : World => small_any w1)
  have HL := Lib.hid hl
  have HA := Lib.hid hA
  have CF := Lib.hid (fun (w1 : World) (h : LA w1 xa b off X) => few_any X n hn hN xa b off cap w1 h)
  rw [hF] at CF
  have CG := Lib.hid (fun (w1 : World) (h : AC w1 a ka kb koff kn kcap) => few_one a ka kb koff kn kcap w1 h)
  rw [hG] at CG
  have HN := Lib.hid hn
  have HF := Lib.hid hf
  clear hl hA hF hG hn hf
  go_enter Try.func5, Try.ntmps5
  go_wp2_with (first | (go_at_call 10; with_reducible refine (C0.out _).mono ?_; rintro _ w2 ⟨rfl, hb0⟩; have HB := Lib.hid (base_of HL.out HA.out hb0); clear hb0) | (go_at_call 11; with_reducible refine (mine_new _).mono ?_; rintro _ w3 ⟨rfl, hm⟩; have HM := Lib.hid hm; clear hm; have HLA := Lib.hid (HB.out.la.below HM.out.below); have HAC := Lib.hid (HB.out.ac.below HM.out.below); have HPA := Lib.hid (HB.out.pa.below HM.out.below)) | (go_at_call 12; with_reducible refine (CF.out _ HLA.out).mono ?_; rintro _ w4 ⟨rfl, hm⟩; have HQ := Lib.hid (below_to HM.out.below (Nat.le_refl _) hm); have HM4 := Lib.hid (HM.out.quiet hm); clear hm; obtain ⟨c0, c1, c2, c3, c4, c5⟩ := (HB.out.pa.below HQ.out).cells; have HAC := Lib.hid (HB.out.ac.below HQ.out)) | (go_at_call 12; with_reducible refine (CG.out _ HAC.out).mono ?_; rintro _ w5 ⟨rfl, hm⟩; have HM5 := Lib.hid ((HM4.out.alloc _).quiet hm); clear hm))
  go_loopw [7] (fun i wr => ∃ k : Nat, i = .int .i64 k ∧ k ≤ n ∧ Hid (∃ D, Mine w2 wr w2.heap.size D ∧ D.queue.length ≤ Dk.atot X k)) (fun i _ => n - (intOf i).toNat)
  case atStart => exact ⟨0, rfl, Nat.zero_le _, ⟨_, HM5.out, Nat.zero_le _⟩⟩
  case round =>
    obtain ⟨k, rfl, hk, hD⟩ := hrel
    obtain ⟨D, hm, hq⟩ := hD.out
    have HD := Lib.hid hm
    have HQD := Lib.hid hq
    clear hm hq hD
    by_cases hlt : k < n
    · obtain ⟨x, hx⟩ : ∃ x, X[k]? = some x := ⟨_, List.getElem?_eq_getElem (by rw [HN.out]; exact hlt)⟩
      obtain rfl := HB.out.la.at_ (by rw [HN.out]; omega)
      obtain ⟨la, lb, loff, ln, lcap, hac, _⟩ := HB.out.la.cell k x hx
      obtain ⟨_, _, _, _, _, _, hcs0⟩ := HB.out.la.cell k x hx
      have HAT := Lib.hid (Dk.atot_succ X k x hx)
      have HEA := Lib.hid (Dk.atot_each X.length k x hx (by rw [HN.out]; exact hlt))
      obtain ⟨la, lb, loff, ln, lcap, hac, hcs⟩ := HB.out.la.cell k x hx
      obtain ⟨d0, d1, d2, d3, d4, d5⟩ := acells_at fun i v hv => (HD.out.below.cell (p := ⟨b, off + k * 6 + i, none⟩) (HB.out.la.lt (by rw [HN.out]; omega))).trans (hcs i v hv)
      have CD := Lib.hid (do_any x (enc x.s) rfl la lb loff ln lcap w2 wr w2.heap.size D HD.out hac (by have := HEA.out; have := HX.out; omega) (by have := HEA.out; have := HX.out; have := HQD.out; omega) (by have := hac.len; have := HEA.out; have := HX.out; omega))
      have HAQ := Lib.hid (Dk.act_queue D HD.out.armed x)
      clear hx hac hcs hcs0
      go_wp2_with (first | (go_at_call 19; with_reducible refine CD.out.mono ?_; rintro _ w7 ⟨rfl, hm⟩; have HD2 := Lib.hid hm; clear hm))
      go_roundw
      case rel => exact ⟨k + 1, by go_num, by omega, ⟨_, HD2.out, by rw [HAT.out]; have := HAQ.out; have := HQD.out; omega⟩⟩
      case measure => simp [intOf]; omega
    · obtain rfl : k = n := by omega
      have HQ5 := Lib.hid (show D.queue.length ≤ 5000 by have := HQD.out; have := HX.out; have e := HN.out; rw [e] at this; omega)
      obtain ⟨c0, c1, c2, c3, c4, c5⟩ := (HB.out.pa.below HD.out.below).cells
      have hsz : (enc a.s).size ≤ 5000 := by rw [Lib.size_eq]; exact HS.out
      have HSZ := Lib.hid hsz
      clear hsz hlt
      have e1 : ¬ a.f < 0 := fun h => HF.out (.inl h)
      have e2 : decide (a.f < 0) = false := by simpa using e1
      have e3 : ¬ (11 : Int) < a.f := fun h => HF.out (.inr h)
      have e4 : decide ((11 : Int) < a.f) = false := by simpa using e3
      go_wp2_with (first | (go_at_call 31; with_reducible refine (mine_arm_nil HD.out 0 (by decide)).mono ?_; rintro _ w7 ⟨⟨v7, rfl⟩, hm⟩; have HD2 := Lib.hid hm; clear hm; skip) | (go_at_call 25; with_reducible refine (rest_start HD2.out HQ5.out).mono ?_; rintro _ w7 ⟨⟨v7, rfl⟩, hm⟩; have HR := Lib.hid hm; clear hm; obtain ⟨c0, c1, c2, c3, c4, c5⟩ := (HB.out.pa.below HR.out.mine.below).cells) | (go_at_call 16; with_reducible refine (mr_write HR.out HF.out a.n HA.out.n0 HA.out.n1 (enc a.s) HSZ.out).mono ?_; rintro _ w7 ⟨rfl, hm⟩; have HR := Lib.hid hm; clear hm; obtain ⟨c0, c1, c2, c3, c4, c5⟩ := (HB.out.pa.below HR.out.mine.below).cells) | (go_at_call 32; with_reducible refine (mr_flush HR.out HF.out).mono ?_; rintro _ w7 ⟨rfl, hm⟩; have HR := Lib.hid hm; clear hm; obtain ⟨c0, c1, c2, c3, c4, c5⟩ := (HB.out.pa.below HR.out.mine.below).cells) | (go_at_call 33; with_reducible refine (mr_cut HR.out HF.out 0).mono ?_; rintro _ w7 ⟨rfl, hm⟩; have HR := Lib.hid hm; clear hm; obtain ⟨c0, c1, c2, c3, c4, c5⟩ := (HB.out.pa.below HR.out.mine.below).cells) | (go_at_call 34; with_reducible refine (mr_turn HR.out HF.out 1).mono ?_; rintro _ w7 ⟨rfl, hm⟩; have HR := Lib.hid hm; clear hm; obtain ⟨c0, c1, c2, c3, c4, c5⟩ := (HB.out.pa.below HR.out.mine.below).cells) | (go_at_call 34; with_reducible refine (mr_turn2 HR.out HF.out).mono ?_; rintro _ w7 ⟨rfl, hm⟩; have HR := Lib.hid hm; clear hm; obtain ⟨c0, c1, c2, c3, c4, c5⟩ := (HB.out.pa.below HR.out.mine.below).cells) | (go_at_call 23; with_reducible refine (mr_size HR.out HF.out).mono ?_; rintro _ w7 ⟨rfl, hm⟩; have HR := Lib.hid hm; clear hm; obtain ⟨c0, c1, c2, c3, c4, c5⟩ := (HB.out.pa.below HR.out.mine.below).cells) | (go_at_call 17; with_reducible refine (mr_crash HR.out).mono ?_; rintro _ wc ⟨⟨v7, rfl⟩, hm⟩; have HC := Lib.hid hm; clear hm; obtain ⟨c0, c1, c2, c3, c4, c5⟩ := (HB.out.pa.below HC.out.mine.below).cells) | (go_at_call 15; with_reducible refine (mc_copy HC.out).mono ?_; rintro _ w7 ⟨rfl, hm⟩; have HT := Lib.hid hm; clear hm; obtain ⟨c0, c1, c2, c3, c4, c5⟩ := (HB.out.pa.below HT.out.two.one.below).cells) | (go_at_call 25; with_reducible refine (td_start2 HT.out).mono ?_; rintro _ w7 ⟨⟨v7, rfl⟩, hm⟩; have HT := Lib.hid hm; clear hm; obtain ⟨c0, c1, c2, c3, c4, c5⟩ := (HB.out.pa.below HT.out.two.one.below).cells) | (go_at_call 27; with_reducible refine (td_read HT.out a.f).mono ?_; rintro _ w7 ⟨rfl, hm⟩; have HT := Lib.hid hm; clear hm; obtain ⟨c0, c1, c2, c3, c4, c5⟩ := (HB.out.pa.below HT.out.two.one.below).cells) | (go_at_call 17; with_reducible refine (td_crash HT.out).mono ?_; rintro _ w7 ⟨⟨v7, rfl⟩, hm⟩; have HT := Lib.hid hm; clear hm; obtain ⟨c0, c1, c2, c3, c4, c5⟩ := (HB.out.pa.below HT.out.two.one.below).cells) | (go_at_call 16; with_reducible refine (td_write HT.out a.f a.n HA.out.n0 HA.out.n1 (enc a.s) HSZ.out).mono ?_; rintro _ w7 ⟨rfl, hm⟩; have HT := Lib.hid hm; clear hm; obtain ⟨c0, c1, c2, c3, c4, c5⟩ := (HB.out.pa.below HT.out.two.one.below).cells) | (go_at_call 32; with_reducible refine (td_flush HT.out a.f).mono ?_; rintro _ w7 ⟨rfl, hm⟩; have HT := Lib.hid hm; clear hm; obtain ⟨c0, c1, c2, c3, c4, c5⟩ := (HB.out.pa.below HT.out.two.one.below).cells) | (go_at_call 33; with_reducible refine (td_cut HT.out a.f a.n).mono ?_; rintro _ w7 ⟨rfl, hm⟩; have HT := Lib.hid hm; clear hm; obtain ⟨c0, c1, c2, c3, c4, c5⟩ := (HB.out.pa.below HT.out.two.one.below).cells) | (go_at_call 34; with_reducible refine (td_turn HT.out a.f a.g).mono ?_; rintro _ w7 ⟨rfl, hm⟩; have HT := Lib.hid hm; clear hm; obtain ⟨c0, c1, c2, c3, c4, c5⟩ := (HB.out.pa.below HT.out.two.one.below).cells) | (go_at_call 21; with_reducible refine (td_down HT.out).mono ?_; rintro _ w7 ⟨rfl, rfl⟩; skip) | (go_at_call 25; with_reducible refine (td_start HT.out).mono ?_; rintro _ w7 ⟨⟨v7, rfl⟩, hm⟩; have HU := Lib.hid hm; clear hm; skip))
      go_loopw [11, 12, 13, 14, 15] (fun i x12 x13 x14 x15 wr => ∃ j : Nat, i = .int .i64 j ∧ j ≤ 12 ∧ Hid (TU w2 wr w2.heap.size wc.heap.size (Dk.start (Dk.crash (Dk.rest D) [])))) (fun i _ _ _ _ _ => 12 - (intOf i).toNat)
      case atStart => exact ⟨0, rfl, Nat.zero_le _, HU.out⟩
      case round =>
        obtain ⟨j, rfl, hj, hU⟩ := hrel
        by_cases hjl : j < 12
        · have R1 := Lib.hid (tu_read hU.out (j : Int))
          have R2 := Lib.hid (fun (w1 : World) (h : TU w2 w1 w2.heap.size wc.heap.size (Dk.start (Dk.crash (Dk.rest D) []))) => tu_read2 h (j : Int))
          obtain ⟨Z, hZ⟩ : ∃ Z, enc (Dk.readE (Dk.start (Dk.crash (Dk.rest D) [])) (j : Int)).1 = Z := ⟨_, rfl⟩
          obtain ⟨ez, hez⟩ : ∃ e, Dk.ec (Dk.readE (Dk.start (Dk.crash (Dk.rest D) [])) (j : Int)).2 = e := ⟨_, rfl⟩
          rw [hZ, hez] at R1 R2
          clear hZ hez
          go_wp2_with (first | (go_at_call 27; with_reducible refine (R1.out).mono ?_; rintro _ w7 ⟨rfl, hm⟩; have HV := Lib.hid hm; clear hm) | (go_at_call 27; with_reducible refine (R2.out _ HV.out).mono ?_; rintro _ w7 ⟨rfl, hm⟩; have HV := Lib.hid hm; clear hm))
          go_roundw
          case rel => exact ⟨j + 1, by go_num, by omega, HV.out⟩
          case measure => simp [intOf]; omega
        · obtain rfl : j = 12 := by omega
          have R3 := Lib.hid (tu_down hU.out)
          go_wp2_with (first | (go_at_call 21; with_reducible refine (R3.out).mono ?_; rintro _ w7 ⟨rfl, rfl⟩; skip))
          go_ret
          exact ⟨rfl, below_to HB.out.up (Nat.le_refl _) hU.out.two.one.below⟩
set_option maxHeartbeats 4000000 in
set_option maxRecDepth 100000 in
theorem down_out (X : List Dk.Act) (n : Nat) (hn : X.length = n) (hN : n ≤ 9223372036854775807) (xa : Option Addr) (b off cap : Nat) (a : Dk.Act) (ka : Option Addr) (kb koff kn kcap : Nat) (w : World) (hl : LA w xa b off X) (hA : AC w a ka kb koff kn kcap) (hF : Dk.few X = true) (hG : Dk.few [a] = true) (hf : a.f < 0 ∨ 11 < a.f) :
    Calls Try.prog 5 #[.slice xa n cap, .agg #[.int .i64 a.do_, .int .i64 a.f, .int .i64 a.g, .int .i64 a.n, .string (enc a.s), .slice ka kn kcap]] w fun e w' => e = .returned (.bool true) ∧ Below w.heap.size w w' := by
  have HX := Lib.hid (Dk.few_all hF)
  have HS := Lib.hid (few_len hG)
  have C0 := Lib.hid (fun w1 : World => small_any w1)
  have HL := Lib.hid hl
  have HA := Lib.hid hA
  have CF := Lib.hid (fun (w1 : World) (h : LA w1 xa b off X) => few_any X n hn hN xa b off cap w1 h)
  rw [hF] at CF
  have CG := Lib.hid (fun (w1 : World) (h : AC w1 a ka kb koff kn kcap) => few_one a ka kb koff kn kcap w1 h)
  rw [hG] at CG
  have HN := Lib.hid hn
  have HF := Lib.hid hf
  clear hl hA hF hG hn hf
  go_enter Try.func5, Try.ntmps5
  go_wp2_with (first | (go_at_call 10; with_reducible refine (C0.out _).mono ?_; rintro _ w2 ⟨rfl, hb0⟩; have HB := Lib.hid (base_of HL.out HA.out hb0); clear hb0) | (go_at_call 11; with_reducible refine (mine_new _).mono ?_; rintro _ w3 ⟨rfl, hm⟩; have HM := Lib.hid hm; clear hm; have HLA := Lib.hid (HB.out.la.below HM.out.below); have HAC := Lib.hid (HB.out.ac.below HM.out.below); have HPA := Lib.hid (HB.out.pa.below HM.out.below)) | (go_at_call 12; with_reducible refine (CF.out _ HLA.out).mono ?_; rintro _ w4 ⟨rfl, hm⟩; have HQ := Lib.hid (below_to HM.out.below (Nat.le_refl _) hm); have HM4 := Lib.hid (HM.out.quiet hm); clear hm; obtain ⟨c0, c1, c2, c3, c4, c5⟩ := (HB.out.pa.below HQ.out).cells; have HAC := Lib.hid (HB.out.ac.below HQ.out)) | (go_at_call 12; with_reducible refine (CG.out _ HAC.out).mono ?_; rintro _ w5 ⟨rfl, hm⟩; have HM5 := Lib.hid ((HM4.out.alloc _).quiet hm); clear hm))
  go_loopw [7] (fun i wr => ∃ k : Nat, i = .int .i64 k ∧ k ≤ n ∧ Hid (∃ D, Mine w2 wr w2.heap.size D ∧ D.queue.length ≤ Dk.atot X k)) (fun i _ => n - (intOf i).toNat)
  case atStart => exact ⟨0, rfl, Nat.zero_le _, ⟨_, HM5.out, Nat.zero_le _⟩⟩
  case round =>
    obtain ⟨k, rfl, hk, hD⟩ := hrel
    obtain ⟨D, hm, hq⟩ := hD.out
    have HD := Lib.hid hm
    have HQD := Lib.hid hq
    clear hm hq hD
    by_cases hlt : k < n
    · obtain ⟨x, hx⟩ : ∃ x, X[k]? = some x := ⟨_, List.getElem?_eq_getElem (by rw [HN.out]; exact hlt)⟩
      obtain rfl := HB.out.la.at_ (by rw [HN.out]; omega)
      obtain ⟨la, lb, loff, ln, lcap, hac, _⟩ := HB.out.la.cell k x hx
      obtain ⟨_, _, _, _, _, _, hcs0⟩ := HB.out.la.cell k x hx
      have HAT := Lib.hid (Dk.atot_succ X k x hx)
      have HEA := Lib.hid (Dk.atot_each X.length k x hx (by rw [HN.out]; exact hlt))
      obtain ⟨la, lb, loff, ln, lcap, hac, hcs⟩ := HB.out.la.cell k x hx
      obtain ⟨d0, d1, d2, d3, d4, d5⟩ := acells_at fun i v hv => (HD.out.below.cell (p := ⟨b, off + k * 6 + i, none⟩) (HB.out.la.lt (by rw [HN.out]; omega))).trans (hcs i v hv)
      have CD := Lib.hid (do_any x (enc x.s) rfl la lb loff ln lcap w2 wr w2.heap.size D HD.out hac (by have := HEA.out; have := HX.out; omega) (by have := HEA.out; have := HX.out; have := HQD.out; omega) (by have := hac.len; have := HEA.out; have := HX.out; omega))
      have HAQ := Lib.hid (Dk.act_queue D HD.out.armed x)
      clear hx hac hcs hcs0
      go_wp2_with (first | (go_at_call 19; with_reducible refine CD.out.mono ?_; rintro _ w7 ⟨rfl, hm⟩; have HD2 := Lib.hid hm; clear hm))
      go_roundw
      case rel => exact ⟨k + 1, by go_num, by omega, ⟨_, HD2.out, by rw [HAT.out]; have := HAQ.out; have := HQD.out; omega⟩⟩
      case measure => simp [intOf]; omega
    · obtain rfl : k = n := by omega
      have HQ5 := Lib.hid (show D.queue.length ≤ 5000 by have := HQD.out; have := HX.out; have e := HN.out; rw [e] at this; omega)
      obtain ⟨c0, c1, c2, c3, c4, c5⟩ := (HB.out.pa.below HD.out.below).cells
      have hsz : (enc a.s).size ≤ 5000 := by rw [Lib.size_eq]; exact HS.out
      have HSZ := Lib.hid hsz
      clear hsz hlt
      rcases HF.out with e0 | e0
      · skip
        go_wp2_with (first | (go_at_call 31; with_reducible refine (mine_arm_nil HD.out 0 (by decide)).mono ?_; rintro _ w7 ⟨⟨v7, rfl⟩, hm⟩; have HD2 := Lib.hid hm; clear hm; skip) | (go_at_call 25; with_reducible refine (rest_start HD2.out HQ5.out).mono ?_; rintro _ w7 ⟨⟨v7, rfl⟩, hm⟩; have HR := Lib.hid hm; clear hm; obtain ⟨c0, c1, c2, c3, c4, c5⟩ := (HB.out.pa.below HR.out.mine.below).cells) | (go_at_call 16; with_reducible refine (mr_write HR.out HF.out a.n HA.out.n0 HA.out.n1 (enc a.s) HSZ.out).mono ?_; rintro _ w7 ⟨rfl, hm⟩; have HR := Lib.hid hm; clear hm; obtain ⟨c0, c1, c2, c3, c4, c5⟩ := (HB.out.pa.below HR.out.mine.below).cells) | (go_at_call 32; with_reducible refine (mr_flush HR.out HF.out).mono ?_; rintro _ w7 ⟨rfl, hm⟩; have HR := Lib.hid hm; clear hm; obtain ⟨c0, c1, c2, c3, c4, c5⟩ := (HB.out.pa.below HR.out.mine.below).cells) | (go_at_call 33; with_reducible refine (mr_cut HR.out HF.out 0).mono ?_; rintro _ w7 ⟨rfl, hm⟩; have HR := Lib.hid hm; clear hm; obtain ⟨c0, c1, c2, c3, c4, c5⟩ := (HB.out.pa.below HR.out.mine.below).cells) | (go_at_call 34; with_reducible refine (mr_turn HR.out HF.out 1).mono ?_; rintro _ w7 ⟨rfl, hm⟩; have HR := Lib.hid hm; clear hm; obtain ⟨c0, c1, c2, c3, c4, c5⟩ := (HB.out.pa.below HR.out.mine.below).cells) | (go_at_call 34; with_reducible refine (mr_turn2 HR.out HF.out).mono ?_; rintro _ w7 ⟨rfl, hm⟩; have HR := Lib.hid hm; clear hm; obtain ⟨c0, c1, c2, c3, c4, c5⟩ := (HB.out.pa.below HR.out.mine.below).cells) | (go_at_call 23; with_reducible refine (mr_size HR.out HF.out).mono ?_; rintro _ w7 ⟨rfl, hm⟩; have HR := Lib.hid hm; clear hm; obtain ⟨c0, c1, c2, c3, c4, c5⟩ := (HB.out.pa.below HR.out.mine.below).cells) | (go_at_call 17; with_reducible refine (mr_crash HR.out).mono ?_; rintro _ wc ⟨⟨v7, rfl⟩, hm⟩; have HC := Lib.hid hm; clear hm; obtain ⟨c0, c1, c2, c3, c4, c5⟩ := (HB.out.pa.below HC.out.mine.below).cells) | (go_at_call 15; with_reducible refine (mc_copy HC.out).mono ?_; rintro _ w7 ⟨rfl, hm⟩; have HT := Lib.hid hm; clear hm; obtain ⟨c0, c1, c2, c3, c4, c5⟩ := (HB.out.pa.below HT.out.two.one.below).cells) | (go_at_call 25; with_reducible refine (td_start2 HT.out).mono ?_; rintro _ w7 ⟨⟨v7, rfl⟩, hm⟩; have HT := Lib.hid hm; clear hm; obtain ⟨c0, c1, c2, c3, c4, c5⟩ := (HB.out.pa.below HT.out.two.one.below).cells) | (go_at_call 27; with_reducible refine (td_read HT.out a.f).mono ?_; rintro _ w7 ⟨rfl, hm⟩; have HT := Lib.hid hm; clear hm; obtain ⟨c0, c1, c2, c3, c4, c5⟩ := (HB.out.pa.below HT.out.two.one.below).cells) | (go_at_call 17; with_reducible refine (td_crash HT.out).mono ?_; rintro _ w7 ⟨⟨v7, rfl⟩, hm⟩; have HT := Lib.hid hm; clear hm; obtain ⟨c0, c1, c2, c3, c4, c5⟩ := (HB.out.pa.below HT.out.two.one.below).cells) | (go_at_call 16; with_reducible refine (td_write HT.out a.f a.n HA.out.n0 HA.out.n1 (enc a.s) HSZ.out).mono ?_; rintro _ w7 ⟨rfl, hm⟩; have HT := Lib.hid hm; clear hm; obtain ⟨c0, c1, c2, c3, c4, c5⟩ := (HB.out.pa.below HT.out.two.one.below).cells) | (go_at_call 32; with_reducible refine (td_flush HT.out a.f).mono ?_; rintro _ w7 ⟨rfl, hm⟩; have HT := Lib.hid hm; clear hm; obtain ⟨c0, c1, c2, c3, c4, c5⟩ := (HB.out.pa.below HT.out.two.one.below).cells) | (go_at_call 33; with_reducible refine (td_cut HT.out a.f a.n).mono ?_; rintro _ w7 ⟨rfl, hm⟩; have HT := Lib.hid hm; clear hm; obtain ⟨c0, c1, c2, c3, c4, c5⟩ := (HB.out.pa.below HT.out.two.one.below).cells) | (go_at_call 34; with_reducible refine (td_turn HT.out a.f a.g).mono ?_; rintro _ w7 ⟨rfl, hm⟩; have HT := Lib.hid hm; clear hm; obtain ⟨c0, c1, c2, c3, c4, c5⟩ := (HB.out.pa.below HT.out.two.one.below).cells) | (go_at_call 21; with_reducible refine (td_down HT.out).mono ?_; rintro _ w7 ⟨rfl, rfl⟩; skip) | (go_at_call 25; with_reducible refine (td_start HT.out).mono ?_; rintro _ w7 ⟨⟨v7, rfl⟩, hm⟩; have HU := Lib.hid hm; clear hm; skip))
        go_loopw [11, 12, 13, 14, 15] (fun i x12 x13 x14 x15 wr => ∃ j : Nat, i = .int .i64 j ∧ j ≤ 12 ∧ Hid (TU w2 wr w2.heap.size wc.heap.size (Dk.start (Dk.crash (Dk.rest D) [])))) (fun i _ _ _ _ _ => 12 - (intOf i).toNat)
        case atStart => exact ⟨0, rfl, Nat.zero_le _, HU.out⟩
        case round =>
          obtain ⟨j, rfl, hj, hU⟩ := hrel
          by_cases hjl : j < 12
          · have R1 := Lib.hid (tu_read hU.out (j : Int))
            have R2 := Lib.hid (fun (w1 : World) (h : TU w2 w1 w2.heap.size wc.heap.size (Dk.start (Dk.crash (Dk.rest D) []))) => tu_read2 h (j : Int))
            obtain ⟨Z, hZ⟩ : ∃ Z, enc (Dk.readE (Dk.start (Dk.crash (Dk.rest D) [])) (j : Int)).1 = Z := ⟨_, rfl⟩
            obtain ⟨ez, hez⟩ : ∃ e, Dk.ec (Dk.readE (Dk.start (Dk.crash (Dk.rest D) [])) (j : Int)).2 = e := ⟨_, rfl⟩
            rw [hZ, hez] at R1 R2
            clear hZ hez
            go_wp2_with (first | (go_at_call 27; with_reducible refine (R1.out).mono ?_; rintro _ w7 ⟨rfl, hm⟩; have HV := Lib.hid hm; clear hm) | (go_at_call 27; with_reducible refine (R2.out _ HV.out).mono ?_; rintro _ w7 ⟨rfl, hm⟩; have HV := Lib.hid hm; clear hm))
            go_roundw
            case rel => exact ⟨j + 1, by go_num, by omega, HV.out⟩
            case measure => simp [intOf]; omega
          · obtain rfl : j = 12 := by omega
            have R3 := Lib.hid (tu_down hU.out)
            go_wp2_with (first | (go_at_call 21; with_reducible refine (R3.out).mono ?_; rintro _ w7 ⟨rfl, rfl⟩; skip))
            go_ret
            exact ⟨rfl, below_to HB.out.up (Nat.le_refl _) hU.out.two.one.below⟩
      · have e1 : ¬ a.f < 0 := by omega
        have e2 : decide (a.f < 0) = false := by simpa using e1
        go_wp2_with (first | (go_at_call 31; with_reducible refine (mine_arm_nil HD.out 0 (by decide)).mono ?_; rintro _ w7 ⟨⟨v7, rfl⟩, hm⟩; have HD2 := Lib.hid hm; clear hm; skip) | (go_at_call 25; with_reducible refine (rest_start HD2.out HQ5.out).mono ?_; rintro _ w7 ⟨⟨v7, rfl⟩, hm⟩; have HR := Lib.hid hm; clear hm; obtain ⟨c0, c1, c2, c3, c4, c5⟩ := (HB.out.pa.below HR.out.mine.below).cells) | (go_at_call 16; with_reducible refine (mr_write HR.out HF.out a.n HA.out.n0 HA.out.n1 (enc a.s) HSZ.out).mono ?_; rintro _ w7 ⟨rfl, hm⟩; have HR := Lib.hid hm; clear hm; obtain ⟨c0, c1, c2, c3, c4, c5⟩ := (HB.out.pa.below HR.out.mine.below).cells) | (go_at_call 32; with_reducible refine (mr_flush HR.out HF.out).mono ?_; rintro _ w7 ⟨rfl, hm⟩; have HR := Lib.hid hm; clear hm; obtain ⟨c0, c1, c2, c3, c4, c5⟩ := (HB.out.pa.below HR.out.mine.below).cells) | (go_at_call 33; with_reducible refine (mr_cut HR.out HF.out 0).mono ?_; rintro _ w7 ⟨rfl, hm⟩; have HR := Lib.hid hm; clear hm; obtain ⟨c0, c1, c2, c3, c4, c5⟩ := (HB.out.pa.below HR.out.mine.below).cells) | (go_at_call 34; with_reducible refine (mr_turn HR.out HF.out 1).mono ?_; rintro _ w7 ⟨rfl, hm⟩; have HR := Lib.hid hm; clear hm; obtain ⟨c0, c1, c2, c3, c4, c5⟩ := (HB.out.pa.below HR.out.mine.below).cells) | (go_at_call 34; with_reducible refine (mr_turn2 HR.out HF.out).mono ?_; rintro _ w7 ⟨rfl, hm⟩; have HR := Lib.hid hm; clear hm; obtain ⟨c0, c1, c2, c3, c4, c5⟩ := (HB.out.pa.below HR.out.mine.below).cells) | (go_at_call 23; with_reducible refine (mr_size HR.out HF.out).mono ?_; rintro _ w7 ⟨rfl, hm⟩; have HR := Lib.hid hm; clear hm; obtain ⟨c0, c1, c2, c3, c4, c5⟩ := (HB.out.pa.below HR.out.mine.below).cells) | (go_at_call 17; with_reducible refine (mr_crash HR.out).mono ?_; rintro _ wc ⟨⟨v7, rfl⟩, hm⟩; have HC := Lib.hid hm; clear hm; obtain ⟨c0, c1, c2, c3, c4, c5⟩ := (HB.out.pa.below HC.out.mine.below).cells) | (go_at_call 15; with_reducible refine (mc_copy HC.out).mono ?_; rintro _ w7 ⟨rfl, hm⟩; have HT := Lib.hid hm; clear hm; obtain ⟨c0, c1, c2, c3, c4, c5⟩ := (HB.out.pa.below HT.out.two.one.below).cells) | (go_at_call 25; with_reducible refine (td_start2 HT.out).mono ?_; rintro _ w7 ⟨⟨v7, rfl⟩, hm⟩; have HT := Lib.hid hm; clear hm; obtain ⟨c0, c1, c2, c3, c4, c5⟩ := (HB.out.pa.below HT.out.two.one.below).cells) | (go_at_call 27; with_reducible refine (td_read HT.out a.f).mono ?_; rintro _ w7 ⟨rfl, hm⟩; have HT := Lib.hid hm; clear hm; obtain ⟨c0, c1, c2, c3, c4, c5⟩ := (HB.out.pa.below HT.out.two.one.below).cells) | (go_at_call 17; with_reducible refine (td_crash HT.out).mono ?_; rintro _ w7 ⟨⟨v7, rfl⟩, hm⟩; have HT := Lib.hid hm; clear hm; obtain ⟨c0, c1, c2, c3, c4, c5⟩ := (HB.out.pa.below HT.out.two.one.below).cells) | (go_at_call 16; with_reducible refine (td_write HT.out a.f a.n HA.out.n0 HA.out.n1 (enc a.s) HSZ.out).mono ?_; rintro _ w7 ⟨rfl, hm⟩; have HT := Lib.hid hm; clear hm; obtain ⟨c0, c1, c2, c3, c4, c5⟩ := (HB.out.pa.below HT.out.two.one.below).cells) | (go_at_call 32; with_reducible refine (td_flush HT.out a.f).mono ?_; rintro _ w7 ⟨rfl, hm⟩; have HT := Lib.hid hm; clear hm; obtain ⟨c0, c1, c2, c3, c4, c5⟩ := (HB.out.pa.below HT.out.two.one.below).cells) | (go_at_call 33; with_reducible refine (td_cut HT.out a.f a.n).mono ?_; rintro _ w7 ⟨rfl, hm⟩; have HT := Lib.hid hm; clear hm; obtain ⟨c0, c1, c2, c3, c4, c5⟩ := (HB.out.pa.below HT.out.two.one.below).cells) | (go_at_call 34; with_reducible refine (td_turn HT.out a.f a.g).mono ?_; rintro _ w7 ⟨rfl, hm⟩; have HT := Lib.hid hm; clear hm; obtain ⟨c0, c1, c2, c3, c4, c5⟩ := (HB.out.pa.below HT.out.two.one.below).cells) | (go_at_call 21; with_reducible refine (td_down HT.out).mono ?_; rintro _ w7 ⟨rfl, rfl⟩; skip) | (go_at_call 25; with_reducible refine (td_start HT.out).mono ?_; rintro _ w7 ⟨⟨v7, rfl⟩, hm⟩; have HU := Lib.hid hm; clear hm; skip))
        go_loopw [11, 12, 13, 14, 15] (fun i x12 x13 x14 x15 wr => ∃ j : Nat, i = .int .i64 j ∧ j ≤ 12 ∧ Hid (TU w2 wr w2.heap.size wc.heap.size (Dk.start (Dk.crash (Dk.rest D) [])))) (fun i _ _ _ _ _ => 12 - (intOf i).toNat)
        case atStart => exact ⟨0, rfl, Nat.zero_le _, HU.out⟩
        case round =>
          obtain ⟨j, rfl, hj, hU⟩ := hrel
          by_cases hjl : j < 12
          · have R1 := Lib.hid (tu_read hU.out (j : Int))
            have R2 := Lib.hid (fun (w1 : World) (h : TU w2 w1 w2.heap.size wc.heap.size (Dk.start (Dk.crash (Dk.rest D) []))) => tu_read2 h (j : Int))
            obtain ⟨Z, hZ⟩ : ∃ Z, enc (Dk.readE (Dk.start (Dk.crash (Dk.rest D) [])) (j : Int)).1 = Z := ⟨_, rfl⟩
            obtain ⟨ez, hez⟩ : ∃ e, Dk.ec (Dk.readE (Dk.start (Dk.crash (Dk.rest D) [])) (j : Int)).2 = e := ⟨_, rfl⟩
            rw [hZ, hez] at R1 R2
            clear hZ hez
            go_wp2_with (first | (go_at_call 27; with_reducible refine (R1.out).mono ?_; rintro _ w7 ⟨rfl, hm⟩; have HV := Lib.hid hm; clear hm) | (go_at_call 27; with_reducible refine (R2.out _ HV.out).mono ?_; rintro _ w7 ⟨rfl, hm⟩; have HV := Lib.hid hm; clear hm))
            go_roundw
            case rel => exact ⟨j + 1, by go_num, by omega, HV.out⟩
            case measure => simp [intOf]; omega
          · obtain rfl : j = 12 := by omega
            have R3 := Lib.hid (tu_down hU.out)
            go_wp2_with (first | (go_at_call 21; with_reducible refine (R3.out).mono ?_; rintro _ w7 ⟨rfl, rfl⟩; skip))
            go_ret
            exact ⟨rfl, below_to HB.out.up (Nat.le_refl _) hU.out.two.one.below⟩
theorem down_law (X : List Dk.Act) (n : Nat) (hn : X.length = n) (hN : n ≤ 9223372036854775807) (xa : Option Addr) (b off cap : Nat) (a : Dk.Act) (ka : Option Addr) (kb koff kn kcap : Nat) (w : World) (hl : LA w xa b off X) (hA : AC w a ka kb koff kn kcap) :
    Calls Try.prog 5 #[.slice xa n cap, .agg #[.int .i64 a.do_, .int .i64 a.f, .int .i64 a.g, .int .i64 a.n, .string (enc a.s), .slice ka kn kcap]] w fun e w' => e = .returned (.bool true) ∧ Below w.heap.size w w' := by
  cases hF : Dk.few X with
  | false => exact down_a X n hn hN xa b off cap a ka kb koff kn kcap w hl hA hF
  | true =>
    cases hG : Dk.few [a] with
    | false => exact down_b X n hn hN xa b off cap a ka kb koff kn kcap w hl hA hF hG
    | true =>
      by_cases hf : a.f < 0 ∨ 11 < a.f
      · exact down_out X n hn hN xa b off cap a ka kb koff kn kcap w hl hA hF hG hf
      · exact down_in X n hn hN xa b off cap a ka kb koff kn kcap w hl hA hF hG hf
end Go.Proofs.Ytalhilmpjnejbaa
