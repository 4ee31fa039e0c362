/-
  DiskTells: the law walked.
-/
import Derived.Test.YtbelmadbjiiodaaTBp
import Derived.Deep.DeepCutAuto
import Derived.Deep.RegionHeld3
namespace Go.Proofs.Ytbelmadbjiiodaa
open Go Go.RowKit
namespace Dk
theorem few_all {X : List Act} (h : few X = true) : X.length ≤ 200 ∧ atot X X.length ≤ 5000 := by
  unfold few at h
  simp at h
  omega
end Dk
namespace Dk
theorem atot_each {X : List Act} : ∀ (n k : Nat) (a : Act), X[k]? = some a → k < n → atot X k + a.s.length + a.keep.length ≤ atot X n
  | 0, _, _, _, h => by omega
  | n + 1, k, a, ha, h => by
    rcases Nat.lt_or_ge k n with h1 | h1
    · have ih := atot_each n k a ha h1
      cases hn : X[n]? with
      | none =>
        have : atot X (n + 1) = atot X n := by unfold atot; rw [List.take_add_one, hn]; simp
        omega
      | some x => have := atot_succ X n x hn; omega
    · obtain rfl : k = n := by omega
      rw [atot_succ X k a ha]
      exact Nat.le_refl _
end Dk
theorem Mine.armed {w0 w : World} {g : Nat} {D : Dk.Disk} (h : Mine w0 w g D) : 0 ≤ D.armed := by
  obtain ⟨vs, q, k, hv⟩ := h.at_
  exact hv.good.armed0
namespace Dk
theorem writeB_keep (D : Disk) (f at_ : Int) (s : B) : (writeB D f at_ s).2.keep = D.keep := by unfold writeB; (repeat' split) <;> rfl
theorem flushB_keep (D : Disk) (f : Int) : (flushB D f).2.keep = D.keep := by unfold flushB; (repeat' split) <;> rfl
theorem cutB_keep (D : Disk) (f n : Int) : (cutB D f n).2.keep = D.keep := by unfold cutB; (repeat' split) <;> rfl
theorem turnB_keep (D : Disk) (f g : Int) : (turnB D f g).2.keep = D.keep := by unfold turnB; (repeat' split) <;> rfl
theorem act_keep (D : Disk) (a : Act) : (act D a).2.keep = D.keep ∨ (act D a).2.keep = a.keep := by
  unfold act
  split
  · left; show (write D a.f a.n a.s).2.keep = _; unfold write; rw [writeB_keep, comes_keep]
  split
  · left; show (flush D a.f).2.keep = _; unfold flush; rw [flushB_keep, comes_keep]
  split
  · left; show (cut D a.f a.n).2.keep = _; unfold cut; rw [cutB_keep, comes_keep]
  split
  · left; show (turn D a.f a.g).2.keep = _; unfold turn; rw [turnB_keep, comes_keep]
  split
  · left; exact crash_keep D a.keep
  split
  · left; rfl
  split
  · left; rfl
  split
  · left; rfl
  split
  · right; rfl
  · left; rfl
end Dk
set_option maxHeartbeats 4000000 in
set_option maxRecDepth 100000 in
theorem tells_a (X : List Dk.Act) (n : Nat) (hn : X.length = n) (hN : n ≤ 9223372036854775807) (xa : Option Addr) (b off cap : Nat) (w : World) (hl : LA w xa b off X) (hF : Dk.few X = false) :
    Calls Try.prog 3 #[.slice xa n cap] w fun e w' => e = .returned (.bool true) ∧ Below w.heap.size w w' := by
  have C0 := Lib.hid (fun w1 : World => small_any w1)
  have HL := Lib.hid hl
  have CF := Lib.hid (fun (w1 : World) (h : LA w1 xa b off X) => few_any X n hn hN xa b off cap w1 h)
  rw [hF] at CF
  clear hl hF hn
  go_enter Try.func3, Try.ntmps3
  go_wp2_with (first | (go_at_call 4; with_reducible refine (C0.out _).mono ?_; rintro _ w2 ⟨rfl, hb0⟩; have HB0 := Lib.hid hb0; clear hb0) | (go_at_call 5; with_reducible refine (mine_new _).mono ?_; rintro _ w3 ⟨rfl, hm⟩; have HM := Lib.hid hm; clear hm; have HLA := Lib.hid ((HL.out.below HB0.out).below HM.out.below)) | (go_at_call 6; with_reducible refine (CF.out _ HLA.out).mono ?_; rintro _ w4 ⟨rfl, hm⟩; have HM4 := Lib.hid (HM.out.quiet hm); clear hm))
  go_ret
  exact ⟨rfl, below_to HB0.out (Nat.le_refl _) HM4.out.below⟩
set_option maxHeartbeats 40000000 in
set_option maxRecDepth 100000 in
theorem tells_b (X : List Dk.Act) (n : Nat) (hn : X.length = n) (hN : n ≤ 9223372036854775807) (xa : Option Addr) (b off cap : Nat) (w : World) (hl : LA w xa b off X) (hF : Dk.few X = true) :
    Calls Try.prog 3 #[.slice xa n cap] w fun e w' => e = .returned (.bool true) ∧ Below w.heap.size w w' := by
  have HX := Lib.hid (Dk.few_all hF)
  have C0 := Lib.hid (fun w1 : World => small_any w1)
  have HL := Lib.hid hl
  have CF := Lib.hid (fun (w1 : World) (h : LA w1 xa b off X) => few_any X n hn hN xa b off cap w1 h)
  rw [hF] at CF
  have HN := Lib.hid hn
  clear hl hF hn
  go_enter Try.func3, Try.ntmps3
  go_wp2_with (first | (go_at_call 4; with_reducible refine (C0.out _).mono ?_; rintro _ w2 ⟨rfl, hb0⟩; have HB0 := Lib.hid hb0; clear hb0) | (go_at_call 5; with_reducible refine (mine_new _).mono ?_; rintro _ w3 ⟨rfl, hm⟩; have HM := Lib.hid hm; clear hm; have HLA := Lib.hid ((HL.out.below HB0.out).below HM.out.below)) | (go_at_call 6; with_reducible refine (CF.out _ HLA.out).mono ?_; rintro _ w4 ⟨rfl, hm⟩; have HM4 := Lib.hid (HM.out.quiet hm); clear hm) | (go_at_call 7; with_reducible refine (rnew_any _).mono ?_; rintro _ w5 ⟨g5, rfl, hg5, hr5, hb5, hf5⟩; have HB5 := Lib.hid (show Both w2 w5 w2.heap.size g5 Dk.new Dk.new from ⟨HM4.out.quiet hb5, hr5, HM4.out.below.trans (hb5.mono HM4.out.below.size), fun y hy => Nat.le_trans HM4.out.below.size (hf5 y hy)⟩); clear hg5 hr5 hb5 hf5))
  go_loopw [4, 5, 6] (fun x4 x5 x6 wr => ∃ (k d x : Nat) (D : Dk.Disk), x6 = .int .i64 k ∧ k ≤ n ∧ x4 = .pointer (some ⟨d, 0, none⟩) ∧ x5 = .pointer (some ⟨x, 0, none⟩) ∧ Hid (Both w2 wr d x D D) ∧ Hid (D.queue.length ≤ Dk.atot X k ∧ D.keep.length ≤ 5000)) (fun _ _ x6 _ => n - (intOf x6).toNat)
  case atStart => exact ⟨0, _, _, _, rfl, Nat.zero_le _, rfl, rfl, HB5.out, Nat.zero_le _, Nat.zero_le _⟩
  case round =>
    clear HB5
    obtain ⟨k, d, x, D, rfl, hk, rfl, rfl, HB, HQ⟩ := hrel
    by_cases hlt : k < n
    · obtain ⟨a, ha⟩ : ∃ a, X[k]? = some a := ⟨_, List.getElem?_eq_getElem (by rw [HN.out]; exact hlt)⟩
      have HL2 := Lib.hid (HL.out.below HB0.out)
      obtain rfl := HL2.out.at_ (by rw [HN.out]; omega)
      obtain ⟨la, lb, loff, ln, lcap, hac, hcs⟩ := HL2.out.cell k a ha
      have HAC := Lib.hid hac
      have HAT := Lib.hid (Dk.atot_succ X k a ha)
      have HEA := Lib.hid (Dk.atot_each X.length k a ha (by rw [HN.out]; exact hlt))
      have CELLS := Lib.hid (fun (W : World) (h : Below w2.heap.size w2 W) => acells_at fun i v hv => (h.cell (p := ⟨b, off + k * 6 + i, none⟩) (HL2.out.lt (by rw [HN.out]; omega))).trans (hcs i v hv))
      have hq1 : a.s.length ≤ 5000 := by have := HEA.out; have := HX.out; omega
      have hq2 : D.queue.length + a.s.length ≤ 5000 := by have := HEA.out; have := HX.out; have := HQ.out.1; omega
      have hq3 : ln ≤ 5000 := by have := HAC.out.len; have := HEA.out; have := HX.out; omega
      have HQ1 := Lib.hid (show a.s.length ≤ 1000000 by omega)
      have HQ2 := Lib.hid (show D.queue.length + a.s.length ≤ 1000000 by omega)
      have HQ3 := Lib.hid (show ln ≤ 100000000 by omega)
      have HQD := Lib.hid (show D.queue.length ≤ 5000 by omega)
      have HKD := Lib.hid (show a.keep.length ≤ 5000 by have := HAC.out.len; omega)
      clear hq1 hq2 hq3 hac hcs ha
      have CP := Lib.hid (fun w1 : World => pick_any a.do_ HAC.out.d0 HAC.out.d1 w1)
      obtain ⟨p, hp⟩ : ∃ p, Dk.pick a.do_ = p := ⟨_, rfl⟩
      rw [hp] at CP
      clear hp
      obtain ⟨D', hD'⟩ : ∃ D', (Dk.act D a).2 = D' := ⟨_, rfl⟩
      have HQN : Hid (D'.queue.length ≤ Dk.atot X (k + 1) ∧ D'.keep.length ≤ 5000) := by
        have h1 := Dk.act_queue D HB.out.p.armed a
        have h2 := Dk.act_keep D a
        rw [hD'] at h1 h2
        have h3 := HAT.out
        have h4 := HQ.out
        have h5 := HKD.out
        refine Lib.hid ⟨by omega, ?_⟩
        rcases h2 with h2 | h2 <;> rw [h2] <;> omega
      obtain ⟨er, her⟩ : ∃ er, Dk.ec (Dk.act D a).1.2 = er := ⟨_, rfl⟩
      obtain ⟨rs, hrs⟩ : ∃ rs, enc (Dk.act D a).1.1 = rs := ⟨_, rfl⟩
      have CDO := Lib.hid (fun (W : World) (d x : Nat) (h : Both w2 W d x D D) => both_do h a la lb loff ln lcap HAC.out HQ1.out HQ2.out HQ3.out)
      rw [hD', her, hrs] at CDO
      have CTW := Lib.hid (fun (W : World) (d x : Nat) (h : Both w2 W d x D' D) => both_twin h a la lb loff ln lcap HAC.out HQ1.out HQ2.out HQ3.out)
      rw [hD', her, hrs] at CTW
      clear hD' her hrs
      obtain ⟨d0, d1, d2, d3, d4, d5⟩ := CELLS.out wr HB.out.p.below
      by_cases h9 : p = 9
      · subst h9
        go_wp2_with (first | (go_at_call 8; with_reducible refine (CP.out _).mono ?_; rintro _ w6 ⟨rfl, rfl⟩) | (go_at_call 9; with_reducible refine (both_copy HB.out).mono ?_; rintro _ w7 ⟨c7, rfl, h7⟩; have H7 := Lib.hid h7; clear h7) | (go_at_call 10; with_reducible refine (three_write H7.out _ (by decide) (by have := HQD.out; omega)).mono ?_; rintro _ w8 ⟨⟨v8, rfl⟩, D8, h8⟩; have H8 := Lib.hid h8; clear h8) | (go_at_call 11; with_reducible refine (three_crash H8.out).mono ?_; rintro _ w9 ⟨⟨v9, rfl⟩, h9⟩; have H9 := Lib.hid h9; clear h9) | (go_at_call 12; with_reducible refine (both_rcopy H9.out (by have := HQD.out; omega) (by have := HQ.out.2; omega)).mono ?_; rintro _ w10 ⟨c10, rfl, h10⟩; have HZ := Lib.hid h10; clear h10; obtain ⟨e0, e1, e2, e3, e4, e5⟩ := CELLS.out _ HZ.out.p.below) | (go_at_call 13; with_reducible refine (CDO.out _ _ _ HZ.out).mono ?_; rintro _ w11 ⟨rfl, h11⟩; have HA := Lib.hid h11; clear h11; obtain ⟨f0, f1, f2, f3, f4, f5⟩ := CELLS.out _ HA.out.p.below) | (go_at_call 14; with_reducible refine (CTW.out _ _ _ HA.out).mono ?_; rintro _ w12 ⟨rfl, h12⟩; have HT := Lib.hid h12; clear h12; obtain ⟨g0, g1, g2, g3, g4, g5'⟩ := CELLS.out _ HT.out.p.below))
        have KEEP := Lib.hid (fun (W : World) (h : Below w12.heap.size w12 W) => (CELLS.out W (HT.out.quiet h).p.below).2.1)
        have HBK := Lib.hid (fun (W : World) (h : Below w12.heap.size w12 W) => HT.out.quiet h)
        have hk1 : (0 : Int) ≤ (k : Int) := by omega
        have hk2 : (k : Int) < (n : Int) := by omega
        clear CDO CTW CP CELLS HQ HQ1 HQ2 HQ3 HQD HKD
        go_region_held3 (fun W => W.cell? ⟨b, off + k * 6 + 1, none⟩ = some (.int .i64 a.f)) ((refine KEEP.out _ ?_; (repeat' (first | with_reducible exact bl_refl _ _ | with_reducible refine bl_alloc ?_ | with_reducible refine bl_drew ?_ | with_reducible refine bl_step (by assumption) ?_)))) ((first
          | (go_at_call 15; refine (both_down (HBK.out _ ?cA)).mono ?_; (case cA => (repeat' (first | with_reducible exact bl_refl _ _ | with_reducible refine bl_alloc ?_ | with_reducible refine bl_drew ?_ | with_reducible refine bl_step (by assumption) ?_))); rintro _ w13 ⟨rfl, rfl⟩)
          | (go_at_call 16; refine (both_rdown (HBK.out _ ?cA)).mono ?_; (case cA => (repeat' (first | with_reducible exact bl_refl _ _ | with_reducible refine bl_alloc ?_ | with_reducible refine bl_drew ?_ | with_reducible refine bl_step (by assumption) ?_))); rintro _ w14 ⟨rfl, rfl⟩)
          | (go_at_call 17; refine (both_size (HBK.out _ ?cA) a.f).mono ?_; (case cA => (repeat' (first | with_reducible exact bl_refl _ _ | with_reducible refine bl_alloc ?_ | with_reducible refine bl_drew ?_ | with_reducible refine bl_step (by assumption) ?_))); rintro _ w15 ⟨rfl, hb15, _⟩; have HS15 := Lib.hid hb15; clear hb15)
          | (go_at_call 18; refine (both_rsize (HBK.out _ ?cA) a.f).mono ?_; (case cA => (repeat' (first | with_reducible exact bl_refl _ _ | with_reducible refine bl_alloc ?_ | with_reducible refine bl_drew ?_ | with_reducible refine bl_step (by assumption) ?_))); rintro _ w16 ⟨rfl, hb16, _⟩; have HS16 := Lib.hid hb16; clear hb16)
          | fail))
        all_goals go_wp2
        all_goals
          go_roundw
          case rel => exact ⟨k + 1, _, _, D', by go_num, by omega, rfl, rfl, HBK.out _ (by (repeat' (first | with_reducible exact bl_refl _ _ | with_reducible refine bl_alloc ?_ | with_reducible refine bl_drew ?_ | with_reducible refine bl_step (by assumption) ?_))), HQN.out⟩
          case measure => simp [intOf]; omega
      · have q9 : (p == 9) = false := by rw [beq_eq_false_iff_ne]; exact h9
        have HZ := HB
        go_wp2_with (first | (go_at_call 8; with_reducible refine (CP.out _).mono ?_; rintro _ w6 ⟨rfl, rfl⟩) | (go_at_call 13; with_reducible refine (CDO.out _ _ _ HZ.out).mono ?_; rintro _ w11 ⟨rfl, h11⟩; have HA := Lib.hid h11; clear h11; obtain ⟨f0, f1, f2, f3, f4, f5⟩ := CELLS.out _ HA.out.p.below) | (go_at_call 14; with_reducible refine (CTW.out _ _ _ HA.out).mono ?_; rintro _ w12 ⟨rfl, h12⟩; have HT := Lib.hid h12; clear h12; obtain ⟨g0, g1, g2, g3, g4, g5'⟩ := CELLS.out _ HT.out.p.below))
        have KEEP := Lib.hid (fun (W : World) (h : Below w12.heap.size w12 W) => (CELLS.out W (HT.out.quiet h).p.below).2.1)
        have HBK := Lib.hid (fun (W : World) (h : Below w12.heap.size w12 W) => HT.out.quiet h)
        have hk1 : (0 : Int) ≤ (k : Int) := by omega
        have hk2 : (k : Int) < (n : Int) := by omega
        clear CDO CTW CP CELLS HQ HQ1 HQ2 HQ3 HQD HKD
        go_region_held3 (fun W => W.cell? ⟨b, off + k * 6 + 1, none⟩ = some (.int .i64 a.f)) ((refine KEEP.out _ ?_; (repeat' (first | with_reducible exact bl_refl _ _ | with_reducible refine bl_alloc ?_ | with_reducible refine bl_drew ?_ | with_reducible refine bl_step (by assumption) ?_)))) ((first
          | (go_at_call 15; refine (both_down (HBK.out _ ?cA)).mono ?_; (case cA => (repeat' (first | with_reducible exact bl_refl _ _ | with_reducible refine bl_alloc ?_ | with_reducible refine bl_drew ?_ | with_reducible refine bl_step (by assumption) ?_))); rintro _ w13 ⟨rfl, rfl⟩)
          | (go_at_call 16; refine (both_rdown (HBK.out _ ?cA)).mono ?_; (case cA => (repeat' (first | with_reducible exact bl_refl _ _ | with_reducible refine bl_alloc ?_ | with_reducible refine bl_drew ?_ | with_reducible refine bl_step (by assumption) ?_))); rintro _ w14 ⟨rfl, rfl⟩)
          | (go_at_call 17; refine (both_size (HBK.out _ ?cA) a.f).mono ?_; (case cA => (repeat' (first | with_reducible exact bl_refl _ _ | with_reducible refine bl_alloc ?_ | with_reducible refine bl_drew ?_ | with_reducible refine bl_step (by assumption) ?_))); rintro _ w15 ⟨rfl, hb15, _⟩; have HS15 := Lib.hid hb15; clear hb15)
          | (go_at_call 18; refine (both_rsize (HBK.out _ ?cA) a.f).mono ?_; (case cA => (repeat' (first | with_reducible exact bl_refl _ _ | with_reducible refine bl_alloc ?_ | with_reducible refine bl_drew ?_ | with_reducible refine bl_step (by assumption) ?_))); rintro _ w16 ⟨rfl, hb16, _⟩; have HS16 := Lib.hid hb16; clear hb16)
          | fail))
        all_goals go_wp2
        all_goals
          go_roundw
          case rel => exact ⟨k + 1, _, _, D', by go_num, by omega, rfl, rfl, HBK.out _ (by (repeat' (first | with_reducible exact bl_refl _ _ | with_reducible refine bl_alloc ?_ | with_reducible refine bl_drew ?_ | with_reducible refine bl_step (by assumption) ?_))), HQN.out⟩
          case measure => simp [intOf]; omega
    · clear CF C0 HX HL
      have h_k : k = n := by omega
      clear h_k
      go_wp2_with (first | (go_at_call 19; with_reducible refine (both_start HB.out).mono ?_; rintro _ w13 ⟨⟨v13, rfl⟩, h13⟩; have H13 := Lib.hid h13; clear h13) | (go_at_call 20; with_reducible refine (both_rstart H13.out).mono ?_; rintro _ w14 ⟨⟨v14, rfl⟩, h14⟩; have H14 := Lib.hid h14; clear h14))
      obtain ⟨D2, hD2⟩ : ∃ D2, Dk.start D = D2 := ⟨_, rfl⟩
      have HDN := Lib.hid (show D2.down = false by rw [← hD2]; rfl)
      rw [hD2] at H14
      clear hD2
      go_loopw [12] (fun x12 wr2 => ∃ j : Nat, x12 = .int .i64 j ∧ j ≤ 12 ∧ Hid (Both w2 wr2 d x D2 D2)) (fun x12 _ => 12 - (intOf x12).toNat)
      case atStart => exact ⟨0, rfl, Nat.zero_le _, H14.out⟩
      case round =>
        clear H13 H14
        obtain ⟨j, rfl, hj, HJ⟩ := hrel
        by_cases hlt2 : j < 12
        · have hre : (Dk.readE D2 (j : Int)).2 = .ok := by
            unfold Dk.readE
            have : Dk.may D2 (j : Int) = .ok := by
              unfold Dk.may
              rw [HDN.out]
              have : Dk.isFile (j : Int) = true := by unfold Dk.isFile; simp; omega
              rw [this]; rfl
            rw [this]
          have he : Dk.ec (Dk.readE D2 (j : Int)).2 = 0 := by rw [hre]; rfl
          have CR := Lib.hid (fun (W : World) (h : Both w2 W d x D2 D2) => both_read h (j : Int))
          have CT := Lib.hid (fun (W : World) (h : Both w2 W d x D2 D2) => both_rread h (j : Int))
          rw [he] at CR CT
          obtain ⟨rs, hrs⟩ : ∃ rs, enc (Dk.readE D2 (j : Int)).1 = rs := ⟨_, rfl⟩
          rw [hrs] at CR CT
          clear hre he hrs
          go_wp2_with (first | (go_at_call 21; with_reducible refine (CR.out _ HJ.out).mono ?_; rintro _ w15 ⟨rfl, h15⟩; have H15 := Lib.hid h15; clear h15) | (go_at_call 22; with_reducible refine (CT.out _ H15.out).mono ?_; rintro _ w16 ⟨rfl, h16⟩; have H16 := Lib.hid h16; clear h16))
          go_roundw
          case rel => exact ⟨j + 1, by go_num, by omega, H16.out⟩
          case measure => simp [intOf]; omega
        · go_wp2
          go_ret
          exact ⟨rfl, below_to HB0.out (Nat.le_refl _) HJ.out.p.below⟩
theorem tells_law (X : List Dk.Act) (n : Nat) (hn : X.length = n) (hN : n ≤ 9223372036854775807) (xa : Option Addr) (b off cap : Nat) (w : World) (hl : LA w xa b off X) :
    Calls Try.prog 3 #[.slice xa n cap] w fun e w' => e = .returned (.bool true) ∧ Below w.heap.size w w' := by
  cases hF : Dk.few X with
  | false => exact tells_a X n hn hN xa b off cap w hl hF
  | true => exact tells_b X n hn hN xa b off cap w hl hF
end Go.Proofs.Ytbelmadbjiiodaa
