/-
  DiskLasts: the main loop, the final crash.
-/
import Derived.Test.YtbpodclodflgfaaLLa
import Derived.Test.YtbpodclodflgfaaLQl
import Derived.Deep.DeepCutAuto
namespace Go.Proofs.Ytbpodclodflgfaa
open Go Go.RowKit
theorem new_act2 (w : World) (o : Obj) (p : AH) : ∀ j u, (ah p)[j]? = some u → ((w.alloc o).alloc (.cells #[.int .i64 p.a.do_, .int .i64 p.a.f, .int .i64 p.a.g, .int .i64 p.a.n, .string (enc p.a.s), .slice p.ka p.kn p.kcap] 32)).cell? (Addr.add ⟨w.heap.size + 1, 0, none⟩ j) = some u := fun j u hj => by
  have := new_act (w.alloc o) p j u hj
  rw [alloc_size] at this
  exact this
theorem lm_downb {w2 w : World} {g sb : Nat} {v : Value} {D : Dk.Disk} {safe : Nat → List UInt8} {l : List AH} (h : LM w2 w g sb v D safe l) (b : Bool) (hb : D.down = b) : Calls Try.prog 17 #[.pointer (some ⟨g, 0, none⟩)] w fun e w' => e = .returned (.bool b) ∧ w = w' := by
  rw [← hb]
  exact lm_down h
set_option maxHeartbeats 40000000 in
set_option maxRecDepth 100000 in
theorem lasts_b (X : List Dk.Act) (n : Nat) (hn : X.length = n) (hN : n ≤ 9223372036854775807) (xa : Option Addr) (b off cap : Nat) (ks : List Int) (ka : Option Addr) (kb koff kn kcap : Nat) (w : World) (hl : LA w xa b off X) (hk : IR w ka kb koff ks) (hkn : ks.length = kn) (hF : Dk.few X = true) :
    Calls Try.prog 4 #[.slice xa n cap, .slice ka kn kcap] w fun e w' => e = .returned (.bool true) ∧ Below w.heap.size w w' := by
  have HX := Lib.hid (Dk.few_all hF)
  have HEACH := Lib.hid (fun (k : Nat) (x : Dk.Act) (hx : X[k]? = some x) => few_each hF hx)
  have C0 := Lib.hid (fun w1 : World => small_any w1)
  have HL := Lib.hid hl
  have CF := Lib.hid (fun (w1 : World) (h : LA w1 xa b off X) => few_any X n hn hN xa b off cap w1 h)
  rw [hF] at CF
  have HN := Lib.hid hn
  have HK := Lib.hid hk
  clear hl hF hn hk
  go_enter Try.func4, Try.ntmps4
  go_wp2_with (first | (go_at_call 6; with_reducible refine (C0.out _).mono ?_; rintro _ w2 ⟨rfl, hb0⟩; have HB0 := Lib.hid hb0; clear hb0) | (go_at_call 7; with_reducible refine (mine_new _).mono ?_; rintro _ w3 ⟨rfl, hm⟩; have HM := Lib.hid hm; clear hm; have HLA := Lib.hid ((HL.out.below HB0.out).below HM.out.below)) | (go_at_call 8; with_reducible refine (CF.out _ HLA.out).mono ?_; rintro _ w4 ⟨rfl, hm⟩; have HM4 := Lib.hid (HM.out.quiet hm); clear hm) | (refine wpList_make12 rfl rfl ?_; intro w5 hs5 hb5; have HM5 := Lib.hid (HM4.out.quiet hb5.out); have HS5 := hs5; clear hs5 hb5))
  have HZ4 := Lib.hid HM4.out.below.size
  go_loopw [8, 9, 10, 11, 12, 13, 14, 15, 16, 17] (fun x8 x9 x10 x11 x12 x13 x14 x15 x16 x17 wr => ∃ k : Nat, x9 = .int .i64 k ∧ k ≤ n ∧ Hid (∃ D sf L, LS w2 wr w2.heap.size w4.heap.size x8 X k D sf L)) (fun _ x9 _ _ _ _ _ _ _ _ _ => n - (intOf x9).toNat)
  case atStart => exact ⟨0, rfl, Nat.zero_le _, _, _, _, LS.start HM5.out HS5.out HZ4.out⟩
  case round =>
    obtain ⟨k, rfl, hk, hD⟩ := hrel
    obtain ⟨D, sf, L, hS⟩ := hD.out
    clear hD
    obtain ⟨va, vn, vc, rfl, hvn⟩ := hS.lm.slice
    have HS := Lib.hid hS
    have HVN := Lib.hid hvn
    clear hS hvn
    by_cases hlt : k < n
    · obtain ⟨x, hx⟩ : ∃ x, X[k]? = some x := ⟨_, List.getElem?_eq_getElem (by rw [HN.out]; exact hlt)⟩
      have HL2 := Lib.hid (HL.out.below HB0.out)
      obtain rfl := HL2.out.at_ (by rw [HN.out]; omega)
      obtain ⟨la, lb, loff, ln, lcap, hac, hcs⟩ := HL2.out.cell k x hx
      have HAC := Lib.hid hac
      have HAT := Lib.hid (Dk.atot_succ X k x hx)
      have HEA := Lib.hid (Dk.atot_each X.length k x hx (by rw [HN.out]; exact hlt))
      have HFX := Lib.hid (HEACH.out k x hx)
      obtain ⟨d0, d1, d2, d3, d4, d5⟩ := acells_at fun i v hv => (HS.out.mine.below.cell (p := ⟨b, off + k * 6 + i, none⟩) (HL2.out.lt (by rw [HN.out]; omega))).trans (hcs i v hv)
      have hq1 : x.s.length ≤ 1000000 := by have := HEA.out; have := HX.out; omega
      have hq2 : D.queue.length + x.s.length ≤ 1000000 := by have := HEA.out; have := HX.out; have := HS.out.q; omega
      have hq3 : ln ≤ 100000000 := by have := HAC.out.len; have := HEA.out; have := HX.out; omega
      have hlen : L.length ≤ 1000000 := by have := HS.out.len; have := HX.out; have := HN.out; omega
      have HQ1 := Lib.hid hq1
      have HQ2 := Lib.hid hq2
      have HQ3 := Lib.hid hq3
      have HLEN := Lib.hid hlen
      clear hq1 hq2 hq3 hlen hac hcs
      have HQA := Lib.hid (Dk.act_queue D HS.out.mine.armed x)
      have HWAS := Lib.hid (fun h => Dk.ok_was (D := D) (a := x) h)
      have HON := Lib.hid (Dk.round_on HS.out.inv x HFX.out)
      have HDN := Lib.hid (Dk.round_down HS.out.inv x HFX.out)
      have HO23 := Lib.hid (fun h => Dk.ok_23 (D := D) (a := x) h)
      have HO4 := Lib.hid (fun h => Dk.ok_4 (D := D) (a := x) h)
      have CP := Lib.hid (fun w1 : World => pick_any x.do_ HAC.out.d0 HAC.out.d1 w1)
      have CDO := Lib.hid (fun (v : Value) (l : List AH) (w : World) (h : LP w2 w w2.heap.size w4.heap.size v D sf l wr.heap.size ⟨x, la, ln, lcap⟩) => lp_do h x la lb loff ln lcap HAC.out HQ1.out HQ2.out HQ3.out)
      obtain ⟨p, hp⟩ : ∃ p, Dk.pick x.do_ = p := ⟨_, rfl⟩
      obtain ⟨D', hD'⟩ : ∃ D', (Dk.act D x).2 = D' := ⟨_, rfl⟩
      obtain ⟨er, her⟩ : ∃ er, (Dk.act D x).1.2 = er := ⟨_, rfl⟩
      obtain ⟨rs, hrs⟩ : ∃ rs, enc (Dk.act D x).1.1 = rs := ⟨_, rfl⟩
      obtain ⟨re, hre⟩ : ∃ re, Dk.ec er = re := ⟨_, rfl⟩
      rw [hD', her] at HON HO23 HO4
      rw [her] at HWAS
      rw [hD'] at HQA HDN
      rw [hD', her, hrs, hre] at CDO
      rw [hp] at CP
      have HP := Lib.hid hp
      have HP2 := Lib.hid (hp ▸ Dk.pick_range x.do_)
      have HRE := Lib.hid (show re = 0 ↔ er = .ok by rw [← hre]; exact Dk.ec_ok)
      clear hp hD' her hrs hre hx
      have HS1 := Lib.hid (LP.made HS.out.lm ⟨x, la, ln, lcap⟩)
      dsimp only at HS1
      have HQB : RowKit.Hid (D'.queue.length ≤ Dk.atot X (k + 1)) := Lib.hid (by have := HQA.out; have := HAT.out; have := HS.out.q; omega)
      obtain ⟨dn, hdn⟩ : ∃ dn, D.down = dn := ⟨_, rfl⟩
      have HDNE := Lib.hid hdn
      clear hdn
      have HNE : RowKit.Hid ((Value.slice va vn vc).ownBlock ≠ some wr.heap.size) := Lib.hid (by
        intro e
        obtain ⟨_, ⟨h3, _⟩ | ⟨b9, cap9, cur9, h3, _, hb9, _⟩⟩ := HS.out.own
        · rw [h3] at e; cases e
        · rw [h3] at e
          injection e with e
          change b9 = _ at e
          have := (Array.getElem?_eq_some_iff.1 hb9).1
          omega)
      obtain ⟨b1, hb1⟩ : ∃ b1 : Bool, (b1 = true ↔ p ≤ 1 ∧ dn = false ∧ 0 ≤ x.n ∧ x.n < 4000) := ⟨decide (p ≤ 1 ∧ dn = false ∧ 0 ≤ x.n ∧ x.n < 4000), decide_eq_true_iff⟩
      have HB1 := Lib.hid hb1
      clear hb1
      go_upto_region 13 with (first | (go_at_call 17; with_reducible refine (lm_downb HS1.out.lm dn HDNE.out).mono ?_; rintro _ w7 ⟨rfl, rfl⟩; skip) | (go_at_call 10; with_reducible refine (CP.out _).mono ?_; rintro _ w2 ⟨rfl, rfl⟩))
      go_cut [68] (fun s wc => s = .bool b1 ∧ Hid (LP w2 wc w2.heap.size w4.heap.size (.slice va vn vc) D sf L wr.heap.size ⟨x, la, ln, lcap⟩))
      case first =>
        by_cases hA : p ≤ 1
        · have e1 : decide (p ≤ 1) = true := by simpa using hA
          cases hd : dn with
          | true =>
            obtain rfl : b1 = false := by
              cases h : b1 with
              | false => rfl
              | true => have := (HB1.out.1 h).2.1; rw [hd] at this; cases this
            subst hd
            go_wp2
            go_meet
            exact ⟨rfl, HS1.out⟩
          | false =>
            by_cases r0 : 0 ≤ x.n
            · have r2 : decide (0 ≤ x.n) = true := by simpa using r0
              by_cases r1 : x.n < 4000
              · have r3 : decide (x.n < 4000) = true := by simpa using r1
                obtain rfl : b1 = true := HB1.out.2 ⟨hA, hd, r0, r1⟩
                subst hd
                go_wp2
                go_meet
                exact ⟨rfl, HS1.out⟩
              · have r3 : decide (x.n < 4000) = false := by simpa using r1
                obtain rfl : b1 = false := by
                  cases h : b1 with
                  | false => rfl
                  | true => exact absurd (HB1.out.1 h).2.2.2 r1
                subst hd
                go_wp2
                go_meet
                exact ⟨rfl, HS1.out⟩
            · have r2 : decide (0 ≤ x.n) = false := by simpa using r0
              obtain rfl : b1 = false := by
                cases h : b1 with
                | false => rfl
                | true => exact absurd (HB1.out.1 h).2.2.1 r0
              subst hd
              go_wp2
              go_meet
              exact ⟨rfl, HS1.out⟩
        · have e1 : decide (p ≤ 1) = false := by simpa using hA
          obtain rfl : b1 = false := by
            cases h : b1 with
            | false => rfl
            | true => exact absurd (HB1.out.1 h).1 hA
          go_wp2
          go_meet
          exact ⟨rfl, HS1.out⟩
      case rest =>
        obtain ⟨rfl, hS1⟩ := hcut
        have HS1 := Lib.hid hS1.out
        clear hS1
        obtain ⟨c0, c1, c2, c3, c4, c5⟩ := HS1.out.cells
        go_upto_if 68 with fail
        go_cut [8] (fun x8 w9 => ∃ q1 q2 q3 l1, x8 = .slice q1 q2 q3 ∧ Hid (l1.length = q2) ∧ Hid (LP w2 w9 w2.heap.size w4.heap.size (.slice q1 q2 q3) D sf l1 wr.heap.size ⟨x, la, ln, lcap⟩) ∧ Hid (l1.map AH.a = Dk.sinceOf D x (L.map AH.a)) ∧ Hid (∀ z ∈ l1, 0 ≤ z.a.n ∧ z.a.n < 4000) ∧ Hid (l1.length ≤ k + 1))
        case first =>
          cases hb : b1 with
          | true =>
            obtain ⟨hA, hd, r0, r1⟩ := HB1.out.1 hb
            have HD := Lib.hid (HDNE.out.trans hd)
            have HKX : RowKit.Hid (Kept w2 [⟨x, la, ln, lcap⟩]) := Lib.hid (fun y hy => by simp at hy; subst hy; exact ⟨lb, loff, HAC.out⟩)
            have HSZ : RowKit.Hid (w2.heap.size ≤ wc.heap.size + 1) := Lib.hid (by have := HS1.out.lm.mine.below.size; omega)
            have HSI : RowKit.Hid ((L ++ [(⟨x, la, ln, lcap⟩ : AH)]).map AH.a = Dk.sinceOf D x (L.map AH.a)) := Lib.hid (by rw [Dk.since_more ⟨by have := HP.out; omega, HD.out, r0, r1⟩, List.map_append]; rfl)
            have HLOW1 : RowKit.Hid (∀ z ∈ L ++ [(⟨x, la, ln, lcap⟩ : AH)], 0 ≤ z.a.n ∧ z.a.n < 4000) := Lib.hid (fun z hz => by
              rcases List.mem_append.1 hz with hz | hz
              · exact HS.out.low z hz
              · obtain rfl : z = ⟨x, la, ln, lcap⟩ := by simpa using hz
                exact ⟨r0, r1⟩)
            have HLE1 : RowKit.Hid ((L ++ [(⟨x, la, ln, lcap⟩ : AH)]).length ≤ k + 1) := Lib.hid (by rw [List.length_append]; have := HS.out.len; exact Nat.succ_le_succ this)
            subst hb hd
            go_wp2_with (at_builtin; refine wpList_app_act rfl (.tmp 69) (.tmp 71) rfl w2.heap.size rfl (own_below HS1.out.lm.own (below_new _ _)) ⟨wc.heap.size, 0, none⟩ 1 ⟨x, la, ln, lcap⟩ rfl (new_act wc ⟨x, la, ln, lcap⟩) HLEN.out (by rw [alloc_size]; exact HSZ.out) ?_; intro v1 w7 ho1 hg1 _; have HS2 := Lib.hid (LP.laid2 HS1.out HNE.out _ hg1 ho1 HKX.out); clear ho1 hg1; obtain ⟨q1, q2, q3, rfl, hqn⟩ := HS2.out.lm.slice)
            go_meet
            exact ⟨q1, q2, q3, _, rfl, hqn, HS2.out, HSI.out, HLOW1.out, HLE1.out⟩
          | false =>
            have hno : ¬ (p ≤ 1 ∧ dn = false ∧ 0 ≤ x.n ∧ x.n < 4000) := fun h => by have := HB1.out.2 h; rw [hb] at this; cases this
            have HSI : RowKit.Hid (L.map AH.a = Dk.sinceOf D x (L.map AH.a)) := Lib.hid (Dk.since_same (fun h => hno ⟨by have := HP.out; omega, HDNE.out.symm.trans h.2.1, h.2.2.1, h.2.2.2⟩)).symm
            subst hb
            clear hno
            go_wp2
            go_meet
            exact ⟨va, vn, vc, L, rfl, HVN.out, HS1.out, HSI.out, HS.out.low, Nat.le_succ_of_le HS.out.len⟩
        case rest =>
          obtain ⟨ua, un, uc, l1, rfl, HUN, HSU, HSI, HLOW1, HLE1⟩ := hcut
          have HS1 := Lib.hid HSU.out
          clear HSU
          obtain ⟨c0, c1, c2, c3, c4, c5⟩ := HS1.out.cells
          obtain ⟨b2, hb2⟩ : ∃ b2 : Bool, (b2 = true ↔ (p = 2 ∨ p = 3) ∧ er = .ok) := ⟨decide ((p = 2 ∨ p = 3) ∧ er = .ok), decide_eq_true_iff⟩
          have HB2 := Lib.hid hb2
          obtain ⟨b3, hb3⟩ : ∃ b3 : Bool, (b3 = true ↔ p = 4 ∧ er = .ok) := ⟨decide (p = 4 ∧ er = .ok), decide_eq_true_iff⟩
          have HB3 := Lib.hid hb3
          have HUB : RowKit.Hid (un ≤ 1000000) := Lib.hid (by have := HUN.out; have := HLE1.out; have := HX.out.1; have := HN.out; have := hlt; omega)
          clear hb2 hb3
          go_upto_region 16 with (go_at_call 15; with_reducible refine (CDO.out _ _ _ HS1.out).mono ?_; rintro _ w7 ⟨rfl, hm⟩; have HS3 := Lib.hid hm; clear hm; obtain ⟨c0, c1, c2, c3, c4, c5⟩ := HS3.out.cells)
          go_cut [88] (fun s wc => s = .bool b2 ∧ Hid (LP w2 wc w2.heap.size w4.heap.size (.slice ua un uc) D' sf l1 wr.heap.size ⟨x, la, ln, lcap⟩))
          case first =>
            by_cases h2 : p = 2
            · subst h2
              by_cases he : re = 0
              · subst he
                obtain rfl : b2 = true := HB2.out.2 ⟨.inl rfl, HRE.out.1 rfl⟩
                go_wp2
                go_meet
                exact ⟨rfl, HS3.out⟩
              · have he2 : (re == 0) = false := by simpa using he
                obtain rfl : b2 = false := by
                  cases h : b2 with
                  | false => rfl
                  | true => exact absurd (HRE.out.2 (HB2.out.1 h).2) he
                go_wp2
                go_meet
                exact ⟨rfl, HS3.out⟩
            · have m2 : (p == 2) = false := by simpa using h2
              by_cases h3 : p = 3
              · subst h3
                by_cases he : re = 0
                · subst he
                  obtain rfl : b2 = true := HB2.out.2 ⟨.inr rfl, HRE.out.1 rfl⟩
                  go_wp2
                  go_meet
                  exact ⟨rfl, HS3.out⟩
                · have he2 : (re == 0) = false := by simpa using he
                  obtain rfl : b2 = false := by
                    cases h : b2 with
                    | false => rfl
                    | true => exact absurd (HRE.out.2 (HB2.out.1 h).2) he
                  go_wp2
                  go_meet
                  exact ⟨rfl, HS3.out⟩
              · have m3 : (p == 3) = false := by simpa using h3
                obtain rfl : b2 = false := by
                  cases h : b2 with
                  | false => rfl
                  | true => rcases (HB2.out.1 h).1 with h9 | h9
                            · exact absurd h9 h2
                            · exact absurd h9 h3
                go_wp2
                go_meet
                exact ⟨rfl, HS3.out⟩
          case rest =>
            obtain ⟨rfl, hS3⟩ := hcut
            have HS3 := Lib.hid hS3.out
            clear hS3
            obtain ⟨c0, c1, c2, c3, c4, c5⟩ := HS3.out.cells
            cases hb : b2 with
            | true =>
              obtain ⟨hk23, he⟩ := HB2.out.1 hb
              subst he hb
              obtain rfl : re = 0 := HRE.out.2 rfl
              obtain ⟨hd2, hf0, hf1⟩ := HO23.out (by rw [HP.out]; exact hk23) rfl
              have hd1 := HWAS.out (by rw [HP.out]; omega) rfl
              have HK23 : RowKit.Hid (Dk.pick x.do_ = 2 ∨ Dk.pick x.do_ = 3) := Lib.hid (by rw [HP.out]; exact hk23)
              have m4 : (p == 4) = false := by simp; omega
              obtain ⟨fN, hfN⟩ : ∃ m : Nat, x.f = (m : Int) := ⟨x.f.toNat, by omega⟩
              have hfl : fN < 12 := by omega
              have HON := Lib.hid (HON.out (fun h => by rw [hd2] at h; cases h.2))
              obtain rfl : dn = false := HDNE.out.symm.trans hd1
              have HFN := Lib.hid hfl
              have HFE := Lib.hid hfN
              have HD2 := Lib.hid hd2
              have CRD := Lib.hid (fun (w1 : World) (h : LP w2 w1 w2.heap.size w4.heap.size (.slice ua un uc) D' sf l1 wr.heap.size ⟨x, la, ln, lcap⟩) => lp_read h (fN : Int))
              rw [Dk.read_up hd2 fN hfl] at CRD
              simp only [hfN] at c1
              have HS3D := Lib.hid (HS3.out.quiet (below_drew (Below.refl _ _)))
              clear hf0 hf1 hd1 hd2 hk23
              go_upto_region 17 with fail
              go_region_with (go_at_call 23; with_reducible refine (CRD.out _ HS3D.out).mono ?_; rintro _ w7 ⟨rfl, hm⟩; have HS4 := Lib.hid hm; clear hm; have HST := Lib.hid (HS4.out.store fN (Dk.read D' fN)); obtain ⟨c0, c1, c2, c3, c4, c5⟩ := HS4.out.cells; obtain ⟨g0, g1, g2, g3, g4, g5⟩ := HST.out.cells; have s0 := HS4.out.lm.safe_at fN HFN.out; have s3 := HS4.out.lm.safe_.free fN)
              all_goals (
                go_wp2_with (first | (go_at_call 25; with_reducible refine (lp_without ua un uc HST.out HUN.out HUB.out (fN : Int)).mono ?_; rintro _ w7 ⟨q1, q2, q3, rfl, hqn, hm⟩; have HS5 := Lib.hid hm; clear hm; have HQN := Lib.hid hqn; clear hqn) | (go_at_call 17; with_reducible refine (lm_downb HS5.out.lm false HD2.out).mono ?_; rintro _ w7 ⟨rfl, rfl⟩; skip))
                go_roundw
                case rel => exact ⟨k + 1, by go_num, by omega, _, _, _, fin_23b HON.out HK23.out HFE.out HSI.out HUN.out HS5.out.lm HLOW1.out HLE1.out HQB.out⟩
                case measure => simp [intOf]; omega)
            | false =>
              subst hb
              go_upto_region 19 with fail
              go_cut [109] (fun s wc => s = .bool b3 ∧ Hid (LP w2 wc w2.heap.size w4.heap.size (.slice ua un uc) D' sf l1 wr.heap.size ⟨x, la, ln, lcap⟩))
              case first =>
                by_cases h4 : p = 4
                · subst h4
                  by_cases he : re = 0
                  · subst he
                    obtain rfl : b3 = true := HB3.out.2 ⟨rfl, HRE.out.1 rfl⟩
                    go_wp2
                    go_meet
                    exact ⟨rfl, HS3.out⟩
                  · have he2 : (re == 0) = false := by simpa using he
                    obtain rfl : b3 = false := by
                      cases h : b3 with
                      | false => rfl
                      | true => exact absurd (HRE.out.2 (HB3.out.1 h).2) he
                    go_wp2
                    go_meet
                    exact ⟨rfl, HS3.out⟩
                · have m4 : (p == 4) = false := by simpa using h4
                  obtain rfl : b3 = false := by
                    cases h : b3 with
                    | false => rfl
                    | true => exact absurd (HB3.out.1 h).1 h4
                  go_wp2
                  go_meet
                  exact ⟨rfl, HS3.out⟩
              case rest =>
                obtain ⟨rfl, hS3⟩ := hcut
                have HS3 := Lib.hid hS3.out
                clear hS3
                obtain ⟨c0, c1, c2, c3, c4, c5⟩ := HS3.out.cells
                cases hb : b3 with
                | true =>
                  obtain ⟨hk4, he⟩ := HB3.out.1 hb
                  subst he hb hk4
                  obtain rfl : re = 0 := HRE.out.2 rfl
                  obtain ⟨hd2, ⟨hf0, hf1⟩, hg0, hg1⟩ := HO4.out HP.out rfl
                  have hd1 := HWAS.out (by rw [HP.out]; omega) rfl
                  obtain ⟨fN, hfN⟩ : ∃ m : Nat, x.f = (m : Int) := ⟨x.f.toNat, by omega⟩
                  obtain ⟨gN, hgN⟩ : ∃ m : Nat, x.g = (m : Int) := ⟨x.g.toNat, by omega⟩
                  have hfl : fN < 12 := by omega
                  have hgl : gN < 12 := by omega
                  have HON := Lib.hid (HON.out (fun h => by rw [hd2] at h; cases h.2))
                  obtain rfl : dn = false := HDNE.out.symm.trans hd1
                  have HFN := Lib.hid hfl
                  have HGN := Lib.hid hgl
                  have HFE := Lib.hid hfN
                  have HGE := Lib.hid hgN
                  have HD2 := Lib.hid hd2
                  have HST := Lib.hid (HS3.out.store fN (sf gN))
                  have HST2 := Lib.hid (HST.out.empty gN)
                  have HST2D := Lib.hid (HST2.out.quiet (below_drew (below_drew (Below.refl _ _))))
                  have HST2E := Lib.hid (HST2.out.quiet (below_drewN (Below.refl _ _) 2))
                  obtain ⟨g0, g1, g2, g3, g4, g5⟩ := HST.out.cells
                  obtain ⟨j0, j1, j2, j3, j4, j5⟩ := HST2.out.cells
                  simp only [hfN, hgN] at c1 c2 g1 g2 j1 j2
                  have s0 := HS3.out.lm.safe_at fN HFN.out
                  have s1 := HS3.out.lm.safe_at gN HGN.out
                  have s2 := HST.out.lm.safe_at gN HGN.out
                  have s3 := HS3.out.lm.safe_.free fN
                  have s4 := HST.out.lm.safe_.free gN
                  clear hf0 hf1 hg0 hg1 hd1 hd2
                  go_upto_region 20 with fail
                  go_region
                  all_goals go_wp2
                  all_goals (
                    go_region_with (go_at_call 25; first | (with_reducible refine (lp_without q1 q2 q3 HS5.out HQN.out (by have := HQN.out; have := keep_short l1 fN un; have := HUN.out; have := HUB.out; omega) (gN : Int)).mono ?_; rintro _ w7 ⟨t1, t2, t3, rfl, htn, hm⟩; have HS6 := Lib.hid hm; clear hm) | ((first | with_reducible refine (lp_without ua un uc HST2D.out HUN.out HUB.out (fN : Int)).mono ?_ | with_reducible refine (lp_without ua un uc HST2E.out HUN.out HUB.out (fN : Int)).mono ?_); rintro _ w7 ⟨q1, q2, q3, rfl, hqn, hm⟩; have HS5 := Lib.hid hm; clear hm; have HQN := Lib.hid hqn; clear hqn; obtain ⟨c0, c1, c2, c3, c4, c5⟩ := HS5.out.cells; simp only [hfN, hgN] at c1 c2))
                    all_goals (
                      go_wp2_with (go_at_call 17; with_reducible refine (lm_downb HS6.out.lm false HD2.out).mono ?_; rintro _ w7 ⟨rfl, rfl⟩; skip)
                      go_roundw
                      case rel => exact ⟨k + 1, by go_num, by omega, _, _, _, fin_4b HON.out HP.out HFE.out HGE.out HSI.out HUN.out HQN.out HS6.out.lm HLOW1.out HLE1.out HQB.out⟩
                      case measure => simp [intOf]; omega))
                | false =>
                  have HKI : RowKit.Hid ((Dk.pick x.do_ ≠ 2 ∧ Dk.pick x.do_ ≠ 3 ∧ Dk.pick x.do_ ≠ 4) ∨ er ≠ .ok) := Lib.hid (by
                    by_cases he : er = .ok
                    · refine .inl ?_
                      rw [HP.out]
                      refine ⟨fun h => ?_, fun h => ?_, fun h => ?_⟩
                      · have := HB2.out.2 ⟨.inl h, he⟩; cases this
                      · have := HB2.out.2 ⟨.inr h, he⟩; cases this
                      · have := HB3.out.2 ⟨h, he⟩; rw [hb] at this; cases this
                    · exact .inr he)
                  subst hb
                  cases hd : dn with
                  | true =>
                    have HON := Lib.hid (HON.out (fun h => by have := HDNE.out; rw [h.1, hd] at this; cases this))
                    subst hd
                    go_wp2
                    go_roundw
                    case rel => exact ⟨k + 1, by go_num, by omega, _, _, _, fin_plain HON.out HKI.out HS3.out.lm HSI.out HLOW1.out HLE1.out HQB.out⟩
                    case measure => simp [intOf]; omega
                  | false =>
                    have HD := Lib.hid (HDNE.out.trans hd)
                    subst hd
                    by_cases hc : D'.down = true
                    · have HD2 := Lib.hid hc
                      clear hc
                      have HCR := Lib.hid (HDN.out HD.out HD2.out)
                      have HQE := Lib.hid HCR.out.2
                      go_wp2_with (first | (go_at_call 17; with_reducible refine (lm_downb HS3.out.lm true HD2.out).mono ?_; rintro _ w7 ⟨rfl, rfl⟩; skip) | (go_at_call 21; with_reducible refine (lm_start HS3.out.lm).mono ?_; rintro _ w7 ⟨⟨v9, rfl⟩, hm⟩; have HT := Lib.hid hm; clear hm))
                      go_loopw [15, 16, 17] (fun x15 x16 x17 wi => ∃ j : Nat, x15 = .int .i64 j ∧ j ≤ 12 ∧ Hid (LM w2 wi w2.heap.size w4.heap.size (.slice ua un uc) (Dk.start D') (Dk.taken D' sf j) l1)) (fun x15 _ _ _ => 12 - (intOf x15).toNat)
                      case atStart => exact ⟨0, rfl, Nat.zero_le _, by rw [Dk.taken_zero]; exact HT.out⟩
                      case round =>
                        obtain ⟨j, rfl, hj, hU⟩ := hrel
                        by_cases hjl : j < 12
                        · have R1 := Lib.hid (lm_read hU.out (j : Int))
                          rw [Dk.read_started HQE.out j hjl] at R1
                          have HH : RowKit.Hid (Dk.Here (D'.last j) (Dk.taken D' sf j j) ((l1).map AH.a) j) := Lib.hid (by rw [Dk.taken_at, HSI.out]; exact HCR.out.1 j hjl)
                          have HSZ9 : RowKit.Hid ((enc (D'.last j)).size ≤ 100000000) := Lib.hid (by rw [Lib.size_eq]; exact Nat.le_trans (HS3.out.lm.mine.at_.last_le j hjl) (by decide))
                          have R2 := Lib.hid (fun (w1 : World) (h : LM w2 w1 w2.heap.size w4.heap.size (.slice ua un uc) (Dk.start D') (Dk.taken D' sf j) l1) => lm_here ua un uc h HUN.out HUB.out HLOW1.out j (enc (D'.last j)) (enc (Dk.taken D' sf j j)) HSZ9.out HH.out)
                          have HTS := Lib.hid (Dk.taken_succ D' sf j)
                          obtain ⟨Z, hZ⟩ : ∃ Z, Dk.taken D' sf j j = Z := ⟨_, rfl⟩
                          have HAT9 := Lib.hid (fun (w1 : World) (h : LM w2 w1 w2.heap.size w4.heap.size (.slice ua un uc) (Dk.start D') (Dk.taken D' sf j) l1) => h.safe_at j hjl)
                          rw [hZ] at R2 HAT9
                          clear hZ
                          go_wp2_with (first | (go_at_call 26; with_reducible refine (R2.out _ HV.out).mono ?_; rintro _ w7 ⟨rfl, _, hm⟩; have HW := Lib.hid hm; clear hm; have s1 := HAT9.out _ HW.out; have s2 := HW.out.safe_.free j) | (go_at_call 23; with_reducible refine (R1.out).mono ?_; rintro _ w7 ⟨rfl, _, hm⟩; have HV := Lib.hid hm; clear hm; have s0 := HAT9.out _ HV.out))
                          go_roundw
                          case rel => exact ⟨j + 1, by go_num, by omega, by rw [← HTS.out]; exact HW.out.store j (D'.last j)⟩
                          case measure => simp [intOf]; omega
                        · obtain rfl : j = 12 := by omega
                          go_wp2_with (first | (go_at_call 13; with_reducible refine (lm_crash_nil hU.out.emptied).mono ?_; rintro _ w7 ⟨⟨v9, rfl⟩, hm⟩; have HC := Lib.hid hm; clear hm))
                          go_roundw
                          case rel => exact ⟨k + 1, by go_num, by omega, _, _, _, fin_crash HC.out HQE.out⟩
                          case measure => simp [intOf]; omega
                    · have hc : D'.down = false := by simpa using hc
                      have HON := Lib.hid (HON.out (fun h => by rw [hc] at h; cases h.2))
                      have HD2 := Lib.hid hc
                      clear hc
                      go_wp2_with (first | (go_at_call 17; with_reducible refine (lm_downb HS3.out.lm false HD2.out).mono ?_; rintro _ w7 ⟨rfl, rfl⟩; skip))
                      go_roundw
                      case rel => exact ⟨k + 1, by go_num, by omega, _, _, _, fin_plain HON.out HKI.out HS3.out.lm HSI.out HLOW1.out HLE1.out HQB.out⟩
                      case measure => simp [intOf]; omega
    · obtain rfl : k = n := by omega
      have HK2 := Lib.hid (HK.out.below HB0.out)
      have HT0 := Lib.hid hkn
      obtain ⟨i0, hi, hz0, hz1, hz2⟩ := info_parts infoI
      have HFH := Lib.hid (fun f hf => Dk.final_here HS.out.inv ks f hf)
      have CA := Lib.hid (lm_arm_nil HS.out.lm)
      go_wp2_with (first | (go_at_call 21; with_reducible refine (lm_start HA.out).mono ?_; rintro _ wa ⟨⟨v9, rfl⟩, hm⟩; have HR := Lib.hid hm; clear hm) | (go_at_call 27; with_reducible refine (CA.out).mono ?_; rintro _ w7 ⟨⟨v9, rfl⟩, hm⟩; have HA := Lib.hid hm; clear hm))
      obtain ⟨R, hR⟩ : ∃ R, Dk.start (Dk.arm D 0 []) = R := ⟨_, rfl⟩
      rw [hR] at HR HFH
      clear hR
      go_loopw [18, 19] (fun x18 x19 wi => ∃ j : Nat, x19 = .int .i64 j ∧ j ≤ 12 ∧ Hid (Below wa.heap.size wa wi) ∧ Hid (wi.ownsRow wa.heap.size 3 1 x18 (Dk.sizes R j).length (iv (Dk.sizes R j)))) (fun _ x19 _ => 12 - (intOf x19).toNat)
      case atStart => exact ⟨0, rfl, Nat.zero_le _, Below.refl _ _, ⟨rfl, .inl ⟨rfl, rfl⟩⟩⟩
      case round =>
        obtain ⟨j, rfl, hj, hB, hO⟩ := hrel
        obtain ⟨pa, pn, pc, rfl⟩ := own_slice hO.out
        by_cases hjl : j < 12
        · have R1 := Lib.hid (lm_size (HR.out.quiet hB.out) (j : Int))
          rw [Dk.size_file_is R j hjl] at R1
          obtain ⟨z, hz⟩ : ∃ z : Int, ((Dk.read R j).length : Int) = z := ⟨_, rfl⟩
          rw [hz] at R1
          have HZ := Lib.hid hz.symm
          clear hz
          go_wp2_with (first | (go_at_call 19; with_reducible refine (R1.out).mono ?_; rintro _ w8 ⟨rfl, hb8, _⟩; have HO8 := Lib.hid (own_below hO.out hb8); have HB8 := Lib.hid (below_to hB.out (Nat.le_refl _) hb8); clear hb8) | (at_builtin; refine wpList_app_was rfl (.tmp 170) (.tmp 174) rfl z HZ.out hjl HO8.out HB8.out rfl rfl ?_; intro ta tn tc w9 HO9 HB9))
          go_roundw
          case rel => exact ⟨j + 1, by go_num, by omega, HB9, HO9⟩
          case measure => simp [intOf]; omega
        · obtain rfl : j = 12 := by omega
          have HLW : RowKit.Hid (LW w2 wr w2.heap.size w4.heap.size (.slice va vn vc) R sf L wa.heap.size (.slice pa pn pc) (Dk.sizes R 12)) := Lib.hid ⟨HR.out.quiet hB.out, hO.out⟩
          obtain ⟨r, cap2, hu⟩ : ∃ r cap2, (Value.slice pa pn pc) = .slice (some ⟨r, 0, none⟩) 12 cap2 := by
            obtain ⟨r, c2, h1, _⟩ := HLW.out.at_ 0 _ (Dk.sizes_at R 12 0 (by decide))
            rw [Dk.sizes_length] at h1
            exact ⟨r, c2, h1⟩
          injection hu with h1 h2 h3
          subst h1 h2 h3
          have CC := Lib.hid (lw_crash HLW.out ka kb koff kn kcap ks HK2.out HT0.out)
          obtain ⟨E2, hE2⟩ : ∃ E2, Dk.crash R ks = E2 := ⟨_, rfl⟩
          rw [hE2] at CC HFH
          clear hE2
          go_wp2_with (first | (go_at_call 21; with_reducible refine (lw_start HC.out).mono ?_; rintro _ w7 ⟨⟨v9, rfl⟩, hm⟩; have HU := Lib.hid hm; clear hm) | (go_at_call 13; with_reducible refine (CC.out).mono ?_; rintro _ w7 ⟨⟨v9, rfl⟩, hm⟩; have HC := Lib.hid hm; clear hm))
          go_loopw [20, 21, 22] (fun x20 x21 x22 wi => ∃ j : Nat, x20 = .int .i64 j ∧ j ≤ 12 ∧ Hid (LW w2 wi w2.heap.size w4.heap.size (.slice va vn vc) (Dk.start E2) sf L wa.heap.size (.slice (some ⟨r, 0, none⟩) 12 pc) (Dk.sizes R 12))) (fun x20 _ _ _ => 12 - (intOf x20).toNat)
          case atStart => exact ⟨0, rfl, Nat.zero_le _, HU.out⟩
          case round =>
            obtain ⟨j, rfl, hj, hU⟩ := hrel
            by_cases hjl : j < 12
            · obtain ⟨hh, hlen, hqe⟩ := HFH.out j hjl
              have R1 := Lib.hid (lw_read hU.out (j : Int))
              rw [Dk.read_started hqe j hjl] at R1
              have hz2 := Lib.size_eq (enc (E2.last j))
              have HH : RowKit.Hid (Dk.Here (enc (E2.last j)).data.toList (enc (sf j)).data.toList (L.map AH.a) j) := Lib.hid hh
              have HSZ9 : RowKit.Hid ((enc (E2.last j)).size ≤ 100000000) := Lib.hid (by rw [hz2]; exact Nat.le_trans (HC.out.lm.mine.at_.last_le j hjl) (by decide))
              have hle : (enc (E2.last j)).size ≤ (Dk.read R j).length := by rw [hz2]; exact hlen
              obtain ⟨Z, hZ⟩ : ∃ Z, enc (E2.last j) = Z := ⟨_, rfl⟩
              obtain ⟨Y, hY⟩ : ∃ Y, enc (sf j) = Y := ⟨_, rfl⟩
              have HAT9 := Lib.hid (fun (w1 : World) (h : LW w2 w1 w2.heap.size w4.heap.size (.slice va vn vc) (Dk.start E2) sf L wa.heap.size (.slice (some ⟨r, 0, none⟩) 12 pc) (Dk.sizes R 12)) => h.lm.safe_at j hjl)
              have HAT8 := Lib.hid (fun (w1 : World) (h : LW w2 w1 w2.heap.size w4.heap.size (.slice va vn vc) (Dk.start E2) sf L wa.heap.size (.slice (some ⟨r, 0, none⟩) 12 pc) (Dk.sizes R 12)) => h.cell j _ (Dk.sizes_at R 12 j hjl))
              obtain ⟨z, hz⟩ : ∃ z : Int, ((Dk.read R j).length : Int) = z := ⟨_, rfl⟩
              rw [hZ] at R1 HH HSZ9 hle
              rw [hY] at HH HAT9
              rw [hz] at HAT8
              have e1 : ¬ z < (Z.size : Int) := by omega
              have e2 : decide (z < (Z.size : Int)) = false := by simpa using e1
              have R2 := Lib.hid (fun (w1 : World) (h : LW w2 w1 w2.heap.size w4.heap.size (.slice va vn vc) (Dk.start E2) sf L wa.heap.size (.slice (some ⟨r, 0, none⟩) 12 pc) (Dk.sizes R 12)) => lw_here va vn vc h HVN.out (by have := HVN.out; have := HS.out.len; have := HX.out; have := HN.out; omega) HS.out.low j Z Y HSZ9.out HH.out)
              clear hZ hY hz hle hz2 hh hlen hqe
              go_wp2_with (first | (go_at_call 26; with_reducible refine (R2.out _ HV.out).mono ?_; rintro _ w7 ⟨rfl, hm⟩; have HW := Lib.hid hm; clear hm; have s1 := HAT8.out _ HW.out) | (go_at_call 23; with_reducible refine (R1.out).mono ?_; rintro _ w7 ⟨rfl, hm⟩; have HV := Lib.hid hm; clear hm; have s0 := HAT9.out _ HV.out))
              go_roundw
              case rel => exact ⟨j + 1, by go_num, by omega, HW.out⟩
              case measure => simp [intOf]; omega
            · obtain rfl : j = 12 := by omega
              go_wp2
              go_ret
              exact ⟨rfl, below_to HB0.out (Nat.le_refl _) hU.out.lm.mine.below⟩
/-- The law. -/
theorem lasts_law (X : List Dk.Act) (n : Nat) (hn : X.length = n) (hN : n ≤ 9223372036854775807) (xa : Option Addr) (b off cap : Nat) (ks : List Int) (ka : Option Addr) (kb koff kn kcap : Nat) (w : World) (hl : LA w xa b off X) (hk : IR w ka kb koff ks) (hkn : ks.length = kn) :
    Calls Try.prog 4 #[.slice xa n cap, .slice ka kn kcap] w fun e w' => e = .returned (.bool true) ∧ Below w.heap.size w w' := by
  cases hF : Dk.few X with
  | false => exact lasts_a X n hn hN xa b off cap ka kn kcap w hl hF
  | true => exact lasts_b X n hn hN xa b off cap ks ka kb koff kn kcap w hl hk hkn hF
end Go.Proofs.Ytbpodclodflgfaa
