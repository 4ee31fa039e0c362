/-
  The reference's Rows.
-/
import Derived.Test.YtbpodclodflgfaaDoorJRx
namespace Go.Proofs.YtbpodclodflgfaaDoor
open Go Go.RowKit
/-- What the reference's Rows gives. -/
def RowsP (l : List UInt8) (w w' : World) (e : Ending) : Prop := Below w.heap.size w w' ∧
  ((Jn.parse l = none ∧ ∃ v, e = .returned (.tuple #[v, .bool false])) ∨
    ∃ L k pa pc, Jn.parse l = some (L, k) ∧ e = .returned (.tuple #[.slice pa L.length pc, .bool true]) ∧ SOwn w' w.heap.size (.slice pa L.length pc) L)
theorem get_0 (s : ByteArray) (hs : s.size ≤ 100000000) (h : 8 ≤ s.size) (w : World) : Calls Tryd.prog 73 #[.string s, .int .i64 0] w fun e w' => e = .returned (.tuple #[.int .i64 (Jn.val s.data.toList), .bool true]) ∧ w = w' := rget_yes s 0 hs (by omega) w
theorem get_8 (s : ByteArray) (hs : s.size ≤ 100000000) (h : 16 ≤ s.size) (w : World) : Calls Tryd.prog 73 #[.string s, .int .i64 8] w fun e w' => e = .returned (.tuple #[.int .i64 (Jn.val (s.data.toList.drop 8)), .bool true]) ∧ w = w' := rget_yes s 8 hs (by omega) w
theorem get_0n (s : ByteArray) (hs : s.size ≤ 100000000) (h : s.size < 8) (w : World) : Calls Tryd.prog 73 #[.string s, .int .i64 0] w fun e w' => e = .returned (.tuple #[.int .i64 0, .bool false]) ∧ w = w' := rget_no s 0 hs (by omega) (by omega) w
theorem get_8n (s : ByteArray) (hs : s.size ≤ 100000000) (h : s.size < 16) (w : World) : Calls Tryd.prog 73 #[.string s, .int .i64 8] w fun e w' => e = .returned (.tuple #[.int .i64 0, .bool false]) ∧ w = w' := rget_no s 8 hs (by omega) (by omega) w
theorem ext_take0 (s : ByteArray) (b : Nat) : (s.extract 0 b).data.toList = s.data.toList.take b := by rw [ext_mid, List.drop_zero]
theorem row_mid {l : List UInt8} {en a m : Nat} (h : a + 16 + m ≤ en) : (((l.take en).drop a).drop 16).take m = (l.take (a + 16 + m)).drop (a + 16) := by
  rw [List.drop_drop, List.take_drop, List.take_take, show min (a + 16 + m) en = a + 16 + m by omega]
/-- firstRow, by the numbers in front. -/
theorem first_is {l : List UInt8} {en a : Nat} (hl : en ≤ l.length) (h : a + 16 ≤ en) : Jn.firstRow ((l.take en).drop a) = if Jn.val ((l.take en).drop a) < 0 ∨ ((en : Int) - a - 16) < Jn.val ((l.take en).drop a) then none else if Jn.val ((l.take en).drop (a + 8)) = Jn.crc ((l.take (a + 16 + (Jn.val ((l.take en).drop a)).toNat)).drop (a + 16)) then some ((l.take (a + 16 + (Jn.val ((l.take en).drop a)).toNat)).drop (a + 16)) else none := by
  have e1 : ((l.take en).drop a).length = en - a := by rw [List.length_drop, List.length_take]; omega
  have e2 : (((l.take en).drop a).drop 16).length = en - a - 16 := by rw [List.length_drop, e1]
  unfold Jn.firstRow
  rw [if_neg (by omega), e2, show (((en - a - 16 : Nat) : Int)) = (en : Int) - a - 16 by omega, List.drop_drop]
  split
  · rfl
  · next hc =>
    rw [← row_mid (l := l) (en := en) (a := a) (m := (Jn.val ((l.take en).drop a)).toNat) (by omega)]
set_option maxHeartbeats 4000000 in
set_option maxRecDepth 100000 in
theorem rrows_any (s : ByteArray) (hs : s.size ≤ 100000000) (w : World) :
    Calls Tryd.prog 38 #[.string s] w fun e w' => RowsP s.data.toList w w' e := by
  have hz := Lib.size_eq s
  by_cases h16 : s.size < 16
  · have hP : RowKit.Hid (Jn.parse s.data.toList = some ([], 16)) := Lib.hid (by unfold Jn.parse; rw [if_pos (.inl (by omega))])
    have C2 := Lib.hid (fun w1 : World => get_8n s hs h16 w1)
    by_cases h8 : s.size < 8
    · have C1 := Lib.hid (fun w1 : World => get_0n s hs h8 w1)
      clear hz
      go_enter Tryd.func38, Tryd.ntmps38
      go_wp2_with (go_at_call 73; first | (with_reducible refine (C1.out _).mono ?_; rintro _ w2 ⟨rfl, rfl⟩) | (with_reducible refine (C2.out _).mono ?_; rintro _ w2 ⟨rfl, rfl⟩))
      go_ret2
      exact ⟨Below.refl _ _, .inr ⟨[], 16, none, 0, hP.out, rfl, SOwn.nil _ _⟩⟩
    · have C1 := Lib.hid (fun w1 : World => get_0 s hs (by omega) w1)
      obtain ⟨ev, hev⟩ : ∃ ev, Jn.val s.data.toList = ev := ⟨_, rfl⟩
      rw [hev] at C1
      clear hz hev
      go_enter Tryd.func38, Tryd.ntmps38
      go_wp2_with (go_at_call 73; first | (with_reducible refine (C1.out _).mono ?_; rintro _ w2 ⟨rfl, rfl⟩) | (with_reducible refine (C2.out _).mono ?_; rintro _ w2 ⟨rfl, rfl⟩))
      go_ret2
      exact ⟨Below.refl _ _, .inr ⟨[], 16, none, 0, hP.out, rfl, SOwn.nil _ _⟩⟩
  · have C1 := Lib.hid (fun w1 : World => get_0 s hs (by omega) w1)
    have C2 := Lib.hid (fun w1 : World => get_8 s hs (by omega) w1)
    obtain ⟨ev, hev⟩ : ∃ ev, Jn.val s.data.toList = ev := ⟨_, rfl⟩
    obtain ⟨cv, hcv⟩ : ∃ cv, Jn.val (s.data.toList.drop 8) = cv := ⟨_, rfl⟩
    rw [hev] at C1
    rw [hcv] at C2
    by_cases h0 : ev = 0
    · have hP : RowKit.Hid (Jn.parse s.data.toList = some ([], 16)) := Lib.hid (by unfold Jn.parse; rw [if_pos (.inr (by rw [hev, h0]))])
      subst h0
      clear hz hev hcv
      go_enter Tryd.func38, Tryd.ntmps38
      go_wp2_with (go_at_call 73; first | (with_reducible refine (C1.out _).mono ?_; rintro _ w2 ⟨rfl, rfl⟩) | (with_reducible refine (C2.out _).mono ?_; rintro _ w2 ⟨rfl, rfl⟩))
      go_ret2
      exact ⟨Below.refl _ _, .inr ⟨[], 16, none, 0, hP.out, rfl, SOwn.nil _ _⟩⟩
    · have e0 : (ev == 0) = false := by simpa using h0
      by_cases h1 : ev < 16
      · have hP : RowKit.Hid (Jn.parse s.data.toList = none) := Lib.hid (by unfold Jn.parse; rw [hev, if_neg (by omega), if_pos (.inl h1)])
        have e1 : decide (ev < 16) = true := by simpa using h1
        clear hz hev hcv
        go_enter Tryd.func38, Tryd.ntmps38
        go_wp2_with (go_at_call 73; first | (with_reducible refine (C1.out _).mono ?_; rintro _ w2 ⟨rfl, rfl⟩) | (with_reducible refine (C2.out _).mono ?_; rintro _ w2 ⟨rfl, rfl⟩))
        go_ret2
        exact ⟨Below.refl _ _, .inl ⟨hP.out, _, rfl⟩⟩
      · have e1 : decide (ev < 16) = false := by simpa using h1
        by_cases h2 : (s.size : Int) < ev
        · have hP : RowKit.Hid (Jn.parse s.data.toList = none) := Lib.hid (by unfold Jn.parse; rw [hev, if_neg (by omega), if_pos (.inr (by omega))])
          have e2 : decide ((s.size : Int) < ev) = true := by simpa using h2
          clear hz hev hcv
          go_enter Tryd.func38, Tryd.ntmps38
          go_wp2_with (go_at_call 73; first | (with_reducible refine (C1.out _).mono ?_; rintro _ w2 ⟨rfl, rfl⟩) | (with_reducible refine (C2.out _).mono ?_; rintro _ w2 ⟨rfl, rfl⟩))
          go_ret2
          exact ⟨Below.refl _ _, .inl ⟨hP.out, _, rfl⟩⟩
        · have e2 : decide ((s.size : Int) < ev) = false := by simpa using h2
          obtain ⟨en, rfl⟩ : ∃ m : Nat, ev = (m : Int) := ⟨ev.toNat, by omega⟩
          have hes : en ≤ s.size := by omega
          have h16e : 16 ≤ en := by omega
          have e2n : decide (s.size < en) = false := by simp; omega
          obtain ⟨RA, hRA⟩ : ∃ RA, Jn.rowsAll ((s.data.toList.take en).drop 16) = RA := ⟨_, rfl⟩
          have HP : RowKit.Hid (Jn.parse s.data.toList = Jn.fin cv en RA) := Lib.hid (by
            unfold Jn.parse
            rw [hev, if_neg (by omega), if_neg (by omega), show ((en : Nat) : Int).toNat = en by omega, hRA, hcv])
          have HRA : RowKit.Hid ((Jn.rowsAll ((s.data.toList.take en).drop 16)).map ([] ++ ·) = RA) := Lib.hid (by rw [hRA]; simp)
          have HLS := Lib.hid hz
          have HTS := Lib.hid (show (s.extract 0 en).size = en from by rw [Lib.size_eq, ext_take0, List.length_take]; omega)
          clear hcv hRA hev hz
          go_enter Tryd.func38, Tryd.ntmps38
          go_wp2_with (go_at_call 73; first | (with_reducible refine (C1.out _).mono ?_; rintro _ w2 ⟨rfl, rfl⟩) | (with_reducible refine (C2.out _).mono ?_; rintro _ w2 ⟨rfl, rfl⟩))
          go_loopw [8, 9, 10, 11, 12, 13, 14] (fun x8 x9 x10 x11 x12 x13 x14 wr => ∃ (at_ : Nat) (L : List (List UInt8)) (pa : Option Addr) (pc : Nat), x9 = .int .i64 at_ ∧ at_ ≤ en ∧ 16 ≤ at_ ∧ x8 = .slice pa L.length pc ∧ L.length ≤ at_ ∧ Hid ((Jn.rowsAll ((s.data.toList.take en).drop at_)).map (L ++ ·) = RA) ∧ Hid (SOwn wr w.heap.size (.slice pa L.length pc) L) ∧ Hid (Below w.heap.size w wr)) (fun _ x9 _ _ _ _ _ _ => en - (intOf x9).toNat)
          case atStart => exact ⟨16, [], none, 0, rfl, h16e, Nat.le_refl _, rfl, by simp, HRA.out, SOwn.nil _ _, Below.refl _ _⟩
          case round =>
            obtain ⟨at_, L, pa, pc, rfl, hae, ha16, rfl, hLa, hM, hO, hB⟩ := hrel
            have HLE := Lib.hid (show en ≤ s.data.toList.length from by rw [← HLS.out]; exact hes)
            by_cases hlt : at_ < en
            · by_cases hs1 : en < at_ + 8
              · have G1 := Lib.hid (fun w1 : World => rget_no (s.extract 0 en) at_ (by rw [HTS.out]; omega) (by omega) (by rw [HTS.out]; omega) w1)
                have G2 := Lib.hid (fun w1 : World => rget_no (s.extract 0 en) (at_ + 8) (by rw [HTS.out]; omega) (by omega) (by rw [HTS.out]; omega) w1)
                rw [show ((at_ + 8 : Nat) : Int) = (at_ : Int) + 8 by omega] at G2
                have hP : RowKit.Hid (Jn.parse s.data.toList = none) := Lib.hid (by
                  have e := Jn.parse_stop hM.out hlt HLE.out (by unfold Jn.firstRow; rw [if_pos (by rw [List.length_drop, List.length_take]; omega)])
                  have h := HP.out
                  rw [e] at h
                  exact h)
                go_wp2_with (go_at_call 73; first | (with_reducible refine (G1.out _).mono ?_; rintro _ w2 ⟨rfl, rfl⟩) | (with_reducible refine (G2.out _).mono ?_; rintro _ w2 ⟨rfl, rfl⟩))
                go_ret2
                exact ⟨hB.out, .inl ⟨hP.out, _, rfl⟩⟩
              · have G1 := Lib.hid (fun w1 : World => rget_yes (s.extract 0 en) at_ (by rw [HTS.out]; omega) (by rw [HTS.out]; omega) w1)
                rw [ext_take0] at G1
                by_cases hs2 : en < at_ + 16
                · have G2 := Lib.hid (fun w1 : World => rget_no (s.extract 0 en) (at_ + 8) (by rw [HTS.out]; omega) (by omega) (by rw [HTS.out]; omega) w1)
                  rw [show ((at_ + 8 : Nat) : Int) = (at_ : Int) + 8 by omega] at G2
                  have hP : RowKit.Hid (Jn.parse s.data.toList = none) := Lib.hid (by
                    have e := Jn.parse_stop hM.out hlt HLE.out (by unfold Jn.firstRow; rw [if_pos (by rw [List.length_drop, List.length_take]; omega)])
                    have h := HP.out
                    rw [e] at h
                    exact h)
                  obtain ⟨n, hn⟩ : ∃ n, Jn.val ((s.data.toList.take en).drop at_) = n := ⟨_, rfl⟩
                  rw [hn] at G1
                  clear hn
                  go_wp2_with (go_at_call 73; first | (with_reducible refine (G1.out _).mono ?_; rintro _ w2 ⟨rfl, rfl⟩) | (with_reducible refine (G2.out _).mono ?_; rintro _ w2 ⟨rfl, rfl⟩))
                  go_ret2
                  exact ⟨hB.out, .inl ⟨hP.out, _, rfl⟩⟩
                · have G2 := Lib.hid (fun w1 : World => rget_yes (s.extract 0 en) (at_ + 8) (by rw [HTS.out]; omega) (by rw [HTS.out]; omega) w1)
                  rw [ext_take0, show ((at_ + 8 : Nat) : Int) = (at_ : Int) + 8 by omega] at G2
                  have hF := first_is HLE.out (a := at_) (by omega)
                  obtain ⟨n, hn⟩ : ∃ n, Jn.val ((s.data.toList.take en).drop at_) = n := ⟨_, rfl⟩
                  obtain ⟨c, hc⟩ : ∃ c, Jn.val ((s.data.toList.take en).drop (at_ + 8)) = c := ⟨_, rfl⟩
                  rw [hn] at G1 hF
                  rw [hc] at G2 hF
                  clear hn hc
                  by_cases n0 : n < 0
                  · have hP : RowKit.Hid (Jn.parse s.data.toList = none) := Lib.hid (by
                      have e := Jn.parse_stop hM.out hlt HLE.out (by rw [hF, if_pos (.inl n0)])
                      have h := HP.out
                      rw [e] at h
                      exact h)
                    have e3 : decide (n < 0) = true := by simpa using n0
                    clear hF
                    go_wp2_with (go_at_call 73; first | (with_reducible refine (G1.out _).mono ?_; rintro _ w2 ⟨rfl, rfl⟩) | (with_reducible refine (G2.out _).mono ?_; rintro _ w2 ⟨rfl, rfl⟩))
                    go_ret2
                    exact ⟨hB.out, .inl ⟨hP.out, _, rfl⟩⟩
                  · have e3 : decide (n < 0) = false := by simpa using n0
                    by_cases n1 : (en : Int) - at_ - 16 < n
                    · have hP : RowKit.Hid (Jn.parse s.data.toList = none) := Lib.hid (by
                        have e := Jn.parse_stop hM.out hlt HLE.out (by rw [hF, if_pos (.inr n1)])
                        have h := HP.out
                        rw [e] at h
                        exact h)
                      clear hF
                      by_cases n2 : (en : Int) < n
                      · have e4 : decide ((en : Int) < n) = true := by simpa using n2
                        go_wp2_with (go_at_call 73; first | (with_reducible refine (G1.out _).mono ?_; rintro _ w2 ⟨rfl, rfl⟩) | (with_reducible refine (G2.out _).mono ?_; rintro _ w2 ⟨rfl, rfl⟩))
                        go_ret2
                        exact ⟨hB.out, .inl ⟨hP.out, _, rfl⟩⟩
                      · have e4 : decide ((en : Int) < n) = false := by simpa using n2
                        have e5 : decide ((en : Int) < (at_ : Int) + 16 + n) = true := by simp; omega
                        go_wp2_with (go_at_call 73; first | (with_reducible refine (G1.out _).mono ?_; rintro _ w2 ⟨rfl, rfl⟩) | (with_reducible refine (G2.out _).mono ?_; rintro _ w2 ⟨rfl, rfl⟩))
                        go_ret2
                        exact ⟨hB.out, .inl ⟨hP.out, _, rfl⟩⟩
                    · rw [if_neg (by omega)] at hF
                      obtain ⟨m, rfl⟩ : ∃ m : Nat, n = (m : Int) := ⟨n.toNat, by omega⟩
                      have hm : at_ + 16 + m ≤ en := by omega
                      rw [show ((m : Int)).toNat = m by omega] at hF
                      have e4 : decide (en < m) = false := by simp; omega
                      have e4i : decide ((en : Int) < (m : Int)) = false := by simp; omega
                      have e5 : decide ((en : Int) < (at_ : Int) + 16 + (m : Int)) = false := by simp; omega
                      have hX : (s.extract (at_ + 16) (at_ + 16 + m)).data.toList = (s.data.toList.take (at_ + 16 + m)).drop (at_ + 16) := ext_mid s _ _
                      have KC := Lib.hid (fun w1 : World => rcrc_any (s.extract (at_ + 16) (at_ + 16 + m)) (by rw [Lib.size_eq, hX, List.length_drop, List.length_take]; omega) w1)
                      rw [hX] at KC
                      obtain ⟨r, hr⟩ : ∃ r, (s.data.toList.take (at_ + 16 + m)).drop (at_ + 16) = r := ⟨_, rfl⟩
                      rw [hr] at hF KC hX
                      have hrl : r.length = m := by rw [← hr, List.length_drop, List.length_take]; have := HLE.out; omega
                      have hRR : s.extract (at_ + 16) (at_ + 16 + m) = enc r := ba_ext (by rw [hX, enc_list])
                      obtain ⟨q, hq⟩ : ∃ q, Jn.crc r = q := ⟨_, rfl⟩
                      rw [hq] at hF
                      have KC2 : RowKit.Hid (∀ w1 : World, Calls Tryd.prog 74 #[.string (s.extract (at_ + 16) (at_ + 16 + m))] w1 fun e w' => e = .returned (.int .i64 q) ∧ w1 = w') := by
                        rw [← hq]; exact KC
                      have HRR := Lib.hid hRR
                      clear hr hX KC hq hRR
                      by_cases hc : c = q
                      · rw [if_pos hc] at hF
                        subst hc
                        have hst := Jn.parse_step hM.out hlt HLE.out hF
                        have HST := Lib.hid hst.1
                        have hL8 : L.length ≤ 100000000 := by omega
                        have HRL := Lib.hid hrl
                        have HO3 := Lib.hid hO.out
                        have HB3 := Lib.hid hB.out
                        clear hF hst hrl
                        go_wp2_with (first | (go_at_call 73; first | (with_reducible refine (G1.out _).mono ?_; rintro _ w2 ⟨rfl, rfl⟩) | (with_reducible refine (G2.out _).mono ?_; rintro _ w2 ⟨rfl, rfl⟩)) | (go_at_call 74; with_reducible refine (KC2.out _).mono ?_; rintro _ w2 ⟨rfl, rfl⟩) | (at_builtin; rw [HRR.out]; refine wpList_app_row1 rfl (.tmp 98) (.tmp 100) rfl r HO3.out HB3.out hL8 rfl rfl ?_; intro ta tn tc w4 HO4 HB4 htn; subst htn))
                        go_roundw
                        case rel => exact ⟨at_ + (16 + r.length), L ++ [r], ta, tc, by rw [HRL.out]; go_num, by rw [HRL.out]; omega, by omega, by rw [List.length_append]; rfl, by rw [List.length_append, List.length_singleton]; omega, HST.out, by have := HO4.out; rw [List.length_append]; exact this, HB4.out⟩
                        case measure => simp [intOf]; omega
                      · rw [if_neg hc] at hF
                        have hP : RowKit.Hid (Jn.parse s.data.toList = none) := Lib.hid (by
                          have e := Jn.parse_stop hM.out hlt HLE.out hF
                          have h := HP.out
                          rw [e] at h
                          exact h)
                        have e6 : (q != c) = true := by simp; omega
                        clear hF
                        go_wp2_with (first | (go_at_call 73; first | (with_reducible refine (G1.out _).mono ?_; rintro _ w2 ⟨rfl, rfl⟩) | (with_reducible refine (G2.out _).mono ?_; rintro _ w2 ⟨rfl, rfl⟩)) | (go_at_call 74; with_reducible refine (KC2.out _).mono ?_; rintro _ w2 ⟨rfl, rfl⟩))
                        go_ret2
                        exact ⟨hB.out, .inl ⟨hP.out, _, rfl⟩⟩
            · have e := Jn.parse_end hM.out (by omega)
              obtain rfl : at_ = en := by omega
              have hP := Lib.hid HP.out
              rw [e] at hP
              by_cases hc : cv = (L.length : Int)
              · have hP2 : RowKit.Hid (Jn.parse s.data.toList = some (L, at_)) := Lib.hid (by rw [hP.out]; unfold Jn.fin; dsimp only; rw [if_pos hc])
                have e3 : ((L.length : Int) == cv) = true := by simp; omega
                clear hP hc e HP
                go_wp2_with fail
                go_ret2
                exact ⟨hB.out, .inr ⟨L, at_, pa, pc, hP2.out, rfl, hO.out⟩⟩
              · have hP2 : RowKit.Hid (Jn.parse s.data.toList = none) := Lib.hid (by rw [hP.out]; unfold Jn.fin; dsimp only; rw [if_neg hc])
                have e3 : ((L.length : Int) == cv) = false := by simp; omega
                clear hP e HP
                go_wp2_with fail
                go_ret2
                exact ⟨hB.out, .inl ⟨hP2.out, _, rfl⟩⟩
end Go.Proofs.YtbpodclodflgfaaDoor
