/-
  CodecStays: the law walked.
-/
import Derived.Test.YtehnjoggilomfaaDoorCStaysP
namespace Go.Proofs.YtehnjoggilomfaaDoor
open Go Go.RowKit Go.Shelf
theorem byte_neB {c : UInt8} {n : Nat} (hn : n < 256) (h : c ≠ UInt8.ofNat n) : ((c.toNat : Int) == (n : Int)) = false := byte_ne hn h

set_option maxHeartbeats 8000000 in
set_option maxRecDepth 100000 in
theorem stays_any (s : ByteArray) (w : World) (hm : MaxAt w) (hs : s.size ≤ 9223372036854775807) :
    Calls Tryd.prog 7 #[.string s] w fun e w' => e = .returned (.bool true) ∧ Below w.heap.size w w' := by
  have HSm := Lib.hid (small_any w hm)
  have hp := hm.pos
  by_cases h2 : 2000 < (s.size : Int)
  · go_enter Tryd.func7, Tryd.ntmps7
    go_wp2_with fail
    refine HSm.out.mono ?_
    rintro e w1 ⟨rfl, hB1⟩
    go_wp2
    go_ret
    exact ⟨rfl, hB1⟩
  · have h3 : (s.size : Int) ≤ 2000 := by omega
    have hl := Lib.size_eq s
    have b1 := Cd.unb_len s.data.toList
    have b2 := Cd.unq_len s.data.toList
    have b3 := Cd.unp_len s.data.toList
    have HUB := Lib.hid (fun w h => unbase64_any s w (by omega) h)
    have HUQ := Lib.hid (fun w => unquoted_any s w (by omega))
    have HUP := Lib.hid (fun w => unpercent_any s w (by omega))
    have hend : Cd.cleanL s.data.toList = true → (⟨(Cd.unquoted s.data.toList).1.toArray⟩ : ByteArray) = s ∧ (Cd.unquoted s.data.toList).2 = s.data.toList.all Cd.ok9 ∧ (⟨(Cd.unpercent s.data.toList).1.toArray⟩ : ByteArray) = s ∧ (Cd.unpercent s.data.toList).2 = true := by
      intro h
      rw [Cd.unq_clean _ h, Cd.unp_clean _ h]
      exact ⟨Lib.mk_data s, rfl, Lib.mk_data s, rfl⟩
    have za : (⟨(Cd.unbase64 s.data.toList).1.toArray⟩ : ByteArray).size ≤ s.size := by rw [Tx.bs_len]; omega
    have zb : (⟨(Cd.unquoted s.data.toList).1.toArray⟩ : ByteArray).size ≤ s.size := by rw [Tx.bs_len]; omega
    have zc : (⟨(Cd.unpercent s.data.toList).1.toArray⟩ : ByteArray).size ≤ s.size := by rw [Tx.bs_len]; omega
    generalize (⟨(Cd.unbase64 s.data.toList).1.toArray⟩ : ByteArray) = A at HUB za
    generalize (⟨(Cd.unquoted s.data.toList).1.toArray⟩ : ByteArray) = B at HUQ zb hend
    generalize (⟨(Cd.unpercent s.data.toList).1.toArray⟩ : ByteArray) = C at HUP zc hend
    generalize (Cd.unbase64 s.data.toList).2 = ga at HUB
    generalize (Cd.unquoted s.data.toList).2 = gb at HUQ hend
    generalize (Cd.unpercent s.data.toList).2 = gc at HUP hend
    have HE := Lib.hid hend
    clear b1 b2 b3 hl h2 hend
    go_enter Tryd.func7, Tryd.ntmps7
    go_wp2_with fail
    refine HSm.out.mono ?_
    rintro e w1 ⟨rfl, hB1⟩
    have hm1 := hm.below hB1 hp
    go_wp2_with fail
    refine (HUB.out _ hm1).mono ?_
    rintro e w2 ⟨rfl, hB2⟩
    have hs2 := Nat.le_trans hB1.size hB2.size
    go_wp2_with fail
    refine (HUQ.out _).mono ?_
    rintro e w4 ⟨rfl, hB4⟩
    have hs4 := Nat.le_trans hs2 hB4.size
    go_wp2_with fail
    refine (HUP.out _).mono ?_
    rintro e w6 ⟨rfl, hB6⟩
    have hB := ((hB1.trans (hB2.mono hB1.size)).trans (hB4.mono hs2)).trans (hB6.mono hs4)
    clear hB1 hB2 hB4 hB6 hs2 hs4 hm1
    go_wp2
    go_loop [10, 11] (fun pv iv => ∃ (i : Nat) (p : Bool), iv = .int .i64 i ∧ pv = .bool p ∧ i ≤ s.size ∧ Hid ((s.data.toList.take i).all Cd.ok9 = p) ∧ Hid (Cd.cleanL s.data.toList = Cd.cleanL (s.data.toList.drop i))) (fun _ iv => s.size - (intOf iv).toNat)
    case atStart => exact ⟨0, true, rfl, rfl, Nat.zero_le _, rfl, rfl⟩
    case round =>
      obtain ⟨i, p, rfl, rfl, hi, hP, hC⟩ := hrel
      by_cases hlt : i < s.size
      · obtain ⟨c, hc⟩ : ∃ c, s[i] = c := ⟨_, rfl⟩
        have hC2 := hC.out
        rw [drop_next s i hlt, hc] at hC2
        have hP2 : (s.data.toList.take (i + 1)).all Cd.ok9 = (p && Cd.ok9 c) := by rw [take_next s i hlt, hc, List.all_append, hP.out]; simp
        clear hP hC
        have cl := UInt8.toNat_lt c
        by_cases h61 : c = 61
        · subst h61
          clear hC2 hP2
          go_wp2
          go_ret
          exact ⟨rfl, hB⟩
        by_cases h43 : c = 43
        · subst h43
          clear hC2 hP2 h61
          go_wp2
          go_ret
          exact ⟨rfl, hB⟩
        by_cases h37 : c = 37
        · subst h37
          clear hC2 hP2 h61 h43
          go_wp2
          go_ret
          exact ⟨rfl, hB⟩
        have q61 : ((c.toNat : Int) == 61) = false := byte_ne (n := 61) (by decide) h61
        have q43 : ((c.toNat : Int) == 43) = false := byte_ne (n := 43) (by decide) h43
        have q37 : ((c.toNat : Int) == 37) = false := byte_ne (n := 37) (by decide) h37
        have hbad : ∀ r, Cd.bad c r = (Cd.blank c && Cd.ends2 r) := by
          intro r; unfold Cd.bad
          rw [beq_eq_false_iff_ne.2 h61, beq_eq_false_iff_ne.2 h43, beq_eq_false_iff_ne.2 h37]; rfl
        clear h61 h43 h37
        by_cases h32 : c = 32
        · subst h32
          have ho : Cd.ok9 32 = true := by decide
          rw [ho] at hP2
          by_cases hk : i + 1 < s.size
          · obtain ⟨d, hd⟩ : ∃ d, s[i + 1] = d := ⟨_, rfl⟩
            have e1 : ((i : Int) + 1 == (s.size : Int)) = false := by rw [beq_eq_false_iff_ne]; omega
            by_cases d10 : d = 10
            · subst d10
              clear hC2 hP2 hbad
              go_wp2
              go_ret
              exact ⟨rfl, hB⟩
            by_cases d13 : d = 13
            · subst d13
              clear hC2 hP2 hbad
              go_wp2
              go_ret
              exact ⟨rfl, hB⟩
            have r10 : ((d.toNat : Int) == 10) = false := byte_ne (n := 10) (by decide) d10
            have r13 : ((d.toNat : Int) == 13) = false := byte_ne (n := 13) (by decide) d13
            have HC : Hid (Cd.cleanL s.data.toList = Cd.cleanL (s.data.toList.drop (i + 1))) := by
              show _ = _
              rw [hC2]
              show (!Cd.bad 32 _ && _) = _
              rw [hbad, drop_next s (i + 1) hk, hd]
              show (!(true && (d == 10 || d == 13)) && _) = _
              rw [beq_eq_false_iff_ne.2 d10, beq_eq_false_iff_ne.2 d13]; rfl
            have HP := Lib.hid hP2
            clear hC2 hP2 hbad d10 d13 ho
            cases p
            all_goals
              go_wp2
              go_round
              case rel => exact ⟨i + 1, _, by go_num, rfl, by omega, HP.out, HC.out⟩
              case measure => simp [intOf]; omega
          · have e1 : ((i : Int) + 1 == (s.size : Int)) = true := by rw [beq_iff_eq]; omega
            clear hC2 hP2 hbad ho
            go_wp2
            go_ret
            exact ⟨rfl, hB⟩
        by_cases h9 : c = 9
        · subst h9
          have ho : Cd.ok9 9 = true := by decide
          rw [ho] at hP2
          by_cases hk : i + 1 < s.size
          · obtain ⟨d, hd⟩ : ∃ d, s[i + 1] = d := ⟨_, rfl⟩
            have e1 : ((i : Int) + 1 == (s.size : Int)) = false := by rw [beq_eq_false_iff_ne]; omega
            by_cases d10 : d = 10
            · subst d10
              clear hC2 hP2 hbad
              go_wp2
              go_ret
              exact ⟨rfl, hB⟩
            by_cases d13 : d = 13
            · subst d13
              clear hC2 hP2 hbad
              go_wp2
              go_ret
              exact ⟨rfl, hB⟩
            have r10 : ((d.toNat : Int) == 10) = false := byte_ne (n := 10) (by decide) d10
            have r13 : ((d.toNat : Int) == 13) = false := byte_ne (n := 13) (by decide) d13
            have HC : Hid (Cd.cleanL s.data.toList = Cd.cleanL (s.data.toList.drop (i + 1))) := by
              show _ = _
              rw [hC2]
              show (!Cd.bad 9 _ && _) = _
              rw [hbad, drop_next s (i + 1) hk, hd]
              show (!(true && (d == 10 || d == 13)) && _) = _
              rw [beq_eq_false_iff_ne.2 d10, beq_eq_false_iff_ne.2 d13]; rfl
            have HP := Lib.hid hP2
            clear hC2 hP2 hbad d10 d13 ho
            cases p
            all_goals
              go_wp2
              go_round
              case rel => exact ⟨i + 1, _, by go_num, rfl, by omega, HP.out, HC.out⟩
              case measure => simp [intOf]; omega
          · have e1 : ((i : Int) + 1 == (s.size : Int)) = true := by rw [beq_iff_eq]; omega
            clear hC2 hP2 hbad ho
            go_wp2
            go_ret
            exact ⟨rfl, hB⟩
        have q32 : ((c.toNat : Int) == 32) = false := byte_ne (n := 32) (by decide) h32
        have q9 : ((c.toNat : Int) == 9) = false := byte_ne (n := 9) (by decide) h9
        have hnb : Cd.blank c = false := by unfold Cd.blank; rw [beq_eq_false_iff_ne.2 h32, beq_eq_false_iff_ne.2 h9]; rfl
        have HC : Hid (Cd.cleanL s.data.toList = Cd.cleanL (s.data.toList.drop (i + 1))) := by
          show _ = _
          rw [hC2]
          show (!Cd.bad c _ && _) = _
          rw [hbad, hnb]; rfl
        clear hC2 hbad hnb h32
        rcases Cd.ok9_cases h9 with ⟨a1, a2, ho⟩ | ⟨rfl, ho⟩ | ⟨rfl, ho⟩ | ⟨a1, a2, a3, a4, ho⟩ | ⟨a0, a1, a2, a3, a4, ho⟩
        all_goals
          rw [ho] at hP2
          have HP := Lib.hid hP2
          clear hP2 ho h9
          cases p
          all_goals
            go_wp2
            go_round
            case rel => exact ⟨i + 1, _, by go_num, rfl, by omega, HP.out, HC.out⟩
            case measure => simp [intOf]; omega
      · obtain rfl : i = s.size := by omega
        have hC2 := hC.out
        have hP2 := hP.out
        rw [List.drop_eq_nil_of_le (by rw [← Lib.size_eq]; exact Nat.le_refl _)] at hC2
        rw [List.take_of_length_le (by rw [← Lib.size_eq]; exact Nat.le_refl _)] at hP2
        obtain ⟨e1, e2, e3, e4⟩ := HE.out hC2
        rw [hP2] at e2
        clear hC hP hC2 hP2 HE HUQ HUP
        subst e1 e2 e3 e4
        cases gb
        all_goals
          go_wp2
          go_ret
          exact ⟨ret_true (by simp), hB⟩
end Go.Proofs.YtehnjoggilomfaaDoor
