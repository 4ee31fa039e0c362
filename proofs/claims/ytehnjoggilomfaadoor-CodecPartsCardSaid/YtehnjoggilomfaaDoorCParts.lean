/-
  CodecParts: the law walked.
-/
import Derived.Test.YtehnjoggilomfaaDoorCPartsP
namespace Go.Proofs.YtehnjoggilomfaaDoor
open Go Go.RowKit Go.Shelf
/-- Base64 of a text, and its lines joined. -/
theorem joined_any (L : List UInt8) (hL : L.length ≤ 3000) (A : ByteArray) (hA : ⟨(Cd.base64 L).toArray⟩ = A) (E : ByteArray) (hE : ⟨(Cd.b64line L).toArray⟩ = E) (xa : Option Addr) (b cap : Nat) (w : World)
    (hr : RowOf w (.slice xa (Tx.lines A.data.toList).length cap) xa b 0 cap (Tx.lines A.data.toList)) :
    Calls Tryd.prog 18 #[.slice xa (Tx.lines A.data.toList).length cap, .string ⟨#[]⟩] w fun e w' => e = .returned (.string E) ∧ Below w.heap.size w w' := by
  subst hA hE
  obtain ⟨h1, h2, h3⟩ := Cd.lines_base _ L (Nat.le_refl _)
  have := refJoin0_any xa b 0 cap (Tx.lines (Cd.base64 L)) w hr (by omega) (fun x hx => by have := h3 x hx; omega)
  rw [h1] at this
  exact this

set_option maxHeartbeats 8000000 in
set_option maxRecDepth 100000 in
theorem parts7_any (s t : ByteArray) (w : World) (hm : MaxAt w) (hs : s.size ≤ 9223372036854775807) (ht : t.size ≤ 9223372036854775807) :
    Calls Tryd.prog 6 #[.string s, .string t] w fun e w' => e = .returned (.bool true) ∧ Below w.heap.size w w' := by
  have HSm := Lib.hid (small_any w hm)
  by_cases h2 : 500 < (s.size : Int)
  · go_enter Tryd.func6, Tryd.ntmps6
    go_wp2_with fail
    refine HSm.out.mono ?_
    rintro e w1 ⟨rfl, hB1⟩
    go_wp2
    go_ret
    exact ⟨rfl, hB1⟩
  have h3 : (s.size : Int) ≤ 500 := by omega
  by_cases h4 : 500 < (t.size : Int)
  · clear h2
    go_enter Tryd.func6, Tryd.ntmps6
    go_wp2_with fail
    refine HSm.out.mono ?_
    rintro e w1 ⟨rfl, hB1⟩
    go_wp2
    go_ret
    exact ⟨rfl, hB1⟩
  have h5 : (t.size : Int) ≤ 500 := by omega
  clear h2 h4
  have hl := Lib.size_eq s
  have hlt := Lib.size_eq t
  have hst : (s ++ t).size ≤ 1000 := by rw [ByteArray.size_append]; omega
  have hsn : (s ++ ⟨#[10]⟩ ++ t).size ≤ 1001 := by rw [ByteArray.size_append, ByteArray.size_append]; show s.size + 1 + t.size ≤ 1001; omega
  have hdn : (s ++ ⟨#[10]⟩ ++ t).data.toList = s.data.toList ++ 10 :: t.data.toList := by rw [data_append, data_append]; simp
  have e1 : Cd.percent (s ++ t).data.toList = Cd.percent s.data.toList ++ Cd.percent t.data.toList := by rw [data_append, Cd.percent_append]
  have e2 : Cd.quoted (s ++ ⟨#[10]⟩ ++ t).data.toList = Cd.quoted s.data.toList ++ 10 :: Cd.quoted t.data.toList := by rw [hdn, Cd.quoted_nl]
  obtain ⟨PS, hPS⟩ : ∃ x : ByteArray, (⟨(Cd.percent s.data.toList).toArray⟩ : ByteArray) = x := ⟨_, rfl⟩
  obtain ⟨PT, hPT⟩ : ∃ x : ByteArray, (⟨(Cd.percent t.data.toList).toArray⟩ : ByteArray) = x := ⟨_, rfl⟩
  obtain ⟨QS, hQS⟩ : ∃ x : ByteArray, (⟨(Cd.quoted s.data.toList).toArray⟩ : ByteArray) = x := ⟨_, rfl⟩
  obtain ⟨QT, hQT⟩ : ∃ x : ByteArray, (⟨(Cd.quoted t.data.toList).toArray⟩ : ByteArray) = x := ⟨_, rfl⟩
  have HP1 := Lib.hid (fun w => percent_any s w (by omega))
  have HP2 := Lib.hid (fun w => percent_any t w (by omega))
  have HP3 := Lib.hid (fun w => percent_any (s ++ t) w (by omega))
  have HQ1 := Lib.hid (fun w => quoted_any s w (by omega))
  have HQ2 := Lib.hid (fun w => quoted_any t w (by omega))
  have HQ3 := Lib.hid (fun w => quoted_any (s ++ ⟨#[10]⟩ ++ t) w (by omega))
  have b1 := Cd.percent_len s.data.toList
  have b2 := Cd.percent_len t.data.toList
  have b3 := Cd.quo_len s.data.toList 0
  have b4 := Cd.quo_len t.data.toList 0
  have zPS : PS.size ≤ 1500 := by rw [← hPS, Tx.bs_len]; omega
  have zPT : PT.size ≤ 1500 := by rw [← hPT, Tx.bs_len]; omega
  have zQS : QS.size ≤ 2500 := by rw [← hQS, Tx.bs_len]; unfold Cd.quoted; omega
  have zQT : QT.size ≤ 2500 := by rw [← hQT, Tx.bs_len]; unfold Cd.quoted; omega
  rw [e1, ← mk_append, hPS, hPT] at HP3
  have e3 : (⟨(Cd.quoted s.data.toList ++ 10 :: Cd.quoted t.data.toList).toArray⟩ : ByteArray) = QS ++ ⟨#[10]⟩ ++ QT := by
    rw [← hQS, ← hQT, show (⟨#[10]⟩ : ByteArray) = ⟨([10] : List UInt8).toArray⟩ from rfl, mk_append, mk_append]; simp
  rw [e2, e3] at HQ3
  rw [hPS] at HP1
  rw [hPT] at HP2
  rw [hQS] at HQ1
  rw [hQT] at HQ2
  clear e1 e2 e3 hdn hPS hPT hQS hQT b1 b2 b3 b4
  obtain ⟨A1, hA1⟩ : ∃ x : ByteArray, (⟨(Cd.base64 (s).data.toList).toArray⟩ : ByteArray) = x := ⟨_, rfl⟩
  obtain ⟨E1, hE1⟩ : ∃ x : ByteArray, (⟨(Cd.b64line (s).data.toList).toArray⟩ : ByteArray) = x := ⟨_, rfl⟩
  have HB1 := Lib.hid (fun w => base64_any (s) w (by omega))
  rw [hA1] at HB1
  have ba1 := Cd.base_len (s).data.toList
  rw [← Lib.size_eq] at ba1
  have zA1 : A1.size ≤ 100000 := by rw [← hA1, Tx.bs_len]; omega
  have HL1 := Lib.hid (fun w => refLines_any A1 w (by omega))
  have HJ1 := Lib.hid (fun xa b cap w hr => joined_any (s).data.toList (by rw [← Lib.size_eq]; omega) A1 hA1 E1 hE1 xa b cap w hr)
  generalize Tx.lines A1.data.toList = X1 at HL1 HJ1
  obtain ⟨A2, hA2⟩ : ∃ x : ByteArray, (⟨(Cd.base64 (t).data.toList).toArray⟩ : ByteArray) = x := ⟨_, rfl⟩
  obtain ⟨E2, hE2⟩ : ∃ x : ByteArray, (⟨(Cd.b64line (t).data.toList).toArray⟩ : ByteArray) = x := ⟨_, rfl⟩
  have HB2 := Lib.hid (fun w => base64_any (t) w (by omega))
  rw [hA2] at HB2
  have ba2 := Cd.base_len (t).data.toList
  rw [← Lib.size_eq] at ba2
  have zA2 : A2.size ≤ 100000 := by rw [← hA2, Tx.bs_len]; omega
  have HL2 := Lib.hid (fun w => refLines_any A2 w (by omega))
  have HJ2 := Lib.hid (fun xa b cap w hr => joined_any (t).data.toList (by rw [← Lib.size_eq]; omega) A2 hA2 E2 hE2 xa b cap w hr)
  generalize Tx.lines A2.data.toList = X2 at HL2 HJ2
  obtain ⟨A3, hA3⟩ : ∃ x : ByteArray, (⟨(Cd.base64 (s ++ t).data.toList).toArray⟩ : ByteArray) = x := ⟨_, rfl⟩
  obtain ⟨E3, hE3⟩ : ∃ x : ByteArray, (⟨(Cd.b64line (s ++ t).data.toList).toArray⟩ : ByteArray) = x := ⟨_, rfl⟩
  have HB3 := Lib.hid (fun w => base64_any (s ++ t) w (by omega))
  rw [hA3] at HB3
  have ba3 := Cd.base_len (s ++ t).data.toList
  rw [← Lib.size_eq] at ba3
  have zA3 : A3.size ≤ 100000 := by rw [← hA3, Tx.bs_len]; omega
  have HL3 := Lib.hid (fun w => refLines_any A3 w (by omega))
  have HJ3 := Lib.hid (fun xa b cap w hr => joined_any (s ++ t).data.toList (by rw [← Lib.size_eq]; omega) A3 hA3 E3 hE3 xa b cap w hr)
  generalize Tx.lines A3.data.toList = X3 at HL3 HJ3
  have hE : s.size % 3 = 0 → E3 = E1 ++ E2 := by
    intro h
    rw [← hE1, ← hE2, ← hE3, data_append, Cd.line_append _ s.data.toList t.data.toList (Nat.le_refl _) (by rw [← Lib.size_eq]; exact h), mk_append]
  have HE := Lib.hid hE
  have bl1 := Cd.b64line_len s.data.toList
  have bl2 := Cd.b64line_len t.data.toList
  have bc1 := Cd.cnt_le 3 s.data.toList.length (by decide)
  have bc2 := Cd.cnt_le 3 t.data.toList.length (by decide)
  have zE1 : E1.size ≤ 2000 := by rw [← hE1, Tx.bs_len]; omega
  have zE2 : E2.size ≤ 2000 := by rw [← hE2, Tx.bs_len]; omega
  clear hE hA1 hA2 hA3 hE1 hE2 hE3 ba1 ba2 ba3 zA1 zA2 zA3 bl1 bl2 bc1 bc2
  clear hst hsn hl hlt
  by_cases hmod : s.size % 3 = 0
  · have hr : ((s.size : Int) % 3 != 0) = false := by have : (s.size : Int) % 3 = 0 := by omega
                                                      rw [this]; rfl
    have hEE := HE.out hmod
    subst hEE
    clear HE hmod
    go_enter Tryd.func6, Tryd.ntmps6
    go_wp2_with fail
    refine HSm.out.mono ?_
    rintro e w1 ⟨rfl, hB1⟩
    go_wp2_with (first
      | (go_at_call 14; (with_reducible refine (HP3.out _).mono ?_); rintro e w2 ⟨rfl, hB2⟩)
      | (go_at_call 14; (with_reducible refine (HP1.out _).mono ?_); rintro e w3 ⟨rfl, hB3⟩)
      | (go_at_call 14; (with_reducible refine (HP2.out _).mono ?_); rintro e w4 ⟨rfl, hB4⟩)
      | (go_at_call 12; (with_reducible refine (HQ3.out _).mono ?_); rintro e w5 ⟨rfl, hB5⟩)
      | (go_at_call 12; (with_reducible refine (HQ1.out _).mono ?_); rintro e w6 ⟨rfl, hB6⟩)
      | (go_at_call 12; (with_reducible refine (HQ2.out _).mono ?_); rintro e w7 ⟨rfl, hB7⟩))
    have s2 := Nat.le_trans hB1.size hB2.size
    have s3 := Nat.le_trans s2 hB3.size
    have s4 := Nat.le_trans s3 hB4.size
    have s5 := Nat.le_trans s4 hB5.size
    have s6 := Nat.le_trans s5 hB6.size
    have s7 := Nat.le_trans s6 hB7.size
    have hB := (((((hB1.trans (hB2.mono hB1.size)).trans (hB3.mono s2)).trans (hB4.mono s3)).trans (hB5.mono s4)).trans (hB6.mono s5)).trans (hB7.mono s6)
    clear hB1 hB2 hB3 hB4 hB5 hB6 hB7 s2 s3 s4 s5 s6
    go_wp2_with fail
    refine (HB1.out _).mono ?_
    rintro e u1 ⟨rfl, hU1⟩
    go_wp2_with fail
    refine (HL1.out _).mono ?_
    rintro e v1 ⟨vv1, rfl, hown1, hV1⟩
    obtain ⟨xa1, bb1, cap1, hro1⟩ := rowOf_own hown1
    obtain rfl := hro1.is
    have HR1 := Lib.hid hro1
    clear hown1 hro1
    go_wp2_with fail
    refine (HJ1.out _ _ _ _ HR1.out).mono ?_
    rintro e x1 ⟨rfl, hX1⟩
    have hB := ((hB.trans (hU1.mono s7)).trans (hV1.mono (Nat.le_trans s7 hU1.size))).trans (hX1.mono (Nat.le_trans (Nat.le_trans s7 hU1.size) hV1.size))
    have s7 := hB.size
    clear hU1 hV1 hX1 HR1
    go_wp2_with fail
    refine (HB2.out _).mono ?_
    rintro e u2 ⟨rfl, hU2⟩
    go_wp2_with fail
    refine (HL2.out _).mono ?_
    rintro e v2 ⟨vv2, rfl, hown2, hV2⟩
    obtain ⟨xa2, bb2, cap2, hro2⟩ := rowOf_own hown2
    obtain rfl := hro2.is
    have HR2 := Lib.hid hro2
    clear hown2 hro2
    go_wp2_with fail
    refine (HJ2.out _ _ _ _ HR2.out).mono ?_
    rintro e x2 ⟨rfl, hX2⟩
    have hB := ((hB.trans (hU2.mono s7)).trans (hV2.mono (Nat.le_trans s7 hU2.size))).trans (hX2.mono (Nat.le_trans (Nat.le_trans s7 hU2.size) hV2.size))
    have s7 := hB.size
    clear hU2 hV2 hX2 HR2
    go_wp2_with fail
    refine (HB3.out _).mono ?_
    rintro e u3 ⟨rfl, hU3⟩
    go_wp2_with fail
    refine (HL3.out _).mono ?_
    rintro e v3 ⟨vv3, rfl, hown3, hV3⟩
    obtain ⟨xa3, bb3, cap3, hro3⟩ := rowOf_own hown3
    obtain rfl := hro3.is
    have HR3 := Lib.hid hro3
    clear hown3 hro3
    go_wp2_with fail
    refine (HJ3.out _ _ _ _ HR3.out).mono ?_
    rintro e x3 ⟨rfl, hX3⟩
    have hB := ((hB.trans (hU3.mono s7)).trans (hV3.mono (Nat.le_trans s7 hU3.size))).trans (hX3.mono (Nat.le_trans (Nat.le_trans s7 hU3.size) hV3.size))
    have s7 := hB.size
    clear hU3 hV3 hX3 HR3
    go_wp2
    go_ret
    exact ⟨ret_true (by simp), hB⟩
  · have hr : ((s.size : Int) % 3 != 0) = true := by rw [bne_iff_ne]; omega
    clear HE hmod
    go_enter Tryd.func6, Tryd.ntmps6
    go_wp2_with fail
    refine HSm.out.mono ?_
    rintro e w1 ⟨rfl, hB1⟩
    go_wp2_with (first
      | (go_at_call 14; (with_reducible refine (HP3.out _).mono ?_); rintro e w2 ⟨rfl, hB2⟩)
      | (go_at_call 14; (with_reducible refine (HP1.out _).mono ?_); rintro e w3 ⟨rfl, hB3⟩)
      | (go_at_call 14; (with_reducible refine (HP2.out _).mono ?_); rintro e w4 ⟨rfl, hB4⟩)
      | (go_at_call 12; (with_reducible refine (HQ3.out _).mono ?_); rintro e w5 ⟨rfl, hB5⟩)
      | (go_at_call 12; (with_reducible refine (HQ1.out _).mono ?_); rintro e w6 ⟨rfl, hB6⟩)
      | (go_at_call 12; (with_reducible refine (HQ2.out _).mono ?_); rintro e w7 ⟨rfl, hB7⟩))
    have s2 := Nat.le_trans hB1.size hB2.size
    have s3 := Nat.le_trans s2 hB3.size
    have s4 := Nat.le_trans s3 hB4.size
    have s5 := Nat.le_trans s4 hB5.size
    have s6 := Nat.le_trans s5 hB6.size
    have s7 := Nat.le_trans s6 hB7.size
    have hB := (((((hB1.trans (hB2.mono hB1.size)).trans (hB3.mono s2)).trans (hB4.mono s3)).trans (hB5.mono s4)).trans (hB6.mono s5)).trans (hB7.mono s6)
    clear hB1 hB2 hB3 hB4 hB5 hB6 hB7 s2 s3 s4 s5 s6
    go_wp2
    go_ret
    exact ⟨rfl, hB⟩
end Go.Proofs.YtehnjoggilomfaaDoor
