/-
  CodecWhite: the law walked.
-/
import Derived.Test.YtehnjoggilomfaaDoorCWhP
namespace Go.Proofs.YtehnjoggilomfaaDoor
open Go Go.RowKit Go.Shelf
theorem conv_new (c : UInt8) (w : World) : (convert 29 9 (.slice (some ⟨w.heap.size, 0, none⟩) 1 1)).run Tryd.prog (w.alloc (.cells #[.int .u8 (c.toNat : Int)] 5)) = .ok (.string ⟨#[c]⟩) (w.alloc (.cells #[.int .u8 (c.toNat : Int)] 5)) :=
  run_convert_bytes_back (P := Tryd.prog) (w.alloc (.cells #[.int .u8 (c.toNat : Int)] 5)) 29 9 5 ⟨w.heap.size, 0, none⟩ 1 [c] Tryd.underlying29 Tryd.underlying5 Tryd.underlying9 (fun j hj => by
    refine cell_one_new w (.int .u8 (c.toNat : Int)) 5 j _ ?_
    obtain rfl : j = 0 := by simp at hj; omega
    rfl)
theorem conv_one (c : UInt8) (w : World) (n : Nat) : (convert 29 9 (.slice (some ⟨w.heap.size, 0, none⟩) 1 1)).run Tryd.prog ((w.drewN n).alloc (.cells #[.int .u8 (c.toNat : Int)] 5)) = .ok (.string ⟨#[c]⟩) ((w.drewN n).alloc (.cells #[.int .u8 (c.toNat : Int)] 5)) := by
  have := conv_new c (w.drewN n)
  rwa [World.heap_drewN] at this
theorem own_below {w W : World} {base : Nat} {v : Value} {l : List UInt8} (h : BytesOf w base v l) (hb : Below w.heap.size w W) : BytesOf W base v l :=
  World.ownsRow.kept (row := none) h ⟨hb.os, hb.tape, hb.output, hb.size, fun i hi _ => hb.block i hi⟩ (by cases v.ownBlock with | none => exact .inl rfl | some k => exact .inr (by simp))
theorem cell_after {w0 wr z : World} {v u x : Value} {A B : List UInt8} {t : TypeId} (h : Two w0 wr v u A B) (hg : ((wr.alloc (.cells #[x] t)).drew).grownBy z v.ownBlock) : ∀ j y, [x][j]? = some y → z.cell? ((⟨wr.heap.size, 0, none⟩ : Addr).add j) = some y := by
  intro j y hj
  have h1 := cell_one_new wr x t j y hj
  rw [add_plain0] at h1 ⊢
  have hlt : wr.heap.size < ((wr.alloc (.cells #[x] t)).drew).heap.size := by show _ < (wr.alloc _).heap.size; simp
  have hb := hg.block wr.heap.size hlt (fun e => by have := (lt_own h.a e.symm).2; omega)
  have hb2 : z.heap[wr.heap.size]? = (wr.alloc (.cells #[x] t)).heap[wr.heap.size]? := hb
  unfold World.cell? at h1 ⊢
  rw [hb2]; exact h1

set_option maxHeartbeats 8000000 in
set_option maxRecDepth 100000 in
theorem white7_any (s white : ByteArray) (o : UInt8) (w : World) (hm : MaxAt w) (hs : s.size ≤ 9223372036854775807) (hws : white.size ≤ 9223372036854775807) :
    Calls Tryd.prog 5 #[.string s, .string white, .int .u8 (o.toNat : Int)] w fun e w' => e = .returned (.bool true) ∧ Below w.heap.size w w' := by
  have HSm := Lib.hid (small_any w hm)
  have hp := hm.pos
  by_cases h2 : 500 < (s.size : Int)
  · go_enter Tryd.func5, Tryd.ntmps5
    go_wp2_with fail
    refine HSm.out.mono ?_
    rintro e w1 ⟨rfl, hB1⟩
    go_wp2
    go_ret
    exact ⟨rfl, hB1⟩
  have h3 : (s.size : Int) ≤ 500 := by omega
  by_cases h4 : 10 < (white.size : Int)
  · clear h2
    go_enter Tryd.func5, Tryd.ntmps5
    go_wp2_with fail
    refine HSm.out.mono ?_
    rintro e w1 ⟨rfl, hB1⟩
    go_wp2
    go_ret
    exact ⟨rfl, hB1⟩
  have h5 : (white.size : Int) ≤ 10 := by omega
  clear h2 h4
  have HTr := Lib.hid (fun w => refTrim_any white w hws)
  cases htr : Tx.trim white.data.toList with
  | cons x r =>
    have htn : (⟨(Tx.trim white.data.toList).toArray⟩ : ByteArray).toList.isEmpty = false := string_cons htr
    clear htr
    generalize (⟨(Tx.trim white.data.toList).toArray⟩ : ByteArray) = A at HTr htn
    go_enter Tryd.func5, Tryd.ntmps5
    go_wp2_with fail
    refine HSm.out.mono ?_
    rintro e w1 ⟨rfl, hB1⟩
    go_wp2_with fail
    refine (HTr.out _).mono ?_
    rintro e w2 ⟨rfl, n2, rfl⟩
    go_wp2
    go_ret
    exact ⟨rfl, below_drews hB1 n2⟩
  | nil =>
    have hW := Cd.trim_nil htr
    rw [htr] at HTr
    clear htr
    have hl := Lib.size_eq s
    have hlw := Lib.size_eq white
    have b1 := Cd.base_len s.data.toList
    have HB := Lib.hid (fun w => base64_any s w (by omega))
    obtain ⟨T, hT⟩ : ∃ x : ByteArray, (⟨(Cd.base64 s.data.toList).toArray⟩ : ByteArray) = x := ⟨_, rfl⟩
    have hTl : Cd.base64 s.data.toList = T.data.toList := by rw [← hT]
    have zT : T.size ≤ 40000 := by rw [← hT, Tx.bs_len]; omega
    rw [hT] at HB
    have HTl := Lib.hid hTl
    clear hT b1 hl hlw hTl
    go_enter Tryd.func5, Tryd.ntmps5
    go_wp2_with fail
    refine HSm.out.mono ?_
    rintro e w1 ⟨rfl, hB1⟩
    go_wp2_with fail
    refine (HTr.out _).mono ?_
    rintro e w2 ⟨rfl, n2, rfl⟩
    go_wp2_with fail
    refine (HB.out _).mono ?_
    rintro e w3 ⟨rfl, hB3⟩
    have hB2 := below_drews hB1 n2
    have hB := hB2.trans (hB3.mono hB2.size)
    have hT0 : Hid (Two w w3 (.slice none 0 0) (.slice none 0 0) (Cd.wideOf white.data.toList (T.data.toList.take 0)) (Cd.noPad (T.data.toList.take 0))) := ⟨World.ownsRow_nil _ _ _ _, World.ownsRow_nil _ _ _ _, .inl rfl, hB⟩
    clear hB hB1 hB2 hB3
    go_wp2_with fail
    go_loopw [9, 10, 11] (fun a b i wr => ∃ (k : Nat) (wv bv : Value), i = .int .i64 k ∧ a = wv ∧ b = bv ∧ k ≤ T.size ∧ Hid (Two w wr wv bv (Cd.wideOf white.data.toList (T.data.toList.take k)) (Cd.noPad (T.data.toList.take k)))) (fun _ _ i _ => T.size - (intOf i).toNat)
    case atStart => exact ⟨0, _, _, rfl, rfl, rfl, Nat.zero_le _, hT0.out⟩
    case round =>
      clear hT0
      obtain ⟨k, wv, bv, rfl, rfl, rfl, hk, HT⟩ := hrel
      by_cases hlt : k < T.size
      · obtain ⟨c, hc⟩ : ∃ c, T[k] = c := ⟨_, rfl⟩
        have hA := Cd.wide_next white.data.toList (T.data.toList.take k) c
        have hN := Cd.noPad_next (T.data.toList.take k) c
        rw [← hc, ← take_next T k hlt, hc] at hA hN
        have lA := Cd.wide_len white.data.toList (T.data.toList.take k)
        have lN := Cd.noPad_len (T.data.toList.take k)
        have lT : (T.data.toList.take k).length ≤ 40000 := by rw [List.length_take]; omega
        have hwl : white.data.toList.length ≤ 10 := by rw [← Lib.size_eq]; omega
        have lA2 : (Cd.wideOf white.data.toList (T.data.toList.take k)).length ≤ 440000 := by rw [lA]; exact Nat.mul_le_mul (show white.data.toList.length + 1 ≤ 11 by omega) lT
        have lN2 : (Cd.noPad (T.data.toList.take k)).length ≤ 40000 := Nat.le_trans lN lT
        obtain ⟨A, hAe⟩ : ∃ A, Cd.wideOf white.data.toList (T.data.toList.take k) = A := ⟨_, rfl⟩
        obtain ⟨B, hBe⟩ : ∃ A, Cd.noPad (T.data.toList.take k) = A := ⟨_, rfl⟩
        rw [hAe] at HT hA lA2
        rw [hBe] at HT hN lN2
        have LA := Lib.hid lA2
        have LB := Lib.hid lN2
        have HA := Lib.hid hA
        have HN := Lib.hid hN
        clear hA hN lA lN lT lA2 lN2 hAe hBe hwl
        have hwz : white.size ≤ 10 := by omega
        have HBS := Lib.hid HT.out.below.size
        have b1 : A.length + white.size ≤ 1000000000 := by have := LA.out; omega
        have HB1 := Lib.hid b1
        have b2 : (A ++ white.data.toList).length + 1 ≤ 1000000000 := by rw [List.length_append, ← Lib.size_eq]; have := LA.out; omega
        have HB2 := Lib.hid b2
        clear b1 b2
        go_wp2_with fail
        go_region_held3 (fun _ => True) (trivial) ((first
          | (refine step_app_str (by rfl) _ _ (by rfl) (by rfl) HT.out.drew.a white (by rfl) HB1.out HBS.out ?_; intro v1 z1 hA1 hG1 hS1; have H1 := Lib.hid (Two.grow HT.out.drew hA1.out hG1.out hS1.out); clear hA1 hG1 hS1)
          | (refine step_app_str (by rfl) _ _ (by rfl) (by rfl) (HT.out.alloc _).drew.a white (by rfl) HB1.out (HT.out.alloc _).below.size ?_; intro v1 z1 hA1 hG1 hS1; have H1 := Lib.hid (Two.grow (HT.out.alloc _).drew hA1.out hG1.out hS1.out); have HX := Lib.hid (cell_after HT.out hG1.out); clear hA1 hG1 hS1)
          | (refine step_app_bytes (by rfl) _ _ (by rfl) (by rfl) H1.out.a ⟨wr.heap.size, 0, none⟩ 1 1 [c] (by rfl) rfl HX.out HB2.out H1.out.below.size ?_; intro v2 z2 hA2 hG2 hS2; have H2 := Lib.hid (Two.grow H1.out hA2.out hG2.out hS2.out); clear hA2 hG2 hS2)
          | (refine step_app_bytes (by rfl) _ _ (by rfl) (by rfl) (H1.out.alloc _).a ⟨z1.heap.size, 0, none⟩ 1 1 [c] (by rfl) rfl (cell_one_new z1 _ _) HB2.out (H1.out.alloc _).below.size ?_; intro v2 z2 hA2 hG2 hS2; have H2 := Lib.hid (Two.grow (H1.out.alloc _) hA2.out hG2.out hS2.out); clear hA2 hG2 hS2)
          | fail))
        all_goals
          have H3 : Hid (Two w z2 v2 u10 (Cd.wideOf white.data.toList (T.data.toList.take (k + 1))) B) := by show Two _ _ _ _ _ _; rw [HA.out]; exact H2.out
          clear H1 H2 HA HB1 HB2 HBS LA
          have hNN := HN.out
          by_cases h61 : c = 61
          · rw [if_pos h61] at hNN
            have H4 : Hid (Two w z2 v2 u10 (Cd.wideOf white.data.toList (T.data.toList.take (k + 1))) (Cd.noPad (T.data.toList.take (k + 1)))) := by show Two _ _ _ _ _ _; rw [hNN]; exact H3.out
            subst h61
            clear HN hNN H3
            go_wp2
            go_roundw
            case rel => exact ⟨k + 1, _, _, by go_num, rfl, rfl, by omega, H4.out⟩
            case measure => simp [intOf]; omega
          · rw [if_neg h61] at hNN
            have q61 : ((c.toNat : Int) != 61) = true := by rw [bne_iff_ne]; intro e; exact h61 (by rw [← UInt8.toNat_inj]; simp; omega)
            have HN2 := Lib.hid hNN
            clear HN hNN h61
            go_wp2_with (at_builtin; go_must (refine wpList_app_bytes rfl _ _ rfl rfl (H3.out.alloc _).b ⟨z2.heap.size, 0, none⟩ 1 1 [c] rfl rfl (cell_one_new z2 _ _) ?c1 (H3.out.alloc _).below.size ?_))
            case c1 => have := LB.out; omega
            intro v3 z3 hA3 hG3 hS3
            have H5 := Lib.hid (Two.grow (H3.out.alloc _).flip hA3.out hG3.out hS3.out).flip
            have H4 : Hid (Two w z3 v2 v3 (Cd.wideOf white.data.toList (T.data.toList.take (k + 1))) (Cd.noPad (T.data.toList.take (k + 1)))) := by show Two _ _ _ _ _ _; rw [HN2.out]; exact H5.out
            clear hA3 hG3 hS3 HN2 H3 H5
            go_wp2
            go_roundw
            case rel => exact ⟨k + 1, _, _, by go_num, rfl, rfl, by omega, H4.out⟩
            case measure => simp [intOf]; omega
      · obtain rfl : k = T.size := by omega
        have hTT := HT.out
        rw [List.take_of_length_le (by rw [← Lib.size_eq]; exact Nat.le_refl _), ← HTl.out] at hTT
        have lA := Cd.wide_len white.data.toList (Cd.base64 s.data.toList)
        have lN := Cd.noPad_len (Cd.base64 s.data.toList)
        have lT : (Cd.base64 s.data.toList).length ≤ 40000 := by rw [HTl.out, ← Lib.size_eq]; exact zT
        have hwl : white.data.toList.length ≤ 10 := by rw [← Lib.size_eq]; omega
        have lA2 : (Cd.wideOf white.data.toList (Cd.base64 s.data.toList)).length ≤ 440000 := by rw [lA]; exact Nat.mul_le_mul (show white.data.toList.length + 1 ≤ 11 by omega) lT
        have e1 := Cd.unb_wide s.data.toList white.data.toList hW
        have e2 := Cd.unb_bare s.data.toList
        have e3 := fun h1 h2 h3 => Cd.unb_other s.data.toList (c := o) h1 h2 h3
        have cv1 := hTT.a.back
        have CV2 := Lib.hid (fun W (h : Below wr.heap.size wr W) => (own_below hTT.b h).back)
        have HBB := Lib.hid hTT.below
        obtain ⟨A, hA⟩ : ∃ x : ByteArray, (⟨(Cd.wideOf white.data.toList (Cd.base64 s.data.toList)).toArray⟩ : ByteArray) = x := ⟨_, rfl⟩
        obtain ⟨B, hB⟩ : ∃ x : ByteArray, (⟨(Cd.noPad (Cd.base64 s.data.toList)).toArray⟩ : ByteArray) = x := ⟨_, rfl⟩
        have zA : A.size ≤ 440000 := by rw [← hA, Tx.bs_len]; exact lA2
        have zB : B.size ≤ 40000 := by rw [← hB, Tx.bs_len]; omega
        have dA : A.data.toList = Cd.wideOf white.data.toList (Cd.base64 s.data.toList) := by rw [← hA]
        have dB : B.data.toList = Cd.noPad (Cd.base64 s.data.toList) := by rw [← hB]
        rw [hA] at cv1
        rw [hB] at CV2
        have U1 := Lib.hid (fun w h => unbase64_to (s := A ++ white) (o := s.data.toList) (ok := true) (by rw [data_append, dA]; exact e1) (by rw [ByteArray.size_append]; omega) w h)
        have U2 := Lib.hid (fun w h => unbase64_to (s := B) (o := s.data.toList) (by rw [dB]; exact e2) (by omega) w h)
        have U3 := Lib.hid (fun (h1 : Tx.isW o = false) (h2 : Cd.isDig64 o = false) (h3 : o ≠ 61) w h => unbase64_to (s := B ++ ⟨#[o]⟩ ++ T) (o := s.data.toList) (ok := false) (by rw [data_append, data_append, dB, ← HTl.out]; exact e3 h1 h2 h3) (by rw [ByteArray.size_append, ByteArray.size_append]; show B.size + 1 + T.size ≤ _; omega) w h)
        rw [Lib.mk_data] at U1 U2 U3
        have hmd : decide (s.size % 3 = 0) = ((s.size : Int) % 3 == 0) := by
          by_cases h : s.size % 3 = 0
          · rw [decide_eq_true h, eq_comm, beq_iff_eq]; omega
          · rw [decide_eq_false h, eq_comm, beq_eq_false_iff_ne]; omega
        rw [← Lib.size_eq, hmd] at U2
        clear hmd
        clear hTT HT lA lN lT hwl lA2 e1 e2 e3 hA hB dA dB HTl HB HTr hk hlt
        have hmr := hm.below HBB.out hp
        go_wp2_with fail
        refine (U1.out _ hmr).mono ?_
        rintro e x1 ⟨rfl, hX1⟩
        have cv2 := CV2.out _ hX1
        have hm1 := hmr.below hX1 (Nat.lt_of_lt_of_le hp HBB.out.size)
        go_wp2_with fail
        refine (U2.out _ hm1).mono ?_
        rintro e x2 ⟨rfl, hX2⟩
        have hX := hX1.trans (hX2.mono hX1.size)
        clear hX1 hX2 cv1 cv2 U1 U2
        have hm2 := hmr.below hX (Nat.lt_of_lt_of_le hp HBB.out.size)
        have hBt := HBB.out.trans (hX.mono HBB.out.size)
        have cv3 := CV2.out _ hX
        have cv4 := fun n => CV2.out _ (below_drews hX n)
        clear CV2 hm1
        cases hw : Tx.isW o with
        | true =>
          have HW := Lib.hid (fun W => refWhite_to hw W)
          obtain ⟨g1, g2, g3, g4, g5, g6, g7⟩ := Cd.white_small hw
          clear hw U3 cv3 cv4 hW
          go_wp2_with (go_at_call 15; (with_reducible refine (HW.out _).mono ?_); rintro e wk ⟨rfl, nk, rfl⟩)
          all_goals
            go_ret
            exact ⟨rfl, below_drews hBt nk⟩
        | false =>
          have HW := Lib.hid (fun W => refWhite_to hw W)
          have HU := Lib.hid (fun hd hp => U3.out hw hd hp)
          have cv5 := conv_new o x2
          have cv6 := conv_one o x2
          clear hw U3 hW
          go_wp2_with (go_at_call 15; (with_reducible refine (HW.out _).mono ?_); rintro e wk ⟨rfl, nk, rfl⟩)
          all_goals try (go_ret; first | exact ⟨rfl, hBt⟩ | exact ⟨rfl, below_drews hBt nk⟩)
          all_goals
            have hd : Cd.isDig64 o = false := by
              cases e : Cd.isDig64 o with
              | false => rfl
              | true => have := Cd.dig_range e; omega
            have ho : o ≠ 61 := fun e => by have : (o.toNat : Int) = 61 := by rw [e]; rfl
                                            omega
            have HV : Hid (∀ W, Below x2.heap.size x2 W → Calls Tryd.prog 9 #[.string (B ++ ⟨#[o]⟩ ++ T)] W fun e w' => e = .returned (.tuple #[.string s, .bool false]) ∧ Below w.heap.size w w') :=
              fun W h => (HU.out hd ho W (hm2.below h (Nat.lt_of_lt_of_le hp hBt.size))).mono (fun e w' h' => ⟨h'.1, hBt.trans ((h.trans (h'.2.mono h.size)).mono hBt.size)⟩)
            clear hd ho HU
            go_wp2_with fail
            refine (HV.out _ ?m).mono ?_
            case m => first | exact (Below.refl _ x2).alloc (Nat.le_refl _) _ | exact (below_drews (Below.refl _ x2) nk).alloc (by rw [World.heap_drewN]; exact Nat.le_refl _) _
            rintro e x4 ⟨rfl, hX4⟩
            go_wp2
            go_ret
            exact ⟨ret_true (by simp), hX4⟩
end Go.Proofs.YtehnjoggilomfaaDoor
