/-
  The law on words: its walk.
-/
import Derived.Test.YtpigplnnmhjbkaaDoorAppend
namespace Go.Proofs.YtpigplnnmhjbkaaDoor
open Go Go.RowKit Go.Shelf

set_option maxHeartbeats 8000000 in
set_option maxRecDepth 100000 in
theorem words_short (s t X Q : ByteArray) (L M : List (List UInt8)) (w : World) (hm : MaxAt w) (hs : s.size ≤ 300) (ht : t.size ≤ 300) (hL : Tx.words s.data.toList = L) (hM : Tx.words t.data.toList = M)
    (hX : ⟨(Tx.trim s.data.toList).toArray⟩ = X) (hQ : ⟨(Tx.squeeze s.data.toList).toArray⟩ = Q) :
    Calls Tryd.prog 5 #[.string s, .string t] w fun e w' => e = .returned (.bool true) ∧ Below w.heap.size w w' := by
  have hXl : X.data.toList = Tx.trim s.data.toList := by rw [← hX]
  have hQl : Q.data.toList = Tx.squeeze s.data.toList := by rw [← hQ]
  have hBl : (s ++ ⟨#[10]⟩ ++ t).data.toList = s.data.toList ++ 10 :: t.data.toList := by simp
  have hBs : (s ++ ⟨#[10]⟩ ++ t).size = s.size + 1 + t.size := by rw [Lib.size_eq, hBl, Lib.size_eq, Lib.size_eq]; simp; omega
  have hXs : X.size ≤ 300 := by rw [Lib.size_eq, hXl]; have := Tx.trim_len s.data.toList; rw [← Lib.size_eq] at this; omega
  have hQs : Q.size ≤ 90300 := by
    rw [Lib.size_eq, hQl]
    have := Tx.squeeze_len s.data.toList
    rw [← Lib.size_eq] at this
    have h2 : s.size * (s.size + 1) ≤ 300 * 301 := Nat.mul_le_mul hs (by omega)
    omega
  have hLl : L.length ≤ 300 := by rw [← hL]; have := Tx.words_len s.data.toList; rw [← Lib.size_eq] at this; omega
  have hMl : M.length ≤ 300 := by rw [← hM]; have := Tx.words_len t.data.toList; rw [← Lib.size_eq] at this; omega
  have HM := Lib.hid hm
  have F1 := Lib.hid (fun W => fields_text hL (by omega) W)
  have F2 := Lib.hid (fun W => trim_text hX (by omega) W)
  have F3 := Lib.hid (fun W => trim_text (s := X) (X := X) (by rw [hXl, Tx.trim_trim, ← hXl, Lib.mk_data]) (by omega) W)
  have F4 := Lib.hid (fun W => fields_text (s := X) (L := L) (by rw [hXl, Tx.words_of_trim, hL]) (by omega) W)
  have F5 := Lib.hid (fun W => squeeze_text hQ (by omega) W)
  have F6 := Lib.hid (fun W => squeeze_text (s := Q) (Q := Q) (by rw [hQl, Tx.squeeze_squeeze, ← hQl, Lib.mk_data]) (by omega) W)
  have F7 := Lib.hid (fun W => fields_text (s := Q) (L := L) (by rw [hQl, Tx.words_squeeze, hL]) (by omega) W)
  have F8 := Lib.hid (fun W => fields_text (s := s ++ ⟨#[10]⟩ ++ t) (L := L ++ M) (by rw [hBl, Tx.words_between _ _ _ rfl, hL, hM]) (by omega) W)
  have F9 := Lib.hid (fun W => fields_text hM (by omega) W)
  have hLa := Lib.hid (fun x (hx : x ∈ L) => (show x ≠ [] ∧ ∀ c ∈ x, Tx.isW c = false from by rw [← hL] at hx; exact ⟨Tx.words_ne _ x hx, (Tx.words_all _ x hx).1⟩))
  have hLz := Lib.hid (fun x (hx : x ∈ L) => (show x.length ≤ 300 from by rw [← hL] at hx; have := (Tx.words_all _ x hx).2; rw [← Lib.size_eq] at this; omega))
  have hst : Hid (Tx.OutW s.data.toList L 0) := ⟨Nat.zero_le _, by rw [List.drop_zero]; exact hL⟩
  have hXf := Lib.hid (fun c (h : (X.data.toList).head? = some c) => Tx.trim_first s.data.toList c (by rw [← hXl]; exact h))
  have hXe := Lib.hid (fun c (h : (X.data.toList).getLast? = some c) => Tx.trim_last s.data.toList c (by rw [← hXl]; exact h))
  have HSz := Lib.hid (Lib.size_eq s)
  clear hm hL hM hX hQ hXl hQl hBl hBs
  go_enter Tryd.func5, Tryd.ntmps5
  go_wp2_with fail
  refine (small_any _ HM.out).mono ?_
  rintro e w1 ⟨rfl, hB1⟩
  go_wp2_with fail
  refine (F1.out _).mono ?_
  rintro e w2 ⟨xa, b, cap, rfl, hr, hB2⟩
  have hbw := Lib.hid (hB1.trans (hB2.mono hB1.size))
  have HR := Lib.hid hr
  clear hr hB1 hB2
  go_wp2_with fail
  go_loopw [7, 8] (fun kk i wr => ∃ k j : Nat, kk = .int .i64 k ∧ i = .int .i64 j ∧ j ≤ L.length ∧ Hid (Tx.OutW s.data.toList (L.drop j) k) ∧ Hid (Below w2.heap.size w2 wr)) (fun _ i _ => L.length - (intOf i).toNat)
  case atStart => exact ⟨0, 0, rfl, rfl, Nat.zero_le _, by rw [List.drop_zero]; exact hst, Below.refl _ _⟩
  case round =>
    obtain ⟨k, j, rfl, rfl, hj, hout, hbr⟩ := hrel
    have hk : k ≤ s.size := by rw [HSz.out]; exact hout.out.1
    by_cases hlt : j < L.length
    · obtain rfl := HR.out.at_ (by omega)
      obtain ⟨y, hy⟩ : ∃ y : ByteArray, encStr L[j] = .string y := ⟨_, rfl⟩
      have hyl : y.data.toList = L[j] := by
        have : (⟨L[j].toArray⟩ : ByteArray) = y := by injection hy
        rw [← this]
      have hc : w2.cell? ⟨b, j, none⟩ = some (.string y) := by
        have := HR.out.cell j _ (List.getElem?_eq_getElem hlt)
        rw [Nat.zero_add] at this
        rw [this, hy]
      have hmem : L[j] ∈ L := List.getElem_mem hlt
      have hne := (hLa.out _ hmem).1
      have hnw := Lib.hid (hLa.out _ hmem).2
      have hys : y.size ≤ 300 := by rw [Lib.size_eq, hyl]; exact hLz.out _ hmem
      have hyp : 0 < y.size := by rw [Lib.size_eq, hyl]; exact List.length_pos_iff.2 hne
      have hemp : y.toList.isEmpty = false := by
        rw [Lib.toList_data, hyl]
        cases e : L[j] with
        | nil => exact absurd e hne
        | cons _ _ => rfl
      have hin : Tx.InW s.data.toList y.data.toList (L.drop (j + 1)) 0 k := by
        rw [hyl]
        refine Tx.InW.start ?_
        rw [← List.drop_eq_getElem_cons hlt]
        exact hout.out
      rw [← hyl] at hnw hne
      have HN := Lib.hid hne
      have HC := Lib.hid hc
      have HI := Lib.hid hin
      have HY := Lib.hid (Lib.size_eq y)
      have c0 : wr.cell? ⟨b, j, none⟩ = some (.string y) := (hbr.out.cell (p := ⟨b, j, none⟩) (HR.out.lt (by omega))).trans hc
      have HLt := Lib.hid (HR.out.lt (by omega))
      clear hy hyl hmem hne hin hc hout
      go_wp2
      obtain ⟨wo, rfl⟩ : ∃ wo : World, wo = wr := ⟨_, rfl⟩
      go_loopw [7, 9] (fun kk jj wr => ∃ k m : Nat, kk = .int .i64 k ∧ jj = .int .i64 m ∧ m ≤ y.size ∧ Hid (Tx.InW s.data.toList y.data.toList (L.drop (j + 1)) m k) ∧ Hid (Below w2.heap.size w2 wr)) (fun _ jj _ => y.size - (intOf jj).toNat)
      case atStart => exact ⟨k, 0, rfl, rfl, Nat.zero_le _, HI.out, hbr.out⟩
      case round =>
        obtain ⟨k, m, rfl, rfl, hmy, hin, hbi⟩ := hrel
        have hk : k ≤ s.size := by rw [HSz.out]; exact hin.out.1
        have c1 : wr.cell? ⟨b, j, none⟩ = some (.string y) := (hbi.out.cell (p := ⟨b, j, none⟩) HLt.out).trans HC.out
        by_cases hm2 : m < y.size
        · go_wp2
          obtain ⟨wi, rfl⟩ : ∃ wi : World, wi = wr := ⟨_, rfl⟩
          go_loopw [7] (fun kk wr => ∃ k : Nat, kk = .int .i64 k ∧ Hid (Tx.InW s.data.toList y.data.toList (L.drop (j + 1)) m k) ∧ Hid (Below w2.heap.size w2 wr)) (fun kk _ => s.size - (intOf kk).toNat)
          case atStart => exact ⟨k, rfl, hin.out, hbi.out⟩
          case round =>
            obtain ⟨k, rfl, hin, hbi⟩ := hrel
            have hk : k < s.size := by rw [HSz.out]; exact hin.out.lt (by rw [← HY.out]; exact hm2)
            have gS := Tx.get_of s k hk
            have gY := Tx.get_of y m hm2
            obtain ⟨c, hck⟩ : ∃ c, s[k] = c := ⟨_, rfl⟩
            rw [hck] at gS
            cases hw : Tx.isW c with
            | true =>
              have HW := Lib.hid (fun W => white_to hw W)
              have HX := Lib.hid (hin.out.white (by rw [← HY.out]; exact hm2) hnw.out gS hw)
              clear gS gY hw
              go_wp2_with fail
              refine (HW.out _).mono ?_
              rintro e wk ⟨rfl, nk, rfl⟩
              go_wp2
              go_roundw
              case rel => exact ⟨k + 1, by go_num, HX.out, below_drews hbi.out _⟩
              case measure => simp [intOf]; omega
            | false =>
              have HW := Lib.hid (fun W => white_to hw W)
              have hnx := hin.out.next gY gS hw
              have HX := Lib.hid hnx.2
              obtain ⟨d, hd⟩ : ∃ d, y[m] = d := ⟨_, rfl⟩
              have hcd : c = d := by rw [← hd]; exact hnx.1
              rw [hcd] at hck HW
              have c2 : wr.cell? ⟨b, j, none⟩ = some (.string y) := (hbi.out.cell (p := ⟨b, j, none⟩) HLt.out).trans HC.out
              have hkne : ((k : Int) == (s.size : Int)) = false := by rw [beq_eq_false_iff_ne]; omega
              clear gS gY hw hnx hcd
              go_wp2_with fail
              refine (HW.out _).mono ?_
              rintro e wk ⟨rfl, nk, rfl⟩
              go_wp2
              go_quiet (fail)
              go_wp2
              go_roundw
              case rel => exact ⟨k + 1, m + 1, by go_num, by go_num, by omega, HX.out, below_drews hbi.out _⟩
              case measure => simp [intOf]; omega
        · have hme : m = y.size := by omega
          have HE := Lib.hid (hin.out.end_ (by rw [hme]; exact HY.out) HN.out)
          go_wp2
          go_roundw
          case rel => exact ⟨k, j + 1, rfl, by go_num, by omega, HE.out, hbi.out⟩
          case measure => simp [intOf]; omega
    · have hje : L.drop j = [] := List.drop_of_length_le (by omega)
      rw [hje] at hout
      have hbr2 := hbr
      clear hbr hje
      go_wp2
      obtain ⟨wo, rfl⟩ : ∃ wo : World, wo = wr := ⟨_, rfl⟩
      go_loopw [7] (fun kk wr => ∃ k : Nat, kk = .int .i64 k ∧ Hid (Tx.OutW s.data.toList [] k) ∧ Hid (Below w2.heap.size w2 wr)) (fun kk _ => s.size - (intOf kk).toNat)
      case atStart => exact ⟨k, rfl, hout.out, hbr2.out⟩
      case round =>
        obtain ⟨k, rfl, hout, hbr⟩ := hrel
        have hk : k ≤ s.size := by rw [HSz.out]; exact hout.out.1
        by_cases hlt2 : k < s.size
        · have gS := Tx.get_of s k hlt2
          obtain ⟨c, hck⟩ : ∃ c, s[k] = c := ⟨_, rfl⟩
          rw [hck] at gS
          have hnx := hout.out.white gS
          have HW := Lib.hid (fun W => white_to hnx.1 W)
          have HX := Lib.hid hnx.2
          clear gS hnx
          go_wp2_with fail
          refine (HW.out _).mono ?_
          rintro e wk ⟨rfl, nk, rfl⟩
          go_wp2
          go_roundw
          case rel => exact ⟨k + 1, by go_num, HX.out, below_drews hbr.out _⟩
          case measure => simp [intOf]; omega
        · have hke : ((k : Int) != (s.size : Int)) = false := by rw [show k = s.size by omega]; simp
          go_wp2_with fail
          refine (F2.out _).mono ?_
          rintro e x1 ⟨rfl, hC1⟩
          have hb1 := hbr.out.trans (hC1.mono hbr.out.size)
          clear hC1
          by_cases hX0 : X.size = 0
          · have hXe : X.toList.isEmpty = true := by rw [Lib.toList_data]; cases e : X.data.toList with | nil => rfl | cons _ _ => have := Lib.size_eq X; rw [e, List.length_cons] at this; omega
            go_wp2_with fail
            refine (F3.out _).mono ?_
            rintro e x2 ⟨rfl, hC2⟩
            have hb2 := hb1.trans (hC2.mono hb1.size)
            clear hC2 hb1
            go_wp2_with fail
            refine (F4.out _).mono ?_
            rintro e x3 ⟨ya, b3, cap3, rfl, hr3, hC3⟩
            have hb3 := hb2.trans (hC3.mono hb2.size)
            have hl3 := Lib.hid (strings_rows hr3 (HR.out.below hb3) (by omega))
            clear hC3 hb2 hr3
            go_wp2_with fail
            refine hl3.out.mono ?_
            rintro e x4 ⟨rfl, n4, rfl⟩
            clear hl3
            go_wp2_with fail
            refine (F5.out _).mono ?_
            rintro e x5 ⟨rfl, hC5⟩
            have hb5 := (below_drews hb3 n4).trans (hC5.mono hb3.size)
            clear hC5 hb3
            go_wp2_with fail
            refine (F8.out _).mono ?_
            rintro e x6 ⟨za, b6, cap6, rfl, hr6, hC6⟩
            have hb6 := hb5.trans (hC6.mono hb5.size)
            clear hC6 hb5
            have HR6 := Lib.hid hr6
            clear hr6
            go_wp2_with fail
            refine (F6.out _).mono ?_
            rintro e x7 ⟨rfl, hC7⟩
            have hb7 := hb6.trans (hC7.mono hb6.size)
            have HR7 := Lib.hid (HR6.out.below hC7)
            clear hC7 hb6 HR6
            go_wp2_with fail
            refine (F7.out _).mono ?_
            rintro e x8 ⟨ua, b8, cap8, rfl, hr8, hC8⟩
            have hb8 := hb7.trans (hC8.mono hb7.size)
            have HR8 := Lib.hid (HR7.out.below hC8)
            have hl8 := Lib.hid (strings_rows hr8 (HR.out.below hb8) (by omega))
            clear hC8 hb7 HR7 hr8
            go_wp2_with fail
            refine hl8.out.mono ?_
            rintro e x9 ⟨rfl, n9, rfl⟩
            clear hl8
            have hown0 : ((x8.drewN n9).alloc (.cells #[] 9)).ownsRow x8.heap.size 9 1 (.slice (some ⟨x8.heap.size, 0, none⟩) 0 0) 0 [] := World.ownsRow_made (base := x8.heap.size) (size := 1) (x8.drewN n9) #[] 0 (Nat.le_refl _) (by unfold maxLen; omega) (by simp)
            have A0 : Below x8.heap.size x8 ((x8.drewN n9).alloc (.cells #[] 9)) := (below_drews (Below.refl _ _) n9).alloc (Nat.le_refl _) _
            have hr0 := (HR.out.below hb8).below A0
            go_wp2_with (at_builtin; refine wpList_append_rows rfl _ _ rfl x8.heap.size (.slice (some ⟨x8.heap.size, 0, none⟩) 0 0) 0 [] rfl hown0 rfl hr0 (by omega) (by simp) ?_; intro v1 z1 hown1 hg1)
            have A1 : Below x8.heap.size x8 z1 := A0.grown hg1 A0.size (fun k e => (hown0.lt k e).1)
            clear hg1 hown0 A0 hr0
            refine (F9.out _).mono ?_
            rintro e z2 ⟨ta, b9, cap9, rfl, hr9, hC9⟩
            have A2 : Below x8.heap.size x8 z2 := A1.trans (hC9.mono A1.size)
            have hown2 := own_below hown1 hC9
            clear A1 hC9 hown1
            go_wp2_with (at_builtin; refine wpList_append_rows rfl _ _ rfl x8.heap.size v1 (0 + L.length) ([] ++ L.map encStr) rfl hown2 rfl hr9 (by omega) A2.size ?_; intro v2 z3 hown3 hg3)
            have A3 : Below x8.heap.size x8 z3 := A2.grown hg3 A2.size (fun k e => (hown2.lt k e).1)
            have hown4 : z3.ownsRow x8.heap.size 9 1 v2 (L ++ M).length ((L ++ M).map encStr) := by rw [List.length_append, List.map_append]; simpa using hown3
            obtain ⟨va, vb, vcap, hrv⟩ := rowOf_own hown4
            have ev := hrv.is
            rw [List.length_append] at ev
            subst ev
            have hl := strings_rows (HR8.out.below A3) hrv (by rw [List.length_append]; omega)
            rw [List.length_append] at hl
            refine hl.mono ?_
            rintro e zz ⟨rfl, nz, rfl⟩
            go_wp2
            go_ret
            exact ⟨rfl, below_drews (hbw.out.trans ((hb8.trans (A3.mono hb8.size)).mono hbw.out.size)) nz⟩
          · have hXe2 : X.toList.isEmpty = false := by rw [Lib.toList_data]; cases e : X.data.toList with | nil => (have := Lib.size_eq X; rw [e, List.length_nil] at this; omega) | cons _ _ => rfl
            obtain ⟨nX, hnX⟩ : ∃ nX, X.size = nX + 1 := ⟨X.size - 1, by omega⟩
            have g0 := Tx.get_of X 0 (by omega)
            have g1 := Tx.get_of X nX (by omega)
            obtain ⟨c0, hc0⟩ : ∃ c, X[0]'(by omega) = c := ⟨_, rfl⟩
            obtain ⟨c1, hc1⟩ : ∃ c, X[nX]'(by omega) = c := ⟨_, rfl⟩
            rw [hc0] at g0
            rw [hc1] at g1
            have HW0 := Lib.hid (fun W => white_to (hXf.out c0 (by rw [List.head?_eq_getElem?]; exact g0)) W)
            have HW1 := Lib.hid (fun W => white_to (hXe.out c1 (by rw [List.getLast?_eq_getElem?, ← Lib.size_eq, hnX]; exact g1)) W)
            clear g0 g1
            go_wp2_with fail
            refine (HW0.out _).mono ?_
            rintro e y1 ⟨rfl, m1, rfl⟩
            go_wp2_with fail
            refine (HW1.out _).mono ?_
            rintro e y2 ⟨rfl, m2, rfl⟩
            have hb1 := below_drews hb1 (m1 + m2)
            go_wp2_with fail
            refine (F3.out _).mono ?_
            rintro e x2 ⟨rfl, hC2⟩
            have hb2 := hb1.trans (hC2.mono hb1.size)
            clear hC2 hb1
            go_wp2_with fail
            refine (F4.out _).mono ?_
            rintro e x3 ⟨ya, b3, cap3, rfl, hr3, hC3⟩
            have hb3 := hb2.trans (hC3.mono hb2.size)
            have hl3 := Lib.hid (strings_rows hr3 (HR.out.below hb3) (by omega))
            clear hC3 hb2 hr3
            go_wp2_with fail
            refine hl3.out.mono ?_
            rintro e x4 ⟨rfl, n4, rfl⟩
            clear hl3
            go_wp2_with fail
            refine (F5.out _).mono ?_
            rintro e x5 ⟨rfl, hC5⟩
            have hb5 := (below_drews hb3 n4).trans (hC5.mono hb3.size)
            clear hC5 hb3
            go_wp2_with fail
            refine (F8.out _).mono ?_
            rintro e x6 ⟨za, b6, cap6, rfl, hr6, hC6⟩
            have hb6 := hb5.trans (hC6.mono hb5.size)
            clear hC6 hb5
            have HR6 := Lib.hid hr6
            clear hr6
            go_wp2_with fail
            refine (F6.out _).mono ?_
            rintro e x7 ⟨rfl, hC7⟩
            have hb7 := hb6.trans (hC7.mono hb6.size)
            have HR7 := Lib.hid (HR6.out.below hC7)
            clear hC7 hb6 HR6
            go_wp2_with fail
            refine (F7.out _).mono ?_
            rintro e x8 ⟨ua, b8, cap8, rfl, hr8, hC8⟩
            have hb8 := hb7.trans (hC8.mono hb7.size)
            have HR8 := Lib.hid (HR7.out.below hC8)
            have hl8 := Lib.hid (strings_rows hr8 (HR.out.below hb8) (by omega))
            clear hC8 hb7 HR7 hr8
            go_wp2_with fail
            refine hl8.out.mono ?_
            rintro e x9 ⟨rfl, n9, rfl⟩
            clear hl8
            have hown0 : ((x8.drewN n9).alloc (.cells #[] 9)).ownsRow x8.heap.size 9 1 (.slice (some ⟨x8.heap.size, 0, none⟩) 0 0) 0 [] := World.ownsRow_made (base := x8.heap.size) (size := 1) (x8.drewN n9) #[] 0 (Nat.le_refl _) (by unfold maxLen; omega) (by simp)
            have A0 : Below x8.heap.size x8 ((x8.drewN n9).alloc (.cells #[] 9)) := (below_drews (Below.refl _ _) n9).alloc (Nat.le_refl _) _
            have hr0 := (HR.out.below hb8).below A0
            go_wp2_with (at_builtin; refine wpList_append_rows rfl _ _ rfl x8.heap.size (.slice (some ⟨x8.heap.size, 0, none⟩) 0 0) 0 [] rfl hown0 rfl hr0 (by omega) (by simp) ?_; intro v1 z1 hown1 hg1)
            have A1 : Below x8.heap.size x8 z1 := A0.grown hg1 A0.size (fun k e => (hown0.lt k e).1)
            clear hg1 hown0 A0 hr0
            refine (F9.out _).mono ?_
            rintro e z2 ⟨ta, b9, cap9, rfl, hr9, hC9⟩
            have A2 : Below x8.heap.size x8 z2 := A1.trans (hC9.mono A1.size)
            have hown2 := own_below hown1 hC9
            clear A1 hC9 hown1
            go_wp2_with (at_builtin; refine wpList_append_rows rfl _ _ rfl x8.heap.size v1 (0 + L.length) ([] ++ L.map encStr) rfl hown2 rfl hr9 (by omega) A2.size ?_; intro v2 z3 hown3 hg3)
            have A3 : Below x8.heap.size x8 z3 := A2.grown hg3 A2.size (fun k e => (hown2.lt k e).1)
            have hown4 : z3.ownsRow x8.heap.size 9 1 v2 (L ++ M).length ((L ++ M).map encStr) := by rw [List.length_append, List.map_append]; simpa using hown3
            obtain ⟨va, vb, vcap, hrv⟩ := rowOf_own hown4
            have ev := hrv.is
            rw [List.length_append] at ev
            subst ev
            have hl := strings_rows (HR8.out.below A3) hrv (by rw [List.length_append]; omega)
            rw [List.length_append] at hl
            refine hl.mono ?_
            rintro e zz ⟨rfl, nz, rfl⟩
            go_wp2
            go_ret
            exact ⟨rfl, below_drews (hbw.out.trans ((hb8.trans (A3.mono hb8.size)).mono hbw.out.size)) nz⟩
end Go.Proofs.YtpigplnnmhjbkaaDoor
