/-
  CodecLines: the law walked.
-/
import Derived.Test.YtehnjoggilomfaaDoorCFitW
namespace Go.Proofs.YtehnjoggilomfaaDoor
open Go Go.RowKit Go.Shelf
theorem last_at {A : ByteArray} {c : UInt8} (h : A.data.toList.getLast? = some c) : ∃ h0 : A.size - 1 < A.size, A[A.size - 1]'h0 = c := by
  have hl := Lib.size_eq A
  have h0 : 0 < A.size := by
    cases hA : A.data.toList with
    | nil => rw [hA] at h; cases h
    | cons a r => rw [hA] at hl; simp at hl; omega
  refine ⟨by omega, ?_⟩
  have h1 := Tx.get_of A (A.size - 1) (by omega)
  rw [List.getLast?_eq_getElem?, ← hl, h1] at h
  exact Option.some.inj h
theorem solid_at {C : ByteArray} (h : ∀ c ∈ C.data.toList, Cd.solid c = true) (i : Nat) (hi : i < C.size) : 33 ≤ ((C[i]'hi).toNat : Int) ∧ ((C[i]'hi).toNat : Int) ≤ 126 ∧ Tx.isW (C[i]'hi) = false := by
  have hm : C[i]'hi ∈ C.data.toList := List.mem_of_getElem? (Tx.get_of C i hi)
  have hs := h _ hm
  have hw := (Cd.solid_good hs false)
  unfold Cd.solid at hs
  rw [Bool.and_eq_true, decide_eq_true_eq, decide_eq_true_eq, UInt8.le_iff_toNat_le, UInt8.le_iff_toNat_le] at hs
  obtain ⟨a, b⟩ := hs
  have a : 33 ≤ (C[i]'hi).toNat := a
  have b : (C[i]'hi).toNat ≤ 126 := b
  refine ⟨by omega, by omega, ?_⟩
  have H : ∀ k : Fin 256, Cd.solid (UInt8.ofNat k.val) = true → Tx.isW (UInt8.ofNat k.val) = false := by decide +kernel
  have := H ⟨(C[i]'hi).toNat, UInt8.toNat_lt _⟩
  simp only [UInt8.ofNat_toNat] at this
  exact this (h _ hm)

set_option maxHeartbeats 4000000 in
set_option maxRecDepth 100000 in
theorem lines7_any (s : ByteArray) (w : World) (hm : MaxAt w) (hs : s.size ≤ 9223372036854775807) :
    Calls Tryd.prog 4 #[.string s] w fun e w' => e = .returned (.bool true) ∧ Below w.heap.size w w' := by
  have HSm := Lib.hid (small_any w hm)
  by_cases h2 : 2000 < (s.size : Int)
  · go_enter Tryd.func4, Tryd.ntmps4
    go_wp2_with fail
    refine HSm.out.mono ?_
    rintro e w1 ⟨rfl, hB1⟩
    go_wp2
    go_ret
    exact ⟨rfl, hB1⟩
  · have h3 : (s.size : Int) ≤ 2000 := by omega
    have hl := Lib.size_eq s
    have b1 := Cd.base_len s.data.toList
    have b2 := Cd.quo_len s.data.toList 0
    have b3 := Cd.percent_len s.data.toList
    have HB := Lib.hid (fun w => base64_any s w (by omega))
    have HQ := Lib.hid (fun w => quoted_any s w (by omega))
    have HP := Lib.hid (fun w => percent_any s w (by omega))
    have hca : (s.toList.isEmpty = true ∧ (⟨(Cd.base64 s.data.toList).toArray⟩ : ByteArray).toList.isEmpty = true) ∨
        (s.toList.isEmpty = false ∧ (⟨(Cd.base64 s.data.toList).toArray⟩ : ByteArray).toList.isEmpty = false ∧ (⟨(Cd.base64 s.data.toList).toArray⟩ : ByteArray).data.toList.getLast? = some 10) := by
      cases hL : s.data.toList with
      | nil => exact .inl ⟨string_nil hL, string_nil (by rw [Cd.base_nil])⟩
      | cons c r =>
        obtain ⟨h1, h2⟩ := Cd.base_end (c :: r) (by simp)
        refine .inr ⟨string_cons hL, ?_, h2⟩
        rw [Lib.toList_data]
        cases hb : Cd.base64 (c :: r) with
        | nil => exact absurd hb h1
        | cons d t => rfl
    have hfa := Cd.fit_base _ s.data.toList (Nat.le_refl _)
    have hfb := Cd.fit_quoted s.data.toList
    have hso := Cd.percent_solid s.data.toList
    have za : (⟨(Cd.base64 s.data.toList).toArray⟩ : ByteArray).size ≤ 200000 := by rw [Tx.bs_len]; omega
    have zb : (⟨(Cd.quoted s.data.toList).toArray⟩ : ByteArray).size ≤ 200000 := by rw [Tx.bs_len]; unfold Cd.quoted; omega
    have zc : (⟨(Cd.percent s.data.toList).toArray⟩ : ByteArray).size ≤ 200000 := by rw [Tx.bs_len]; omega
    obtain ⟨A, hA⟩ : ∃ A : ByteArray, (⟨(Cd.base64 s.data.toList).toArray⟩ : ByteArray) = A := ⟨_, rfl⟩
    obtain ⟨Q, hQ⟩ : ∃ A : ByteArray, (⟨(Cd.quoted s.data.toList).toArray⟩ : ByteArray) = A := ⟨_, rfl⟩
    obtain ⟨C, hC⟩ : ∃ A : ByteArray, (⟨(Cd.percent s.data.toList).toArray⟩ : ByteArray) = A := ⟨_, rfl⟩
    have hAd : Cd.base64 s.data.toList = A.data.toList := by rw [← hA]
    have hQd : Cd.quoted s.data.toList = Q.data.toList := by rw [← hQ]
    have hCd : Cd.percent s.data.toList = C.data.toList := by rw [← hC]
    rw [hA] at HB hca za
    rw [hQ] at HQ zb
    rw [hC] at HP zc
    rw [hAd] at hfa
    rw [hQd] at hfb
    rw [hCd] at hso
    have HFA := Lib.hid (fun w => fits_any A false w (by omega) hfa)
    have HFB := Lib.hid (fun w => fits_any Q true w (by omega) hfb)
    have HSO := Lib.hid hso
    clear b1 b2 b3 hl h2 hA hQ hC hAd hQd hCd hfa hfb hso
    rcases hca with ⟨c1, c2⟩ | ⟨c1, c2, c3⟩
    · go_enter Tryd.func4, Tryd.ntmps4
      go_wp2_with fail
      refine HSm.out.mono ?_
      rintro e w1 ⟨rfl, hB1⟩
      go_wp2_with fail
      refine (HB.out _).mono ?_
      rintro e w2 ⟨rfl, hB2⟩
      have hs2 := Nat.le_trans hB1.size hB2.size
      go_wp2_with fail
      refine (HQ.out _).mono ?_
      rintro e w4 ⟨rfl, hB4⟩
      have hs4 := Nat.le_trans hs2 hB4.size
      go_wp2_with fail
      refine (HP.out _).mono ?_
      rintro e w6 ⟨rfl, hB6⟩
      have hB := ((hB1.trans (hB2.mono hB1.size)).trans (hB4.mono hs2)).trans (hB6.mono hs4)
      clear hB1 hB2 hB4 hB6 hs2 hs4
      go_wp2
      go_loopw [7] (fun iv wr => ∃ i : Nat, iv = .int .i64 i ∧ i ≤ C.size ∧ Below w.heap.size w wr) (fun iv _ => C.size - (intOf iv).toNat)
      case atStart => exact ⟨0, rfl, Nat.zero_le _, hB⟩
      case round =>
        obtain ⟨i, rfl, hi, hBr⟩ := hrel
        by_cases hlt : i < C.size
        · obtain ⟨s1, s2, s3⟩ := solid_at HSO.out i hlt
          obtain ⟨c, hc⟩ : ∃ c, C[i] = c := ⟨_, rfl⟩
          rw [hc] at s1 s2 s3
          have HW := Lib.hid (fun w => refWhite_to s3 w)
          clear s3
          go_wp2_with (go_at_call 15; refine (HW.out _).mono ?_; rintro e w' ⟨rfl, n, rfl⟩)
          go_roundw
          case rel => exact ⟨i + 1, by go_num, by omega, below_drews hBr _⟩
          case measure => simp [intOf]; omega
        · have hi2 : i = C.size := by omega
          subst hi2
          go_wp2_with (first
            | (go_at_call 16; (with_reducible refine (HFA.out _).mono ?_); rintro e w' ⟨rfl, rfl⟩)
            | (go_at_call 16; (with_reducible refine (HFB.out _).mono ?_); rintro e w' ⟨rfl, rfl⟩))
          go_ret
          exact ⟨rfl, hBr⟩
    · obtain ⟨h0, hA0⟩ := last_at c3
      have hA1 : 1 ≤ A.size := by omega
      clear c3
      go_enter Tryd.func4, Tryd.ntmps4
      go_wp2_with fail
      refine HSm.out.mono ?_
      rintro e w1 ⟨rfl, hB1⟩
      go_wp2_with fail
      refine (HB.out _).mono ?_
      rintro e w2 ⟨rfl, hB2⟩
      have hs2 := Nat.le_trans hB1.size hB2.size
      go_wp2_with fail
      refine (HQ.out _).mono ?_
      rintro e w4 ⟨rfl, hB4⟩
      have hs4 := Nat.le_trans hs2 hB4.size
      go_wp2_with fail
      refine (HP.out _).mono ?_
      rintro e w6 ⟨rfl, hB6⟩
      have hB := ((hB1.trans (hB2.mono hB1.size)).trans (hB4.mono hs2)).trans (hB6.mono hs4)
      clear hB1 hB2 hB4 hB6 hs2 hs4
      go_wp2
      go_loopw [7] (fun iv wr => ∃ i : Nat, iv = .int .i64 i ∧ i ≤ C.size ∧ Below w.heap.size w wr) (fun iv _ => C.size - (intOf iv).toNat)
      case atStart => exact ⟨0, rfl, Nat.zero_le _, hB⟩
      case round =>
        obtain ⟨i, rfl, hi, hBr⟩ := hrel
        by_cases hlt : i < C.size
        · obtain ⟨s1, s2, s3⟩ := solid_at HSO.out i hlt
          obtain ⟨c, hc⟩ : ∃ c, C[i] = c := ⟨_, rfl⟩
          rw [hc] at s1 s2 s3
          have HW := Lib.hid (fun w => refWhite_to s3 w)
          clear s3
          go_wp2_with (go_at_call 15; refine (HW.out _).mono ?_; rintro e w' ⟨rfl, n, rfl⟩)
          go_roundw
          case rel => exact ⟨i + 1, by go_num, by omega, below_drews hBr _⟩
          case measure => simp [intOf]; omega
        · have hi2 : i = C.size := by omega
          subst hi2
          go_wp2_with (first
            | (go_at_call 16; (with_reducible refine (HFA.out _).mono ?_); rintro e w' ⟨rfl, rfl⟩)
            | (go_at_call 16; (with_reducible refine (HFB.out _).mono ?_); rintro e w' ⟨rfl, rfl⟩))
          go_ret
          exact ⟨rfl, hBr⟩
end Go.Proofs.YtehnjoggilomfaaDoor
