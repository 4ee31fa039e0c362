/-
  The law on numbers: its walk where the number is good.
-/
import Derived.Test.YtpigplnnmhjbkaaDoorNumbers
namespace Go.Proofs.YtpigplnnmhjbkaaDoor
open Go Go.RowKit Go.Shelf
namespace Tx
/-- The numeral with k zeros in front. -/
def zk (n : Int) (k : Nat) : List UInt8 := List.replicate k 48 ++ Lib.itoa n
end Tx
def zb (n : Int) (k : Nat) : ByteArray := ⟨(Tx.zk n k).toArray⟩
theorem zb_succ (n : Int) (k : Nat) : (⟨#[48]⟩ : ByteArray) ++ zb n k = zb n (k + 1) := by
  have h : ((⟨#[48]⟩ : ByteArray) ++ zb n k).data.toList = (zb n (k + 1)).data.toList := by simp [zb, Tx.zk, List.replicate_succ]
  rw [← Lib.mk_data ((⟨#[48]⟩ : ByteArray) ++ zb n k), h, Lib.mk_data]
theorem zb_size (n : Int) (k : Nat) : (zb n k).size = k + (Lib.itoa n).length := by
  show (ByteArray.mk (Tx.zk n k).toArray).size = _
  rw [Tx.bs_len]; simp [Tx.zk]

set_option maxHeartbeats 4000000 in
set_option maxRecDepth 100000 in
theorem numbers_good (n m z : Int) (S T : ByteArray) (g : Bool) (w : World) (hm : MaxAt w) (ht : Pow w) (n0 : 0 ≤ n) (n1 : n ≤ 999999999999999) (m0 : -9223372036854775808 ≤ m) (m1 : m ≤ 9223372036854775807)
    (hS : ⟨(Lib.itoa n).toArray⟩ = S) (hT : ⟨(Lib.itoa m).toArray⟩ = T) (hg : (n == m) = g) (hg2 : (S.toList == T.toList) = g) :
    Calls Tryd.prog 7 #[.int .i64 n, .int .i64 m, .int .i64 z] w fun e w' => e = .returned (.bool true) ∧ Below w.heap.size w w' := by
  have hno : Tx.numOk S.data.toList = true := by rw [← hS]; show Tx.numOk (Lib.itoa n) = _; rw [Tx.num_itoa, decide_eq_true n0, decide_eq_true n1]; rfl
  have hnv : ((Tx.numVal S.data.toList : Nat) : Int) = n := by
    have := (Tx.num_good n 0 n0).2
    rw [List.replicate_zero, List.nil_append] at this
    rw [← hS] at hno ⊢
    exact this hno
  have hil := Tx.itoa_len n (by omega) (by omega)
  have hsz : S.size ≤ 21 := by rw [← hS, Tx.bs_len]; exact hil
  have hz0 : S = zb n 0 := by rw [← hS]; unfold zb Tx.zk; rw [List.replicate_zero, List.nil_append]
  have HM := Lib.hid hm
  have HT := Lib.hid ht
  have H1 := Lib.hid (fun W h => decimalV (by omega) (by omega) hS W h)
  have H2 := Lib.hid (fun W h => decimalV m0 m1 hT W h)
  have H3 := Lib.hid (fun W => numberV (S := S) (by omega) hnv hno W)
  have HZ := Lib.hid hz0
  have hnn : (n != n) = false := by simp
  clear hm ht hS hT hno hnv hz0
  have HN0 := Lib.hid n0
  by_cases hz : z < 0
  · go_enter Tryd.func7, Tryd.ntmps7
    go_wp2_with fail
    refine (small_any _ HM.out).mono ?_
    rintro e w1 ⟨rfl, hB1⟩
    have ht1 := Lib.hid (HT.out.below hB1)
    go_wp2_with fail
    refine (H1.out _ ht1.out).mono ?_
    rintro e w2 ⟨rfl, hB2⟩
    have ht2 := Lib.hid (ht1.out.below hB2)
    go_wp2_with fail
    refine (H3.out _).mono ?_
    rintro e w3 ⟨rfl, rfl⟩
    have l1 := hB1.size
    cases g
    · go_wp2_with fail
      refine (H2.out _ ht2.out).mono ?_
      rintro e w4 ⟨rfl, hB4⟩
      have l2 := hB2.size
      have hbw := (hB1.trans (hB2.mono (by omega))).trans (hB4.mono (by omega))
      go_wp2
      go_ret
      exact ⟨rfl, hbw⟩
    · go_wp2_with fail
      refine (H2.out _ ht2.out).mono ?_
      rintro e w4 ⟨rfl, hB4⟩
      have l2 := hB2.size
      have hbw := (hB1.trans (hB2.mono (by omega))).trans (hB4.mono (by omega))
      go_wp2
      go_ret
      exact ⟨rfl, hbw⟩
  by_cases hz2 : 20 < z
  · go_enter Tryd.func7, Tryd.ntmps7
    go_wp2_with fail
    refine (small_any _ HM.out).mono ?_
    rintro e w1 ⟨rfl, hB1⟩
    have ht1 := Lib.hid (HT.out.below hB1)
    go_wp2_with fail
    refine (H1.out _ ht1.out).mono ?_
    rintro e w2 ⟨rfl, hB2⟩
    have ht2 := Lib.hid (ht1.out.below hB2)
    go_wp2_with fail
    refine (H3.out _).mono ?_
    rintro e w3 ⟨rfl, rfl⟩
    have l1 := hB1.size
    cases g
    · go_wp2_with fail
      refine (H2.out _ ht2.out).mono ?_
      rintro e w4 ⟨rfl, hB4⟩
      have l2 := hB2.size
      have hbw := (hB1.trans (hB2.mono (by omega))).trans (hB4.mono (by omega))
      go_wp2
      go_ret
      exact ⟨rfl, hbw⟩
    · go_wp2_with fail
      refine (H2.out _ ht2.out).mono ?_
      rintro e w4 ⟨rfl, hB4⟩
      have l2 := hB2.size
      have hbw := (hB1.trans (hB2.mono (by omega))).trans (hB4.mono (by omega))
      go_wp2
      go_ret
      exact ⟨rfl, hbw⟩
  go_enter Tryd.func7, Tryd.ntmps7
  go_wp2_with fail
  refine (small_any _ HM.out).mono ?_
  rintro e w1 ⟨rfl, hB1⟩
  have ht1 := Lib.hid (HT.out.below hB1)
  go_wp2_with fail
  refine (H1.out _ ht1.out).mono ?_
  rintro e w2 ⟨rfl, hB2⟩
  have ht2 := Lib.hid (ht1.out.below hB2)
  go_wp2_with fail
  refine (H3.out _).mono ?_
  rintro e w3 ⟨rfl, rfl⟩
  have l1 := hB1.size
  cases g
  · go_wp2_with fail
    refine (H2.out _ ht2.out).mono ?_
    rintro e w4 ⟨rfl, hB4⟩
    have l2 := hB2.size
    have hbw := (hB1.trans (hB2.mono (by omega))).trans (hB4.mono (by omega))
    clear hB1 hB2 hB4 l1 l2
    go_wp2
    go_loopw [12, 13] (fun zz i wr => ∃ k : Nat, i = .int .i64 k ∧ (k : Int) ≤ z ∧ zz = .string (zb n k) ∧ Below w.heap.size w wr) (fun _ i _ => (z - intOf i).toNat)
    case atStart => exact ⟨0, rfl, by omega, by rw [← HZ.out], hbw⟩
    case round =>
      obtain ⟨k, rfl, hk, rfl, hbr⟩ := hrel
      obtain ⟨Z, hZ⟩ : ∃ Z, zb n k = Z := ⟨_, rfl⟩
      have hZs : Z.size ≤ 41 := by rw [← hZ, zb_size]; omega
      rw [hZ]
      by_cases hlt : (k : Int) < z
      · obtain ⟨Y, hY⟩ : ∃ Y, (⟨#[48]⟩ : ByteArray) ++ Z = Y := ⟨_, rfl⟩
        have hadd := run_string_add_sum (P := Tryd.prog) wr ⟨#[48]⟩ Z (by have e : (⟨#[48]⟩ : ByteArray).size = 1 := rfl; omega)
        rw [hY] at hadd
        have HN := Lib.hid (show Y = zb n (k + 1) by rw [← hY, ← hZ, zb_succ])
        clear hZ hY
        go_wp2
        go_roundw
        case rel => exact ⟨k + 1, by go_num, by omega, by rw [HN.out], hbr⟩
        case measure => simp [intOf]; omega
      · have hl : Z.data.toList = List.replicate k 48 ++ Lib.itoa n := by rw [← hZ]; rfl
        have hng := Tx.num_good n k HN0.out
        rw [← hl, ← Lib.size_eq] at hng
        have hng1 := hng.1
        by_cases h15 : Z.size ≤ 15
        · rw [decide_eq_true h15] at hng1
          have HC := Lib.hid (fun W => numberV (S := Z) (by omega) (hng.2 hng1) hng1 W)
          have hd : decide ((Z.size : Int) ≤ 15) = true := decide_eq_true (by omega)
          clear hZ hl hng hng1
          go_wp2_with fail
          refine (HC.out _).mono ?_
          rintro e w3 ⟨rfl, rfl⟩
          go_wp2
          go_ret
          exact ⟨by first | rfl | simp, hbr⟩
        · rw [decide_eq_false h15] at hng1
          have HC := Lib.hid (fun W => numberV (S := Z) (v := 0) (by omega) (by unfold Tx.numVal; rw [hng1]; rfl) hng1 W)
          have hd : decide ((Z.size : Int) ≤ 15) = false := decide_eq_false (by omega)
          clear hZ hl hng hng1
          go_wp2_with fail
          refine (HC.out _).mono ?_
          rintro e w3 ⟨rfl, rfl⟩
          go_wp2
          go_ret
          exact ⟨by first | rfl | simp, hbr⟩
  · go_wp2_with fail
    refine (H2.out _ ht2.out).mono ?_
    rintro e w4 ⟨rfl, hB4⟩
    have l2 := hB2.size
    have hbw := (hB1.trans (hB2.mono (by omega))).trans (hB4.mono (by omega))
    clear hB1 hB2 hB4 l1 l2
    go_wp2
    go_loopw [12, 13] (fun zz i wr => ∃ k : Nat, i = .int .i64 k ∧ (k : Int) ≤ z ∧ zz = .string (zb n k) ∧ Below w.heap.size w wr) (fun _ i _ => (z - intOf i).toNat)
    case atStart => exact ⟨0, rfl, by omega, by rw [← HZ.out], hbw⟩
    case round =>
      obtain ⟨k, rfl, hk, rfl, hbr⟩ := hrel
      obtain ⟨Z, hZ⟩ : ∃ Z, zb n k = Z := ⟨_, rfl⟩
      have hZs : Z.size ≤ 41 := by rw [← hZ, zb_size]; omega
      rw [hZ]
      by_cases hlt : (k : Int) < z
      · obtain ⟨Y, hY⟩ : ∃ Y, (⟨#[48]⟩ : ByteArray) ++ Z = Y := ⟨_, rfl⟩
        have hadd := run_string_add_sum (P := Tryd.prog) wr ⟨#[48]⟩ Z (by have e : (⟨#[48]⟩ : ByteArray).size = 1 := rfl; omega)
        rw [hY] at hadd
        have HN := Lib.hid (show Y = zb n (k + 1) by rw [← hY, ← hZ, zb_succ])
        clear hZ hY
        go_wp2
        go_roundw
        case rel => exact ⟨k + 1, by go_num, by omega, by rw [HN.out], hbr⟩
        case measure => simp [intOf]; omega
      · have hl : Z.data.toList = List.replicate k 48 ++ Lib.itoa n := by rw [← hZ]; rfl
        have hng := Tx.num_good n k HN0.out
        rw [← hl, ← Lib.size_eq] at hng
        have hng1 := hng.1
        by_cases h15 : Z.size ≤ 15
        · rw [decide_eq_true h15] at hng1
          have HC := Lib.hid (fun W => numberV (S := Z) (by omega) (hng.2 hng1) hng1 W)
          have hd : decide ((Z.size : Int) ≤ 15) = true := decide_eq_true (by omega)
          clear hZ hl hng hng1
          go_wp2_with fail
          refine (HC.out _).mono ?_
          rintro e w3 ⟨rfl, rfl⟩
          go_wp2
          go_ret
          exact ⟨by first | rfl | simp, hbr⟩
        · rw [decide_eq_false h15] at hng1
          have HC := Lib.hid (fun W => numberV (S := Z) (v := 0) (by omega) (by unfold Tx.numVal; rw [hng1]; rfl) hng1 W)
          have hd : decide ((Z.size : Int) ≤ 15) = false := decide_eq_false (by omega)
          clear hZ hl hng hng1
          go_wp2_with fail
          refine (HC.out _).mono ?_
          rintro e w3 ⟨rfl, rfl⟩
          go_wp2
          go_ret
          exact ⟨by first | rfl | simp, hbr⟩
end Go.Proofs.YtpigplnnmhjbkaaDoor
