/-
  The law on numbers: its walk.
-/
import Derived.Test.YtpigplnnmhjbkaaDoorDec
namespace Go.Proofs.YtpigplnnmhjbkaaDoor
open Go Go.RowKit Go.Shelf
theorem decimalV {n : Int} {S : ByteArray} (h0 : -9223372036854775808 ≤ n) (h1 : n ≤ 9223372036854775807) (h : ⟨(Lib.itoa n).toArray⟩ = S) (W : World) (ht : Pow W) :
    Calls Tryd.prog 24 #[.int .i64 n] W fun e w' => e = .returned (.string S) ∧ Below W.heap.size W w' :=
  (decimal_any n h0 h1 W ht).mono fun _ _ ⟨a, b⟩ => ⟨by rw [a, h], b⟩
theorem numberV {S : ByteArray} {v : Int} {g : Bool} (hs : S.size ≤ 9223372036854775807) (hv : ((Tx.numVal S.data.toList : Nat) : Int) = v) (hg : Tx.numOk S.data.toList = g) (W : World) :
    Calls Tryd.prog 10 #[.string S] W fun e w' => e = .returned (.tuple #[.int .i64 v, .bool g]) ∧ W = w' :=
  (number_any S W hs).mono fun _ _ ⟨a, b⟩ => ⟨by rw [a, hv, hg], b⟩

set_option maxHeartbeats 4000000 in
set_option maxRecDepth 100000 in
theorem numbers_bad (n m z : Int) (S T : ByteArray) (g : Bool) (w : World) (hm : MaxAt w) (ht : Pow w) (n0 : -9223372036854775808 ≤ n) (n1 : n ≤ 9223372036854775807) (m0 : -9223372036854775808 ≤ m) (m1 : m ≤ 9223372036854775807)
    (hS : ⟨(Lib.itoa n).toArray⟩ = S) (hT : ⟨(Lib.itoa m).toArray⟩ = T) (hg : (n == m) = g) (hg2 : (S.toList == T.toList) = g) (hb : (decide (0 ≤ n) && decide (n ≤ 999999999999999)) = false) :
    Calls Tryd.prog 7 #[.int .i64 n, .int .i64 m, .int .i64 z] w fun e w' => e = .returned (.bool true) ∧ Below w.heap.size w w' := by
  have hno : Tx.numOk S.data.toList = false := by rw [← hS]; show Tx.numOk (Lib.itoa n) = _; rw [Tx.num_itoa, hb]
  have hnv : ((Tx.numVal S.data.toList : Nat) : Int) = 0 := by unfold Tx.numVal; rw [hno]; rfl
  have hsz : S.size ≤ 21 := by rw [← hS, Tx.bs_len]; exact Tx.itoa_len n n0 n1
  have HM := Lib.hid hm
  have HT := Lib.hid ht
  have H1 := Lib.hid (fun W h => decimalV n0 n1 hS W h)
  have H2 := Lib.hid (fun W h => decimalV m0 m1 hT W h)
  have H3 := Lib.hid (fun W => numberV (S := S) (by omega) hnv hno W)
  clear hm ht hS hT hno hnv
  by_cases hn0 : 0 ≤ n
  · have hn1 : decide (n ≤ 999999999999999) = false := by simpa [hn0] using hb
    clear hb
    go_enter Tryd.func7, Tryd.ntmps7
    go_wp2_with fail
    refine (small_any _ HM.out).mono ?_
    rintro e w1 ⟨rfl, hB1⟩
    have ht1 := Lib.hid (HT.out.below hB1)
    go_wp2_with fail
    refine (H1.out _ ht1.out).mono ?_
    rintro e w2 ⟨rfl, hB2⟩
    have ht2 := Lib.hid (ht1.out.below hB2)
    go_wp2_with fail
    refine (H3.out _).mono ?_
    rintro e w3 ⟨rfl, rfl⟩
    have l1 := hB1.size
    cases g
    · go_wp2_with fail
      refine (H2.out _ ht2.out).mono ?_
      rintro e w4 ⟨rfl, hB4⟩
      have l2 := hB2.size
      go_wp2
      go_ret
      exact ⟨rfl, (hB1.trans (hB2.mono (by omega))).trans (hB4.mono (by omega))⟩
    · go_wp2_with fail
      refine (H2.out _ ht2.out).mono ?_
      rintro e w4 ⟨rfl, hB4⟩
      have l2 := hB2.size
      go_wp2
      go_ret
      exact ⟨rfl, (hB1.trans (hB2.mono (by omega))).trans (hB4.mono (by omega))⟩
  · clear hb
    go_enter Tryd.func7, Tryd.ntmps7
    go_wp2_with fail
    refine (small_any _ HM.out).mono ?_
    rintro e w1 ⟨rfl, hB1⟩
    have ht1 := Lib.hid (HT.out.below hB1)
    go_wp2_with fail
    refine (H1.out _ ht1.out).mono ?_
    rintro e w2 ⟨rfl, hB2⟩
    have ht2 := Lib.hid (ht1.out.below hB2)
    go_wp2_with fail
    refine (H3.out _).mono ?_
    rintro e w3 ⟨rfl, rfl⟩
    have l1 := hB1.size
    cases g
    · go_wp2_with fail
      refine (H2.out _ ht2.out).mono ?_
      rintro e w4 ⟨rfl, hB4⟩
      have l2 := hB2.size
      go_wp2
      go_ret
      exact ⟨rfl, (hB1.trans (hB2.mono (by omega))).trans (hB4.mono (by omega))⟩
    · go_wp2_with fail
      refine (H2.out _ ht2.out).mono ?_
      rintro e w4 ⟨rfl, hB4⟩
      have l2 := hB2.size
      go_wp2
      go_ret
      exact ⟨rfl, (hB1.trans (hB2.mono (by omega))).trans (hB4.mono (by omega))⟩
end Go.Proofs.YtpigplnnmhjbkaaDoor
