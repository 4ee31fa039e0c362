/-
  The reference's Decimal: all numbers from 0 up.
-/
import Derived.Test.YtpigplnnmhjbkaaDoorRefDecM
namespace Go.Proofs.YtpigplnnmhjbkaaDoor
open Go Go.RowKit Go.Shelf
theorem refDec_nat (u : Nat) : u ≤ 9223372036854775807 → ∀ w : World,
    Calls Tryd.prog 25 #[.int .i64 (u : Int)] w fun e w' => e = .returned (.string ⟨(Lib.decDigits u).toArray⟩) ∧ Below w.heap.size w w' := by
  induction u using Nat.strongRecOn with
  | _ u ih =>
    intro hu w
    by_cases h10 : u < 10
    · exact refDec_one u h10 w
    · have hs : (⟨(Lib.decDigits (u / 10)).toArray⟩ : ByteArray).size ≤ 30 := by
        rw [Tx.bs_len]
        have := Tx.dec_len_le 19 (u / 10) (by have : (10 : Nat) ^ 20 = 100000000000000000000 := by decide
                                              omega)
        omega
      have hd : (⟨(Lib.decDigits (u / 10)).toArray⟩ : ByteArray) ++ ⟨#[UInt8.ofNat (48 + u % 10)]⟩ = ⟨(Lib.decDigits u).toArray⟩ := by
        have h : ((⟨(Lib.decDigits (u / 10)).toArray⟩ : ByteArray) ++ ⟨#[UInt8.ofNat (48 + u % 10)]⟩).data.toList = (⟨(Lib.decDigits u).toArray⟩ : ByteArray).data.toList := by
          conv => rhs; rw [Lib.decDigits, dif_neg h10]
          simp
        rw [← Lib.mk_data ((⟨(Lib.decDigits (u / 10)).toArray⟩ : ByteArray) ++ ⟨#[UInt8.ofNat (48 + u % 10)]⟩), h, Lib.mk_data]
      refine (refDec_more u h10 hu _ hs (fun z W hz => ?_) w).mono fun e w' ⟨h1, h2⟩ => ⟨by rw [h1, hd], h2⟩
      rw [hz]
      exact ih (u / 10) (by omega) (by omega) W

set_option maxRecDepth 100000 in
set_option maxHeartbeats 1000000 in
theorem refDec_neg (n : Int) (h0 : n < 0) (hm : -9223372036854775807 ≤ n) (S : ByteArray) (hS : S.size ≤ 30)
    (ih : Hid (∀ (z : Int) (W : World), z = -n → Calls Tryd.prog 25 #[.int .i64 z] W fun e w' => e = .returned (.string S) ∧ Below W.heap.size W w')) (w : World) :
    Calls Tryd.prog 25 #[.int .i64 n] w fun e w' => e = .returned (.string (⟨#[45]⟩ ++ S)) ∧ Below w.heap.size w w' := by
  have e1 : (n == -9223372036854775808) = false := by rw [beq_eq_false_iff_ne]; omega
  have e2 : decide (n < 0) = true := decide_eq_true h0
  have hw : IntKind.i64.wrap (-n) = -n := by simp [IntKind.wrap, IntKind.signed, IntKind.bits]; omega
  have HW := Lib.hid hw
  go_enter Tryd.func25, Tryd.ntmps25
  go_wp2_with fail
  refine (ih.out _ _ ?_).mono ?_
  · first | rfl | exact HW.out
  rintro e w' ⟨rfl, hB⟩
  go_wp2
  go_ret
  exact ⟨rfl, hB⟩
end Go.Proofs.YtpigplnnmhjbkaaDoor
