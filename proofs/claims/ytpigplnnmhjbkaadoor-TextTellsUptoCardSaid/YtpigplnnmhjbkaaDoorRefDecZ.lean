/-
  The reference's Decimal: every number.
-/
import Derived.Test.YtpigplnnmhjbkaaDoorRefDecA
namespace Go.Proofs.YtpigplnnmhjbkaaDoor
open Go Go.RowKit Go.Shelf
theorem itoa_least : Lib.itoa (-9223372036854775808) = [45, 57, 50, 50, 51, 51, 55, 50, 48, 51, 54, 56, 53, 52, 55, 55, 53, 56, 48, 56] := by
  simp [Lib.itoa, Lib.decDigits]
set_option maxRecDepth 100000 in
set_option maxHeartbeats 1000000 in
theorem refDec_least (w : World) : Calls Tryd.prog 25 #[.int .i64 (-9223372036854775808)] w fun e w' => e = .returned (.string ⟨(Lib.itoa (-9223372036854775808)).toArray⟩) ∧ Below w.heap.size w w' := by
  rw [itoa_least]
  go_enter Tryd.func25, Tryd.ntmps25
  go_wp2
  go_ret
  exact ⟨rfl, Below.refl _ _⟩
theorem refDecimal_any (n : Int) (h0 : -9223372036854775808 ≤ n) (h1 : n ≤ 9223372036854775807) (w : World) :
    Calls Tryd.prog 25 #[.int .i64 n] w fun e w' => e = .returned (.string ⟨(Lib.itoa n).toArray⟩) ∧ Below w.heap.size w w' := by
  by_cases hm : n = -9223372036854775808
  · subst hm; exact refDec_least w
  · by_cases hn : n < 0
    · have hu : n.natAbs ≤ 9223372036854775807 := by omega
      have hs : (⟨(Lib.decDigits n.natAbs).toArray⟩ : ByteArray).size ≤ 30 := by
        rw [Tx.bs_len]
        have := Tx.dec_len_le 19 n.natAbs (by have : (10 : Nat) ^ 20 = 100000000000000000000 := by decide
                                              omega)
        omega
      have hd : (⟨#[45]⟩ : ByteArray) ++ ⟨(Lib.decDigits n.natAbs).toArray⟩ = ⟨(Lib.itoa n).toArray⟩ := by
        have h : ((⟨#[45]⟩ : ByteArray) ++ ⟨(Lib.decDigits n.natAbs).toArray⟩).data.toList = (⟨(Lib.itoa n).toArray⟩ : ByteArray).data.toList := by
          unfold Lib.itoa
          rw [if_pos hn]
          simp
        rw [← Lib.mk_data ((⟨#[45]⟩ : ByteArray) ++ ⟨(Lib.decDigits n.natAbs).toArray⟩), h, Lib.mk_data]
      refine (refDec_neg n hn (by omega) _ hs (fun z W hz => ?_) w).mono fun e w' ⟨a, b⟩ => ⟨by rw [a, hd], b⟩
      rw [hz, show -n = ((n.natAbs : Nat) : Int) by omega]
      exact refDec_nat n.natAbs hu W
    · have := refDec_nat n.toNat (by omega) w
      rw [show ((n.toNat : Nat) : Int) = n by omega] at this
      refine this.mono fun e w' ⟨a, b⟩ => ⟨?_, b⟩
      rw [a]
      unfold Lib.itoa
      rw [if_neg hn]
end Go.Proofs.YtpigplnnmhjbkaaDoor
