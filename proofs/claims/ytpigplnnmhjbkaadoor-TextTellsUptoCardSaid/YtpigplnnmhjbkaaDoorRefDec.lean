/-
  The reference's Decimal: one digit.
-/
import Derived.Test.YtpigplnnmhjbkaaDoorRefUnl
import Derived.Test.YtpigplnnmhjbkaaDoorDec
namespace Go.Proofs.YtpigplnnmhjbkaaDoor
open Go Go.RowKit Go.Shelf
theorem one_back (w : World) (c : UInt8) : (convert 38 9 (.slice (some ⟨w.heap.size, 0, none⟩) 1 1)).run Tryd.prog (w.alloc (.cells #[.int .u8 (c.toNat : Int)] 5)) = .ok (.string ⟨#[c]⟩) (w.alloc (.cells #[.int .u8 (c.toNat : Int)] 5)) :=
  run_convert_bytes_back (P := Tryd.prog) _ 38 9 5 ⟨w.heap.size, 0, none⟩ 1 [c] Tryd.underlying38 Tryd.underlying5 Tryd.underlying9 (fun j hj => by
    obtain rfl : j = 0 := by simpa using hj
    exact cell_one_new w (.int .u8 (c.toNat : Int)) 5 0 _ rfl)

set_option maxRecDepth 100000 in
set_option maxHeartbeats 2000000 in
theorem refDec_one (u : Nat) (h10 : u < 10) (w : World) :
    Calls Tryd.prog 25 #[.int .i64 (u : Int)] w fun e w' => e = .returned (.string ⟨(Lib.decDigits u).toArray⟩) ∧ Below w.heap.size w w' := by
  have e1 : ((u : Int) == -9223372036854775808) = false := by rw [beq_eq_false_iff_ne]; omega
  have e2 : decide ((u : Int) < 0) = false := decide_eq_false (by omega)
  have hd : Lib.decDigits u = [UInt8.ofNat (48 + u)] := by rw [Lib.decDigits, dif_pos h10]
  have hc : ((UInt8.ofNat (48 + u)).toNat : Int) = 48 + (u : Int) := by rw [Tx.digit_nat u h10]; omega
  have hb := one_back w (UInt8.ofNat (48 + u))
  rw [hc] at hb
  rw [hd]
  have h10' : (u : Int) < 10 := by omega
  clear hd hc
  go_enter Tryd.func25, Tryd.ntmps25
  go_wp2
  go_ret
  exact ⟨by simp, by first | exact (Below.refl _ w).alloc (Nat.le_refl _) _ | exact below_drews ((Below.refl _ w).alloc (Nat.le_refl _) _) _⟩
end Go.Proofs.YtpigplnnmhjbkaaDoor
