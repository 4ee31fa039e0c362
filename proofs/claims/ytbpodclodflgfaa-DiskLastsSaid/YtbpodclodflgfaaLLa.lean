/-
  DiskLasts: what was made durable lasts.
-/
import Derived.Test.YtbpodclodflgfaaLAs
import Derived.Test.YtbpodclodflgfaaKDd
namespace Go.Proofs.Ytbpodclodflgfaa
open Go Go.RowKit
set_option maxHeartbeats 4000000 in
set_option maxRecDepth 100000 in
theorem lasts_a (X : List Dk.Act) (n : Nat) (hn : X.length = n) (hN : n ≤ 9223372036854775807) (xa : Option Addr) (b off cap : Nat) (ka : Option Addr) (kn kcap : Nat) (w : World) (hl : LA w xa b off X) (hF : Dk.few X = false) :
    Calls Try.prog 4 #[.slice xa n cap, .slice ka kn kcap] w fun e w' => e = .returned (.bool true) ∧ Below w.heap.size w w' := by
  have C0 := Lib.hid (fun w1 : World => small_any w1)
  have HL := Lib.hid hl
  have CF := Lib.hid (fun (w1 : World) (h : LA w1 xa b off X) => few_any X n hn hN xa b off cap w1 h)
  rw [hF] at CF
  clear hl hF hn
  go_enter Try.func4, Try.ntmps4
  go_wp2_with (first | (go_at_call 6; with_reducible refine (C0.out _).mono ?_; rintro _ w2 ⟨rfl, hb0⟩; have HB0 := Lib.hid hb0; clear hb0) | (go_at_call 7; with_reducible refine (mine_new _).mono ?_; rintro _ w3 ⟨rfl, hm⟩; have HM := Lib.hid hm; clear hm; have HLA := Lib.hid ((HL.out.below HB0.out).below HM.out.below)) | (go_at_call 8; with_reducible refine (CF.out _ HLA.out).mono ?_; rintro _ w4 ⟨rfl, hm⟩; have HM4 := Lib.hid (HM.out.quiet hm); clear hm))
  go_ret
  exact ⟨rfl, below_to HB0.out (Nat.le_refl _) HM4.out.below⟩
end Go.Proofs.Ytbpodclodflgfaa
