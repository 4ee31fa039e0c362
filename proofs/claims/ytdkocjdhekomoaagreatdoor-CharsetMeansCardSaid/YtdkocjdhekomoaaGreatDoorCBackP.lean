/-
  The encodings are decoded to what went in, plainly.
-/
import Derived.Test.YtdkocjdhekomoaaGreatDoorCDecP
import Derived.Test.YtdkocjdhekomoaaGreatDoorCLine
namespace Go.Proofs.YtdkocjdhekomoaaGreatDoor
open Go
namespace Cd
theorem hexF_hexD (n : Nat) (h : n < 16) : hexF (hexD n) = some (UInt8.ofNat n) := by
  have H : ∀ k : Fin 16, hexF (hexD k.val) = some (UInt8.ofNat k.val) := by decide +kernel
  exact H ⟨n, h⟩
theorem hex2_cons (a b : UInt8) (r : List UInt8) : hex2 (a :: b :: r) = match hexF a, hexF b with
    | some x, some y => some (UInt8.ofNat (x.toNat * 16 + y.toNat))
    | _, _ => none := rfl
theorem hex2_of (c : UInt8) (r : List UInt8) : hex2 (hexD (c.toNat / 16) :: hexD (c.toNat % 16) :: r) = some c := by
  have hc := c.toNat_lt
  rw [hex2_cons, hexF_hexD _ (by omega), hexF_hexD _ (by omega)]
  simp only
  congr 1
  apply UInt8.toNat_inj.1
  simp
  omega
end Cd
end Go.Proofs.YtdkocjdhekomoaaGreatDoor
