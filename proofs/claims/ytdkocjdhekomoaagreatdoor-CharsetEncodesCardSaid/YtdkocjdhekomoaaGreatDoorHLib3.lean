/-
  slices.Collect of strings, laid at this translation by names.
-/
import Derived.Shelf.SlIter.Collect
import Derived.Shelf.SlLaysZ
import Derived.Test.YtdkocjdhekomoaaGreatDoorProg
namespace Go.Proofs.YtdkocjdhekomoaaGreatDoor
open Go Go.RowKit Go.Shelf
def Tryz.laysZ8_ren : Go.Shelf.Ren := ⟨fun | 8 => 51 | 11 => 78 | n => n, fun | 0 => 0 | 24 => 29 | 26 => 9 | 28 => 54 | 33 => 25 | n => n, fun | n => n⟩
theorem Tryz.laysZ8 : Go.Proofs.SlLaysZ.n8 Tryz.prog Tryz.laysZ8_ren := {
  mixed := by kernel_rfl
  f8 := ⟨Tryz.f51.name, by kernel_rfl, Tryz.func51.trans (congrArg some (by kernel_rfl))⟩
  f11 := ⟨Tryz.f78.name, by kernel_rfl, Tryz.func78.trans (congrArg some (by kernel_rfl))⟩
  t0 := Tryz.underlying0
  a0 := Tryz.isAgg0
  z0 := Tryz.sizeOf0
  v0 := Tryz.zeroValue0
  t24 := Tryz.underlying29
  a24 := Tryz.isAgg29
  z24 := Tryz.sizeOf29
  v24 := Tryz.zeroValue29
  t26 := Tryz.underlying9
  a26 := Tryz.isAgg9
  z26 := Tryz.sizeOf9
  v26 := Tryz.zeroValue9
  t28 := Tryz.underlying54
  a28 := Tryz.isAgg54
  z28 := Tryz.sizeOf54
  v28 := Tryz.zeroValue54
  i26 := by kernel_rfl }
end Go.Proofs.YtdkocjdhekomoaaGreatDoor
