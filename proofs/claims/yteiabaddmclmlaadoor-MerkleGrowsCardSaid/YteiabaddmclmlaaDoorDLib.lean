/-
  strings.IndexByte and bits.RotateLeft32 at this translation.
-/
import Derived.Shelf.Lays
import Derived.Shelf.Small.Strs
import Derived.Test.YteiabaddmclmlaaDoorProg
import Derived.WalkKit
import Derived.WalkSpells
import Derived.WalkLawsBesides
import Derived.Outline
import Derived.Lib.Hide
import Derived.Test.YteiabaddmclmlaaDoorDPlain
namespace Go.Proofs.YteiabaddmclmlaaDoor
open Go Go.RowKit Go.Shelf
def Tryd.lays137_ren : Go.Shelf.Ren := ⟨fun | 137 => 50 | 217 => 71 | 266 => 80 | n => n, fun n => n, fun | n => n⟩
theorem Tryd.lays137 : Go.Proofs.Lays.n137 Tryd.prog Tryd.lays137_ren := {
  mixed := by kernel_rfl
  f137 := Tryd.func50.trans (congrArg some (by kernel_rfl))
  f217 := Tryd.func71.trans (congrArg some (by kernel_rfl))
  f266 := Tryd.func80.trans (congrArg some (by kernel_rfl))
  t3 := Tryd.underlying3
  a3 := Tryd.isAgg3
  z3 := Tryd.sizeOf3
  v3 := Tryd.zeroValue3
  t5 := Tryd.underlying5
  a5 := Tryd.isAgg5
  z5 := Tryd.sizeOf5
  v5 := Tryd.zeroValue5
  t9 := Tryd.underlying9
  a9 := Tryd.isAgg9
  z9 := Tryd.sizeOf9
  v9 := Tryd.zeroValue9 }
theorem indexByte_any (s : ByteArray) (c : Int) (w : World) :
    Calls Tryd.prog 50 #[.string s, .int .u8 c] w fun e w' => e = .returned (.int .i64 (Lib.indexByte s.data.toList c.toNat.toUInt8)) ∧ w = w' :=
  (Any.strings_IndexByte Tryd.lays137 s c w).mono fun _ _ ⟨h1, h2⟩ => ⟨h1, h2.symm⟩

namespace Dg
theorem mask31 : ∀ n : Fin 32, 1 ≤ n.val → bits .and .u64 (IntKind.u64.wrap (-(n.val : Int))) 31 = ((32 - n.val : Nat) : Int) := by decide +kernel
theorem ror_said (x : W32) (m : Nat) (_h1 : 1 ≤ m) (h2 : m ≤ 31) :
    bits .or .u32 ((x.toNat : Int) * 2 ^ m % 4294967296) ((x.toNat : Int) / 2 ^ (32 - m)) = ((ror x (32 - m)).toNat : Int) := by
  have e3 : 32 - (32 - m) = m := by omega
  have a : (x.toNat : Int) * 2 ^ m % 4294967296 = ((x <<< m).toNat : Int) := by
    rw [BitVec.toNat_shiftLeft, Nat.shiftLeft_eq]
    simp
  have b : (x.toNat : Int) / 2 ^ (32 - m) = ((x >>> (32 - m)).toNat : Int) := by rw [w_shr]; simp
  rw [a, b, w_or, BitVec.or_comm]
  unfold ror
  rw [e3]
end Dg
set_option maxHeartbeats 1000000 in
set_option maxRecDepth 100000 in
theorem rotl_any (x : Dg.W32) (n : Nat) (h1 : 1 ≤ n) (h2 : n ≤ 31) (w : World) :
    Calls Tryd.prog 82 #[.int .u32 x.toNat, .int .i64 (-(n : Int))] w fun e w' => e = .returned (.int .u32 (Dg.ror x n).toNat) ∧ w = w' := by
  have hm := Dg.mask31 ⟨n, by omega⟩ h1
  simp only at hm
  obtain ⟨m, hmn⟩ : ∃ m, 32 - n = m := ⟨_, rfl⟩
  have hn : n = 32 - m := by omega
  rw [hmn] at hm
  have g1 : 1 ≤ m := by omega
  have g2 : m ≤ 31 := by omega
  have hx := x.isLt
  have HR := Dg.ror_said x m g1 g2
  have hrn : Dg.ror x n = Dg.ror x (32 - m) := by rw [← hn]
  rw [hrn]
  have HH := Lib.hid HR
  clear HR hmn hn hrn
  obtain ⟨X, hX⟩ : ∃ X, x.toNat = X := ⟨_, rfl⟩
  rw [hX] at HH hx
  obtain ⟨r, hr⟩ : ∃ r, (Dg.ror x (32 - m)).toNat = r := ⟨_, rfl⟩
  rw [hX, hr]
  rw [hr] at HH
  clear hX hr
  go_enter Tryd.func82, Tryd.ntmps82
  go_wp2_with fail
  go_ret
  refine ⟨?_, rfl⟩
  show Ending.returned (Value.int .u32 _) = _
  rw [HH.out]
end Go.Proofs.YteiabaddmclmlaaDoor
