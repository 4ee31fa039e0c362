/-
  split, Leaf, Join of the program and of the reference.
-/
import Derived.Test.YteiabaddmclmlaaDoorMPlain
import Derived.Test.YteiabaddmclmlaaDoorDKeysP
import Derived.Test.YteiabaddmclmlaaDoorDRsum
import Derived.Shelf.Small.Bits
namespace Go.Proofs.YteiabaddmclmlaaDoor
open Go Go.RowKit Go.Shelf
def Tryd.lays125_ren : Go.Shelf.Ren := ⟨fun | 125 => 77 | 128 => 83 | 129 => 84 | n => n, fun | 3 => 3 | 4 => 4 | 5 => 5 | 9 => 9 | 46 => 45 | 51 => 47 | 53 => 54 | n => n, fun | n => n⟩
theorem Tryd.lays125 : Go.Proofs.Lays.n125 Tryd.prog Tryd.lays125_ren := {
  mixed := by kernel_rfl
  f125 := Tryd.func77.trans (congrArg some (by kernel_rfl))
  f128 := Tryd.func83.trans (congrArg some (by kernel_rfl))
  f129 := Tryd.func84.trans (congrArg some (by kernel_rfl))
  t3 := Tryd.underlying3
  a3 := Tryd.isAgg3
  z3 := Tryd.sizeOf3
  v3 := Tryd.zeroValue3
  t4 := Tryd.underlying4
  a4 := Tryd.isAgg4
  z4 := Tryd.sizeOf4
  v4 := Tryd.zeroValue4
  t5 := Tryd.underlying5
  a5 := Tryd.isAgg5
  z5 := Tryd.sizeOf5
  v5 := Tryd.zeroValue5
  t9 := Tryd.underlying9
  a9 := Tryd.isAgg9
  z9 := Tryd.sizeOf9
  v9 := Tryd.zeroValue9
  t46 := Tryd.underlying45
  a46 := Tryd.isAgg45
  z46 := Tryd.sizeOf45
  v46 := Tryd.zeroValue45
  t51 := Tryd.underlying47
  a51 := Tryd.isAgg47
  z51 := Tryd.sizeOf47
  v51 := Tryd.zeroValue47
  t53 := Tryd.underlying54
  a53 := Tryd.isAgg54
  z53 := Tryd.sizeOf54
  v53 := Tryd.zeroValue54 }
theorem bitsLen_any (x : Nat) (h0 : 0 < x) (h1 : x < 9223372036854775808) (w : World) :
    Calls Tryd.prog 77 #[.int .u64 (x : Int)] w fun e w' => e = .returned (.int .i64 ((x.log2 + 1 : Nat) : Int)) ∧ w' = w := by
  have h := Any.bits_Len Tryd.lays125 (x : Int) w (by omega) (by omega)
  rw [Int.toNat_natCast, Mk.bitLen_log2 x h0 (by omega)] at h
  exact h
set_option maxHeartbeats 2000000 in
set_option maxRecDepth 100000 in
theorem split_any (n : Nat) (h0 : 2 ≤ n) (h1 : n < 9223372036854775808) (w : World) :
    Calls Tryd.prog 59 #[.int .i64 (n : Int)] w fun e w' => e = .returned (.int .i64 (Mk.split n : Int)) ∧ w' = w := by
  have hl := Mk.log2_lt h0 h1
  have hs : Mk.split n = 2 ^ (n - 1).log2 := rfl
  obtain ⟨S, hS⟩ : ∃ S, Mk.split n = S := ⟨_, rfl⟩
  rw [hS] at hs ⊢
  have hB := fun w' : World => bitsLen_any (n - 1) (by omega) (by omega) w'
  obtain ⟨L, hL⟩ : ∃ L, (n - 1).log2 = L := ⟨_, rfl⟩
  rw [hL] at hs hl hB
  obtain ⟨m, hm⟩ : ∃ m, n - 1 = m := ⟨_, rfl⟩
  rw [hm] at hB
  have a1 : (n : Int) - 1 = (m : Int) := by omega
  have a2 : IntKind.i64.wrap ((n : Int) - 1) = (m : Int) := by rw [IntWalk.i64_in _ (by omega)]; omega
  have a3 : IntKind.i64.wrap (m : Int) = (m : Int) := IntWalk.i64_in _ (by omega)
  obtain ⟨M, hM⟩ : ∃ M, L + 1 = M := ⟨_, rfl⟩
  rw [hM] at hB
  have HB := Lib.hid hB
  have b1 : (M : Int) - 1 = (L : Int) := by omega
  have b2 : IntKind.i64.wrap ((M : Int) - 1) = (L : Int) := by rw [IntWalk.i64_in _ (by omega)]; omega
  have hw : wrap64 ((2 : Int) ^ L) = (S : Int) := by
    have h1 : (2 : Int) ^ L = ((2 ^ L : Nat) : Int) := by simp
    have h2 : 2 ^ L ≤ 2 ^ 62 := Nat.pow_le_pow_right (by omega) hl
    rw [h1, hs]
    obtain ⟨T, hT⟩ : ∃ T : Nat, 2 ^ L = T := ⟨_, rfl⟩
    rw [hT] at h2 ⊢
    unfold wrap64; omega
  have HW := Lib.hid hw
  clear hB hS hL hm hs hw
  go_enter Tryd.func59, Tryd.ntmps59
  go_wp2_with fail
  refine (HB.out w).mono ?_
  rintro _ w1 ⟨rfl, rfl⟩
  go_wp2_with fail
  go_ret
  exact ⟨ret_int HW.out, rfl⟩
theorem size_one (x : UInt8) (s : ByteArray) (h : s.size ≤ 10000000) : ((⟨#[x]⟩ : ByteArray) ++ s).size ≤ 100000000 := by
  rw [ByteArray.size_append]
  have : (⟨#[x]⟩ : ByteArray).size = 1 := rfl
  omega
theorem size_two (x : UInt8) (a b : ByteArray) (h : a.size ≤ 10000000) (h2 : b.size ≤ 10000000) : (((⟨#[x]⟩ : ByteArray) ++ a) ++ b).size ≤ 100000000 := by
  rw [ByteArray.size_append, ByteArray.size_append]
  have : (⟨#[x]⟩ : ByteArray).size = 1 := rfl
  omega
set_option maxHeartbeats 1000000 in
set_option maxRecDepth 100000 in
theorem leaf_to (s R : ByteArray) (hs : s.size ≤ 10000000) (hR : Mk.leaf s.data.toList = R.data.toList) (w : World) (hE : Env w) :
    Calls Tryd.prog 29 #[.string s] w fun e w' => e = .returned (.string R) ∧ Below w.heap.size w w' := by
  have C := Lib.hid (sum_to (⟨#[0]⟩ ++ s) (size_one 0 s hs) R (by rw [bytes_append]; exact hR) w hE)
  clear hR hE
  go_enter Tryd.func29, Tryd.ntmps29
  go_wp2_with fail
  refine C.out.mono ?_
  rintro _ w1 ⟨rfl, hb⟩
  go_wp2
  go_ret
  exact ⟨rfl, hb⟩
set_option maxHeartbeats 1000000 in
set_option maxRecDepth 100000 in
theorem join_to (a b R : ByteArray) (ha : a.size ≤ 10000000) (hb : b.size ≤ 10000000) (hR : Mk.join a.data.toList b.data.toList = R.data.toList) (w : World) (hE : Env w) :
    Calls Tryd.prog 31 #[.string a, .string b] w fun e w' => e = .returned (.string R) ∧ Below w.heap.size w w' := by
  have C := Lib.hid (sum_to ((⟨#[1]⟩ ++ a) ++ b) (size_two 1 a b ha hb) R (by rw [bytes_append, bytes_append]; exact hR) w hE)
  clear hR hE
  go_enter Tryd.func31, Tryd.ntmps31
  go_wp2_with fail
  refine C.out.mono ?_
  rintro _ w1 ⟨rfl, hb⟩
  go_wp2
  go_ret
  exact ⟨rfl, hb⟩
set_option maxHeartbeats 1000000 in
set_option maxRecDepth 100000 in
theorem rleaf_to (s R : ByteArray) (hs : s.size ≤ 10000000) (hR : Mk.leaf s.data.toList = R.data.toList) (w : World) :
    Calls Tryd.prog 30 #[.string s] w fun e w' => e = .returned (.string R) ∧ Below w.heap.size w w' := by
  have C := Lib.hid (rsum_to rsum (⟨#[0]⟩ ++ s) (size_one 0 s hs) R (by rw [bytes_append]; exact hR) w)
  clear hR
  go_enter Tryd.func30, Tryd.ntmps30
  go_wp2_with fail
  refine C.out.mono ?_
  rintro _ w1 ⟨rfl, hb⟩
  go_wp2
  go_ret
  exact ⟨rfl, hb⟩
set_option maxHeartbeats 1000000 in
set_option maxRecDepth 100000 in
theorem rjoin_to (a b R : ByteArray) (ha : a.size ≤ 10000000) (hb : b.size ≤ 10000000) (hR : Mk.join a.data.toList b.data.toList = R.data.toList) (w : World) :
    Calls Tryd.prog 32 #[.string a, .string b] w fun e w' => e = .returned (.string R) ∧ Below w.heap.size w w' := by
  have C := Lib.hid (rsum_to rsum ((⟨#[1]⟩ ++ a) ++ b) (size_two 1 a b ha hb) R (by rw [bytes_append, bytes_append]; exact hR) w)
  clear hR
  go_enter Tryd.func32, Tryd.ntmps32
  go_wp2_with fail
  refine C.out.mono ?_
  rintro _ w1 ⟨rfl, hb⟩
  go_wp2
  go_ret
  exact ⟨rfl, hb⟩
end Go.Proofs.YteiabaddmclmlaaDoor
