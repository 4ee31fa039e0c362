/-
  The reference's get and Rows.
-/
import Derived.Test.YtbpodclodflgfaaDoorJOn
namespace Go.Proofs.YtbpodclodflgfaaDoor
open Go Go.RowKit
namespace Jn
/-- The number read from its last byte on: m bytes are read. -/
def valH (l : B) : Nat → Nat
  | 0 => 0
  | m + 1 => valH l m * 256 + (l.getD (7 - m) 0).toNat
theorem valH_8 (l : B) : valH l 8 = valN l 8 := by
  simp only [valH, valN, show 7 - 0 = 7 from rfl, show 7 - 1 = 6 from rfl, show 7 - 2 = 5 from rfl, show 7 - 3 = 4 from rfl, show 7 - 4 = 3 from rfl, show 7 - 5 = 2 from rfl, show 7 - 6 = 1 from rfl, show 7 - 7 = 0 from rfl]
  omega
theorem or_low (m c : Nat) (hc : c < 256) : bits .or .i64 (wrap64 (wrap64 (m : Int) * 256)) (wrap64 (c : Int)) = wrap64 ((m * 256 + c : Nat) : Int) := by
  rw [show wrap64 (c : Int) = (c : Int) by unfold wrap64; omega]
  show IntKind.i64.wrap ((BitVec.ofInt 64 (wrap64 (wrap64 (m : Int) * 256)) ||| BitVec.ofInt 64 (c : Int)).toNat : Int) = _
  have e1 : (BitVec.ofInt 64 (wrap64 (wrap64 (m : Int) * 256))).toNat = (m * 256) % 18446744073709551616 := by
    rw [BitVec.toNat_ofInt]
    unfold wrap64
    omega
  have e2 : (BitVec.ofInt 64 (c : Int)).toNat = c := by
    rw [BitVec.toNat_ofInt]
    omega
  rw [BitVec.toNat_or, e1, e2, nat_join 8 _ _ (by omega) hc, i64_wrap]
  unfold wrap64
  omega
end Jn
theorem getD_of (s : ByteArray) (a j : Nat) (h : a + j < s.size) : (s.data.toList.drop a).getD j 0 = s[a + j] := by
  have hz := Lib.size_eq s
  rw [List.getD_eq_getElem?_getD, List.getElem?_drop, List.getElem?_eq_getElem (by omega)]
  rfl
set_option maxHeartbeats 1000000 in
set_option maxRecDepth 100000 in
theorem rget_yes (s : ByteArray) (a : Nat) (hs : s.size ≤ 100000000) (h : a + 8 ≤ s.size) (w : World) : Calls Tryd.prog 73 #[.string s, .int .i64 a] w fun e w' => e = .returned (.tuple #[.int .i64 (Jn.val (s.data.toList.drop a)), .bool true]) ∧ w = w' := by
  have e1 : decide ((a : Int) < 0) = false := by simp
  have e2 : decide ((s.size : Int) < 8) = false := by simp; omega
  have e3 : decide ((s.size : Int) - 8 < (a : Int)) = false := by simp; omega
  have HV := Lib.hid (show wrap64 (Jn.valH (s.data.toList.drop a) 8 : Int) = Jn.val (s.data.toList.drop a) from by rw [Jn.valH_8]; rfl)
  obtain ⟨V, hV⟩ : ∃ V, Jn.val (s.data.toList.drop a) = V := ⟨_, rfl⟩
  rw [hV] at HV ⊢
  clear hV
  go_enter Tryd.func73, Tryd.ntmps73
  go_wp2
  go_loopw [6, 7] (fun x6 x7 wr => ∃ (m : Nat) (i : Int), x7 = .int .i64 i ∧ m ≤ 8 ∧ -1 ≤ i ∧ i ≤ 7 ∧ Hid (i = 7 - (m : Int)) ∧ x6 = .int .i64 (wrap64 (Jn.valH (s.data.toList.drop a) m : Int)) ∧ w = wr) (fun _ x7 _ => (intOf x7 + 1).toNat)
  case atStart => exact ⟨0, 7, rfl, by omega, by omega, by omega, rfl, by simp [Jn.valH, wrap64], rfl⟩
  case round =>
    obtain ⟨m, i, rfl, hm, hi0, hi7, hI, rfl, rfl⟩ := hrel
    by_cases h0 : 0 ≤ i
    · obtain ⟨j, rfl⟩ := Int.eq_ofNat_of_zero_le h0
      have hj : 7 - m = j := by have := hI.out; omega
      have hm8 : m < 8 := by have := hI.out; omega
      have hlt : a + j < s.size := by omega
      obtain ⟨c, hc⟩ : ∃ c, s[a + j] = c := ⟨_, rfl⟩
      have hd := getD_of s a j hlt
      rw [hc] at hd
      have hN : Jn.valH (s.data.toList.drop a) (m + 1) = Jn.valH (s.data.toList.drop a) m * 256 + c.toNat := by
        rw [← hd, ← hj]; rfl
      have HO := Lib.hid (Jn.or_low (Jn.valH (s.data.toList.drop a) m) c.toNat (UInt8.toNat_lt c))
      rw [← hN] at HO
      have HM := Lib.hid hj
      clear hd hN hj
      obtain ⟨v, hv⟩ : ∃ v, wrap64 (Jn.valH (s.data.toList.drop a) m : Int) = v := ⟨_, rfl⟩
      rw [hv] at HO ⊢
      clear hv
      go_wp2
      go_roundw
      case rel => exact ⟨m + 1, (j : Int) - 1, by go_num, by omega, by omega, by omega, by have := hI.out; exact (show ((j : Int) - 1 = 7 - ((m + 1 : Nat) : Int)) by omega), by rw [← HO.out], trivial⟩
      case measure => simp [intOf]
    · obtain rfl : i = -1 := by omega
      obtain rfl : m = 8 := by have := hI.out; omega
      rw [HV.out]
      go_wp2
      go_ret2
      exact ⟨rfl, rfl⟩
set_option maxHeartbeats 1000000 in
set_option maxRecDepth 100000 in
theorem rget_no (s : ByteArray) (a : Nat) (hs : s.size ≤ 100000000) (_ha : a ≤ 200000000) (h : s.size < a + 8) (w : World) : Calls Tryd.prog 73 #[.string s, .int .i64 a] w fun e w' => e = .returned (.tuple #[.int .i64 0, .bool false]) ∧ w = w' := by
  have e1 : decide ((a : Int) < 0) = false := by simp
  by_cases h8 : s.size < 8
  · have e2 : decide ((s.size : Int) < 8) = true := by simp; omega
    go_enter Tryd.func73, Tryd.ntmps73
    go_wp2
    go_ret2
    exact ⟨rfl, rfl⟩
  · have e2 : decide ((s.size : Int) < 8) = false := by simp; omega
    have e3 : decide ((s.size : Int) - 8 < (a : Int)) = true := by simp; omega
    go_enter Tryd.func73, Tryd.ntmps73
    go_wp2
    go_ret2
    exact ⟨rfl, rfl⟩
end Go.Proofs.YtbpodclodflgfaaDoor
