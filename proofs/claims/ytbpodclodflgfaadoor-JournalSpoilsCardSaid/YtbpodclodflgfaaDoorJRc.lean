/-
  The reference's Crc.
-/
import Derived.Test.YtbpodclodflgfaaDoorJTn
namespace Go.Proofs.YtbpodclodflgfaaDoor
open Go Go.RowKit
theorem crcBit_odd (X : Dg.W32) (h : X.toNat % 2 = 1) : bits .xor .i64 ((X.toNat : Int) / (2 : Int)) 3988292384 = ((Dg.crcBit X).toNat : Int) := by
  have e : (X.toNat : Int) / (2 : Int) = ((X >>> 1).toNat : Int) := by rw [Dg.w_shr]; rfl
  rw [e, show (3988292384 : Int) = ((3988292384 : Dg.W32).toNat : Int) from rfl, Dg.v_xor]
  unfold Dg.crcBit
  rw [if_pos h]
theorem crcBit_even (X : Dg.W32) (h : ¬ X.toNat % 2 = 1) : (X.toNat : Int) / (2 : Int) = ((Dg.crcBit X).toNat : Int) := by
  have e : (X.toNat : Int) / (2 : Int) = ((X >>> 1).toNat : Int) := by rw [Dg.w_shr]; rfl
  rw [e]
  unfold Dg.crcBit
  rw [if_neg h]
  simp
set_option maxHeartbeats 4000000 in
set_option maxRecDepth 100000 in
theorem rcrc_any (s : ByteArray) (hs : s.size ≤ 100000000) (w : World) :
    Calls Tryd.prog 74 #[.string s] w fun e w' => e = .returned (.int .i64 (Dg.crc s.data.toList).toNat) ∧ w = w' := by
  have hz := Lib.hid (Lib.size_eq s)
  go_enter Tryd.func74, Tryd.ntmps74
  go_wp2_with fail
  go_loopw [3, 4] (fun v i wr => ∃ k : Nat, i = .int .i64 k ∧ k ≤ s.size ∧ v = .int .i64 ((Dg.crcReg 4294967295 (s.data.toList.take k)).toNat : Int) ∧ w = wr) (fun _ i _ => s.size - (intOf i).toNat)
  case atStart => exact ⟨0, rfl, by omega, rfl, rfl⟩
  case round =>
    obtain ⟨k, rfl, hk, rfl, rfl⟩ := hrel
    by_cases hlt : k < s.size
    · obtain ⟨c, hc⟩ : ∃ c, s[k] = c := ⟨_, rfl⟩
      have hN : Dg.crcReg 4294967295 (s.data.toList.take (k + 1)) = Dg.crcN 8 (Dg.crcReg 4294967295 (s.data.toList.take k) ^^^ Dg.w8 c) := by
        rw [take_snoc (by rw [← hz.out]; exact hlt), Dg.crcReg_append, ← hc]
        rfl
      obtain ⟨r, hr⟩ : ∃ r, Dg.crcReg 4294967295 (s.data.toList.take k) = r := ⟨_, rfl⟩
      rw [hr] at hN
      rw [hr]
      clear hr
      have h1 : bits .xor .i64 (r.toNat : Int) (c.toNat : Int) = ((r ^^^ Dg.w8 c).toNat : Int) := by rw [← w8_nat, Dg.v_xor]
      obtain ⟨X0, hX0⟩ : ∃ X, r ^^^ Dg.w8 c = X := ⟨_, rfl⟩
      rw [hX0] at h1 hN
      clear hX0
      obtain ⟨Z, hZ⟩ : ∃ Z, Dg.crcReg 4294967295 (s.data.toList.take (k + 1)) = Z := ⟨_, rfl⟩
      rw [hZ] at hN
      have HZ := Lib.hid (show ∀ P : Dg.W32 → Prop, P Z → P (Dg.crcReg 4294967295 (s.data.toList.take (k + 1))) from fun P h => by rw [hZ]; exact h)
      have HN := Lib.hid hN
      have hrl := r.isLt
      have hcl := UInt8.toNat_lt c
      have hX0l := X0.isLt
      clear hZ hN
      go_wp2_with fail
      go_loopw [3, 5] (fun v j wr => ∃ (m : Nat) (X : Dg.W32), j = .int .i64 m ∧ m ≤ 8 ∧ v = .int .i64 (X.toNat : Int) ∧ Hid (Z = Dg.crcN (8 - m) X) ∧ w = wr) (fun _ j _ => 8 - (intOf j).toNat)
      case atStart => exact ⟨0, X0, rfl, by omega, rfl, HN.out, rfl⟩
      case round =>
        clear HN
        obtain ⟨m, X, rfl, hm, rfl, hinv, rfl⟩ := hrel
        by_cases hm8 : m < 8
        · have hE := hinv.out
          rw [show 8 - m = (8 - (m + 1)) + 1 from by omega] at hE
          have HE : Hid (Z = Dg.crcN (8 - (m + 1)) (Dg.crcBit X)) := hE
          have hXl := X.isLt
          clear hE hinv
          by_cases hodd : X.toNat % 2 = 1
          · have hb := crcBit_odd X hodd
            have q : ((X.toNat : Int) % 2) = 1 := by omega
            obtain ⟨Y, hY⟩ : ∃ Y, Dg.crcBit X = Y := ⟨_, rfl⟩
            rw [hY] at hb HE
            clear hY
            go_wp2
            go_roundw
            case rel => exact ⟨m + 1, Y, by go_num, by omega, rfl, HE.out, by first | rfl | trivial⟩
            case measure => simp [intOf]; omega
          · have hb := Lib.hid (crcBit_even X hodd)
            have q : ((X.toNat : Int) % 2) = 0 := by omega
            go_wp2
            go_roundw
            case rel => exact ⟨m + 1, Dg.crcBit X, by go_num, by omega, by rw [hb.out], HE.out, by first | rfl | trivial⟩
            case measure => simp [intOf]; omega
        · obtain rfl : m = 8 := by omega
          have hE : Z = X := hinv.out
          subst hE
          clear hinv
          go_wp2
          go_roundw
          case rel => exact ⟨k + 1, by go_num, by omega, HZ.out (fun t => Value.int .i64 (Z.toNat : Int) = Value.int .i64 (t.toNat : Int)) rfl, by first | rfl | trivial⟩
          case measure => simp [intOf]; omega
    · obtain rfl : k = s.size := by omega
      have e : s.data.toList.take s.size = s.data.toList := List.take_of_length_le (by rw [← hz.out]; exact Nat.le_refl _)
      rw [e]
      have HC : Hid (Dg.crc s.data.toList = ~~~ Dg.crcReg 4294967295 s.data.toList) := rfl
      obtain ⟨R, hR⟩ : ∃ R, Dg.crcReg 4294967295 s.data.toList = R := ⟨_, rfl⟩
      rw [hR] at HC
      rw [hR]
      clear hR e
      have hF : bits .xor .i64 (R.toNat : Int) 4294967295 = ((~~~ R).toNat : Int) := by
        rw [Dg.not_xor]
        exact Dg.v_xor R 4294967295
      obtain ⟨C, hC⟩ : ∃ C, ~~~ R = C := ⟨_, rfl⟩
      rw [hC] at HC hF
      clear hC
      go_wp2
      go_ret
      exact ⟨by rw [HC.out]; rfl, rfl⟩
end Go.Proofs.YtbpodclodflgfaaDoor
