/-
  Crc is CRC-32.
-/
import Derived.Test.YteiabaddmclmlaaDoorDProc
namespace Go.Proofs.YteiabaddmclmlaaDoor
open Go Go.RowKit Go.Shelf
theorem take_snoc {l : List UInt8} {k : Nat} (h : k < l.length) : l.take (k + 1) = l.take k ++ [l[k]] := List.take_succ_eq_append_getElem h
theorem crcT_at (j : Nat) (h : j < 16) : crcT.getD j 0 = Dg.crcN 4 (BitVec.ofNat 32 j) := by
  unfold crcT
  simp [h]
theorem w8_nat (c : UInt8) : (Dg.w8 c).toNat = c.toNat := by
  have := UInt8.toNat_lt c
  unfold Dg.w8
  rw [BitVec.toNat_ofNat, Nat.mod_eq_of_lt (by omega)]
theorem crc_step (X : Dg.W32) : bits .and .u32 (X.toNat : Int) 15 = ((X &&& 15).toNat : Int) ∧ (X &&& 15).toNat < 16 ∧ bits .xor .u32 ((X.toNat : Int) / (16 : Int)) ((crcT.getD (X &&& 15).toNat 0).toNat : Int) = ((Dg.crcN 4 X).toNat : Int) := by
  have h15 : (X &&& 15).toNat < 16 := by
    rw [BitVec.toNat_and]
    exact Nat.lt_succ_of_le Nat.and_le_right
  refine ⟨Dg.w_and X 15, h15, ?_⟩
  rw [crcT_at _ h15, show BitVec.ofNat 32 (X &&& 15).toNat = X &&& 15 from by simp, show (X.toNat : Int) / (16 : Int) = ((X >>> 4).toNat : Int) from by rw [Dg.w_shr]; rfl, Dg.w_xor, ← Dg.crc_four]
theorem wrap64_nat (C : Dg.W32) : wrap64 (C.toNat : Int) = (C.toNat : Int) := by
  have := C.isLt
  unfold wrap64
  omega
theorem crc_not (R : Dg.W32) : bits .xor .u32 IntKind.u32.max (R.toNat : Int) = ((~~~ R).toNat : Int) := by
  have := Dg.w_xor 4294967295 R
  rw [Dg.not_xor, BitVec.xor_comm]
  exact this
set_option maxHeartbeats 4000000 in
set_option maxRecDepth 100000 in
theorem crc_any (s : ByteArray) (hs : s.size ≤ 100000000) (w : World) (hE : EnvC w) :
    Calls Tryd.prog 19 #[.string s] w fun e w' => e = .returned (.int .i64 (Dg.crc s.data.toList).toNat) ∧ w = w' := by
  have HE := Lib.hid hE
  have hz := Lib.hid (Lib.size_eq s)
  clear hE
  go_enter Tryd.func19, Tryd.ntmps19
  go_wp2_with fail
  go_loopw [3, 7] (fun v i wr => ∃ k : Nat, i = .int .i64 k ∧ k ≤ s.size ∧ v = .int .u32 ((Dg.crcReg 4294967295 (s.data.toList.take k)).toNat : Int) ∧ w = wr) (fun _ i _ => s.size - (intOf i).toNat)
  case atStart => exact ⟨0, rfl, by omega, rfl, rfl⟩
  case round =>
    obtain ⟨k, rfl, hk, rfl, rfl⟩ := hrel
    by_cases hlt : k < s.size
    · obtain ⟨c, hc⟩ : ∃ c, s[k] = c := ⟨_, rfl⟩
      have hN : Dg.crcReg 4294967295 (s.data.toList.take (k + 1)) = Dg.crcByte (Dg.crcReg 4294967295 (s.data.toList.take k)) c := by
        rw [take_snoc (by rw [← hz.out]; exact hlt), Dg.crcReg_append, ← hc]
        rfl
      obtain ⟨r, hr⟩ : ∃ r, Dg.crcReg 4294967295 (s.data.toList.take k) = r := ⟨_, rfl⟩
      rw [hr] at hN
      rw [hr]
      clear hr
      have HN := Lib.hid hN
      clear hN
      have h1 : bits .xor .u32 (r.toNat : Int) (c.toNat : Int) = ((r ^^^ Dg.w8 c).toNat : Int) := by rw [← w8_nat, Dg.w_xor]
      obtain ⟨h2, h3, h4⟩ := crc_step (r ^^^ Dg.w8 c)
      have hZ := Dg.crcByte_four r c
      obtain ⟨X, hX⟩ : ∃ X, r ^^^ Dg.w8 c = X := ⟨_, rfl⟩
      rw [hX] at h1 h2 h3 h4 hZ
      clear hX
      obtain ⟨h5, h6, h7⟩ := crc_step (Dg.crcN 4 X)
      obtain ⟨Y, hY⟩ : ∃ Y, Dg.crcN 4 X = Y := ⟨_, rfl⟩
      rw [hY] at h4 h5 h6 h7 hZ
      clear hY
      rw [← hZ] at h7
      have HZ := Lib.hid hZ
      clear hZ
      have c1 := HE.out.c _ h3
      have c2 := HE.out.c _ h6
      obtain ⟨i, hi⟩ : ∃ i, (X &&& 15).toNat = i := ⟨_, rfl⟩
      rw [hi] at h2 h3 h4 c1
      obtain ⟨j, hj⟩ : ∃ i, (Y &&& 15).toNat = i := ⟨_, rfl⟩
      rw [hj] at h5 h6 h7 c2
      obtain ⟨t1, ht1⟩ : ∃ t, crcT.getD i 0 = t := ⟨_, rfl⟩
      obtain ⟨t2, ht2⟩ : ∃ t, crcT.getD j 0 = t := ⟨_, rfl⟩
      rw [ht1] at h4 c1
      rw [ht2] at h7 c2
      clear hi hj ht1 ht2
      have hcl := UInt8.toNat_lt c
      have hXl := X.isLt
      have hYl := Y.isLt
      have hrl := r.isLt
      go_wp2
      go_roundw
      case rel => exact ⟨k + 1, by go_num, by omega, by rw [HN.out], trivial⟩
      case measure => simp [intOf]; omega
    · obtain rfl : k = s.size := by omega
      have e : s.data.toList.take s.size = s.data.toList := List.take_of_length_le (by rw [← hz.out]; exact Nat.le_refl _)
      rw [e]
      have HC : Hid (Dg.crc s.data.toList = ~~~ Dg.crcReg 4294967295 s.data.toList) := rfl
      obtain ⟨R, hR⟩ : ∃ R, Dg.crcReg 4294967295 s.data.toList = R := ⟨_, rfl⟩
      rw [hR] at HC
      rw [hR]
      clear hR e
      have hF := crc_not R
      have hCl := (~~~ R).isLt
      obtain ⟨C, hC⟩ : ∃ C, ~~~ R = C := ⟨_, rfl⟩
      rw [hC] at HC hF hCl
      clear hC
      go_wp2
      go_ret
      exact ⟨by rw [HC.out]; exact ret_int (wrap64_nat C), rfl⟩
end Go.Proofs.YteiabaddmclmlaaDoor
