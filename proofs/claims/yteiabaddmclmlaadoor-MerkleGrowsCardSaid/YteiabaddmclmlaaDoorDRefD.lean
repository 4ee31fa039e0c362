/-
  The reference's Crc, digit, value, turn, word, bit.
  The reference's word, turn, Hex, Unhex.
  The reference's Unhex.
  The reference's mixed, Mac and Short, out of its Sum.
-/
import Derived.Test.YteiabaddmclmlaaDoorDUnb32
import Derived.Test.YteiabaddmclmlaaDoorDCrcW
import Derived.Test.YteiabaddmclmlaaDoorDKeysP
import Derived.Test.YteiabaddmclmlaaDoorDShort
namespace Go.Proofs.YteiabaddmclmlaaDoor
open Go Go.RowKit Go.Shelf
theorem crcBit_odd (X : Dg.W32) (h : X.toNat % 2 = 1) : bits .xor .i64 ((X.toNat : Int) / (2 : Int)) 3988292384 = ((Dg.crcBit X).toNat : Int) := by
  have e : (X.toNat : Int) / (2 : Int) = ((X >>> 1).toNat : Int) := by rw [Dg.w_shr]; rfl
  rw [e, show (3988292384 : Int) = ((3988292384 : Dg.W32).toNat : Int) from rfl, Dg.v_xor]
  unfold Dg.crcBit
  rw [if_pos h]
theorem crcBit_even (X : Dg.W32) (h : ¬ X.toNat % 2 = 1) : (X.toNat : Int) / (2 : Int) = ((Dg.crcBit X).toNat : Int) := by
  have e : (X.toNat : Int) / (2 : Int) = ((X >>> 1).toNat : Int) := by rw [Dg.w_shr]; rfl
  rw [e]
  unfold Dg.crcBit
  rw [if_neg h]
  simp
set_option maxHeartbeats 4000000 in
set_option maxRecDepth 100000 in
theorem rcrc_any (s : ByteArray) (hs : s.size ≤ 100000000) (w : World) :
    Calls Tryd.prog 20 #[.string s] w fun e w' => e = .returned (.int .i64 (Dg.crc s.data.toList).toNat) ∧ w = w' := by
  have hz := Lib.hid (Lib.size_eq s)
  go_enter Tryd.func20, Tryd.ntmps20
  go_wp2_with fail
  go_loopw [3, 4] (fun v i wr => ∃ k : Nat, i = .int .i64 k ∧ k ≤ s.size ∧ v = .int .i64 ((Dg.crcReg 4294967295 (s.data.toList.take k)).toNat : Int) ∧ w = wr) (fun _ i _ => s.size - (intOf i).toNat)
  case atStart => exact ⟨0, rfl, by omega, rfl, rfl⟩
  case round =>
    obtain ⟨k, rfl, hk, rfl, rfl⟩ := hrel
    by_cases hlt : k < s.size
    · obtain ⟨c, hc⟩ : ∃ c, s[k] = c := ⟨_, rfl⟩
      have hN : Dg.crcReg 4294967295 (s.data.toList.take (k + 1)) = Dg.crcN 8 (Dg.crcReg 4294967295 (s.data.toList.take k) ^^^ Dg.w8 c) := by
        rw [take_snoc (by rw [← hz.out]; exact hlt), Dg.crcReg_append, ← hc]
        rfl
      obtain ⟨r, hr⟩ : ∃ r, Dg.crcReg 4294967295 (s.data.toList.take k) = r := ⟨_, rfl⟩
      rw [hr] at hN
      rw [hr]
      clear hr
      have h1 : bits .xor .i64 (r.toNat : Int) (c.toNat : Int) = ((r ^^^ Dg.w8 c).toNat : Int) := by rw [← w8_nat, Dg.v_xor]
      obtain ⟨X0, hX0⟩ : ∃ X, r ^^^ Dg.w8 c = X := ⟨_, rfl⟩
      rw [hX0] at h1 hN
      clear hX0
      obtain ⟨Z, hZ⟩ : ∃ Z, Dg.crcReg 4294967295 (s.data.toList.take (k + 1)) = Z := ⟨_, rfl⟩
      rw [hZ] at hN
      have HZ := Lib.hid (show ∀ P : Dg.W32 → Prop, P Z → P (Dg.crcReg 4294967295 (s.data.toList.take (k + 1))) from fun P h => by rw [hZ]; exact h)
      have HN := Lib.hid hN
      have hrl := r.isLt
      have hcl := UInt8.toNat_lt c
      have hX0l := X0.isLt
      clear hZ hN
      go_wp2_with fail
      go_loopw [3, 5] (fun v j wr => ∃ (m : Nat) (X : Dg.W32), j = .int .i64 m ∧ m ≤ 8 ∧ v = .int .i64 (X.toNat : Int) ∧ Hid (Z = Dg.crcN (8 - m) X) ∧ w = wr) (fun _ j _ => 8 - (intOf j).toNat)
      case atStart => exact ⟨0, X0, rfl, by omega, rfl, HN.out, rfl⟩
      case round =>
        clear HN
        obtain ⟨m, X, rfl, hm, rfl, hinv, rfl⟩ := hrel
        by_cases hm8 : m < 8
        · have hE := hinv.out
          rw [show 8 - m = (8 - (m + 1)) + 1 from by omega] at hE
          have HE : Hid (Z = Dg.crcN (8 - (m + 1)) (Dg.crcBit X)) := hE
          have hXl := X.isLt
          clear hE hinv
          by_cases hodd : X.toNat % 2 = 1
          · have hb := crcBit_odd X hodd
            have q : ((X.toNat : Int) % 2) = 1 := by omega
            obtain ⟨Y, hY⟩ : ∃ Y, Dg.crcBit X = Y := ⟨_, rfl⟩
            rw [hY] at hb HE
            clear hY
            go_wp2
            go_roundw
            case rel => exact ⟨m + 1, Y, by go_num, by omega, rfl, HE.out, by first | rfl | trivial⟩
            case measure => simp [intOf]; omega
          · have hb := Lib.hid (crcBit_even X hodd)
            have q : ((X.toNat : Int) % 2) = 0 := by omega
            go_wp2
            go_roundw
            case rel => exact ⟨m + 1, Dg.crcBit X, by go_num, by omega, by rw [hb.out], HE.out, by first | rfl | trivial⟩
            case measure => simp [intOf]; omega
        · obtain rfl : m = 8 := by omega
          have hE : Z = X := hinv.out
          subst hE
          clear hinv
          go_wp2
          go_roundw
          case rel => exact ⟨k + 1, by go_num, by omega, HZ.out (fun t => Value.int .i64 (Z.toNat : Int) = Value.int .i64 (t.toNat : Int)) rfl, by first | rfl | trivial⟩
          case measure => simp [intOf]; omega
    · obtain rfl : k = s.size := by omega
      have e : s.data.toList.take s.size = s.data.toList := List.take_of_length_le (by rw [← hz.out]; exact Nat.le_refl _)
      rw [e]
      have HC : Hid (Dg.crc s.data.toList = ~~~ Dg.crcReg 4294967295 s.data.toList) := rfl
      obtain ⟨R, hR⟩ : ∃ R, Dg.crcReg 4294967295 s.data.toList = R := ⟨_, rfl⟩
      rw [hR] at HC
      rw [hR]
      clear hR e
      have hF : bits .xor .i64 (R.toNat : Int) 4294967295 = ((~~~ R).toNat : Int) := by
        rw [Dg.not_xor]
        exact Dg.v_xor R 4294967295
      obtain ⟨C, hC⟩ : ∃ C, ~~~ R = C := ⟨_, rfl⟩
      rw [hC] at HC hF
      clear hC
      go_wp2
      go_ret
      exact ⟨by rw [HC.out]; rfl, rfl⟩
set_option maxHeartbeats 1000000 in
set_option maxRecDepth 100000 in
theorem rdigit_any (n : Nat) (h : n < 16) (w : World) :
    Calls Tryd.prog 56 #[.int .i64 n] w fun e w' => e = .returned (.int .u8 ((Dg.hexDigits.getD n 0).toNat : Int)) ∧ w = w' := by
  have h1 : n < 10 → ((Dg.hexDigits.getD n 0).toNat : Int) = 48 + (n : Int) := by
    have H : ∀ k : Fin 16, k.val < 10 → (Dg.hexDigits.getD k.val 0).toNat = 48 + k.val := by decide +kernel
    intro h10
    have := H ⟨n, h⟩ h10
    simp only at this
    omega
  have h2 : ¬ n < 10 → ((Dg.hexDigits.getD n 0).toNat : Int) = 87 + (n : Int) := by
    have H : ∀ k : Fin 16, ¬ k.val < 10 → (Dg.hexDigits.getD k.val 0).toNat = 87 + k.val := by decide +kernel
    intro h10
    have := H ⟨n, h⟩ h10
    simp only at this
    omega
  obtain ⟨V, hV⟩ : ∃ V, ((Dg.hexDigits.getD n 0).toNat : Int) = V := ⟨_, rfl⟩
  rw [hV] at h1 h2 ⊢
  clear hV
  by_cases h10 : n < 10
  · have H1 := Lib.hid (h1 h10)
    clear h1 h2
    go_enter Tryd.func56, Tryd.ntmps56
    go_wp2
    go_ret
    exact ⟨by rw [H1.out]; rfl, rfl⟩
  · have H2 := Lib.hid (h2 h10)
    clear h1 h2
    go_enter Tryd.func56, Tryd.ntmps56
    go_wp2
    go_ret
    refine ⟨?_, rfl⟩
    rw [H2.out]
    exact ret_int (by omega)
set_option maxHeartbeats 1000000 in
set_option maxRecDepth 100000 in
theorem rvalue_any (c : UInt8) (w : World) :
    Calls Tryd.prog 51 #[.int .u8 (c.toNat : Int)] w fun e w' => e = .returned (.int .i64 (Dg.hexI c)) ∧ w = w' := by
  have hcl := UInt8.toNat_lt c
  have hI : Dg.hexI c = if 48 ≤ c.toNat ∧ c.toNat ≤ 57 then (c.toNat : Int) - 48 else if 97 ≤ c.toNat ∧ c.toNat ≤ 102 then (c.toNat : Int) - 87 else -1 := by
    unfold Dg.hexI Dg.hexV
    by_cases h1 : 48 ≤ c.toNat ∧ c.toNat ≤ 57
    · rw [if_pos h1, if_pos h1]
      show ((c.toNat - 48 : Nat) : Int) = _
      omega
    · rw [if_neg h1, if_neg h1]
      by_cases h2 : 97 ≤ c.toNat ∧ c.toNat ≤ 102
      · rw [if_pos h2, if_pos h2]
        show ((c.toNat - 87 : Nat) : Int) = _
        omega
      · rw [if_neg h2, if_neg h2]
  obtain ⟨V, hV⟩ : ∃ V, Dg.hexI c = V := ⟨_, rfl⟩
  rw [hV] at hI ⊢
  obtain ⟨n, hn⟩ : ∃ n, c.toNat = n := ⟨_, rfl⟩
  rw [hn] at hI hcl ⊢
  clear hV hn
  by_cases a1 : 48 ≤ n
  · by_cases a2 : n ≤ 57
    · rw [if_pos ⟨a1, a2⟩] at hI
      have HI := Lib.hid hI
      clear hI
      go_enter Tryd.func51, Tryd.ntmps51
      go_wp2
      go_ret
      exact ⟨by rw [HI.out]; exact ret_int (by omega), rfl⟩
    · rw [if_neg (fun h => a2 h.2)] at hI
      by_cases a3 : 97 ≤ n
      · by_cases a4 : n ≤ 102
        · rw [if_pos ⟨a3, a4⟩] at hI
          have HI := Lib.hid hI
          clear hI
          go_enter Tryd.func51, Tryd.ntmps51
          go_wp2
          go_ret
          exact ⟨by rw [HI.out]; exact ret_int (by omega), rfl⟩
        · rw [if_neg (fun h => a4 h.2)] at hI
          have HI := Lib.hid hI
          clear hI
          go_enter Tryd.func51, Tryd.ntmps51
          go_wp2
          go_ret
          exact ⟨by rw [HI.out]; rfl, rfl⟩
      · rw [if_neg (fun h => a3 h.1)] at hI
        have HI := Lib.hid hI
        clear hI
        go_enter Tryd.func51, Tryd.ntmps51
        go_wp2
        go_ret
        exact ⟨by rw [HI.out]; rfl, rfl⟩
  · rw [if_neg (fun h => a1 h.1), if_neg (by omega)] at hI
    have HI := Lib.hid hI
    have b3 : ¬ 97 ≤ n := by omega
    clear hI
    go_enter Tryd.func51, Tryd.ntmps51
    go_wp2
    go_ret
    exact ⟨by rw [HI.out]; rfl, rfl⟩
end Go.Proofs.YteiabaddmclmlaaDoor
namespace Go.Proofs.YteiabaddmclmlaaDoor
open Go Go.RowKit Go.Shelf
def Dg.dgt (n : Nat) : UInt8 := Dg.hexDigits.getD n 0
theorem rdigit_dgt (n : Nat) (h : n < 16) (w : World) :
    Calls Tryd.prog 56 #[.int .i64 n] w fun e w' => e = .returned (.int .u8 ((Dg.dgt n).toNat : Int)) ∧ w = w' := rdigit_any n h w
theorem and32 (n : Nat) (h : n < 9223372036854775808) : bits .and .i64 (n : Int) 4294967295 = ((n % 4294967296 : Nat) : Int) := by
  have h1 : (BitVec.ofInt 64 (n : Int)).toNat = n := by rw [BitVec.ofInt_natCast, BitVec.toNat_ofNat]; exact Nat.mod_eq_of_lt (by omega)
  have h2 : (BitVec.ofInt 64 4294967295).toNat = 4294967295 := by decide
  show IntKind.i64.wrap ((BitVec.ofInt 64 (n : Int) &&& BitVec.ofInt 64 4294967295).toNat : Int) = _
  rw [BitVec.toNat_and, h1, h2, show n &&& 4294967295 = n % 2 ^ 32 from Nat.and_two_pow_sub_one_eq_mod n 32, IntWalk.i64_in _ (by omega)]
set_option maxHeartbeats 1000000 in
set_option maxRecDepth 100000 in
theorem rword_any (n : Nat) (h : n < 9223372036854775808) (w : World) :
    Calls Tryd.prog 75 #[.int .i64 n] w fun e w' => e = .returned (.int .i64 ((n % 4294967296 : Nat) : Int)) ∧ w = w' := by
  have hb := and32 n h
  obtain ⟨m, hm⟩ : ∃ m, n % 4294967296 = m := ⟨_, rfl⟩
  rw [hm] at hb ⊢
  clear hm
  go_enter Tryd.func75, Tryd.ntmps75
  go_wp2
  go_ret
  exact ⟨rfl, rfl⟩
theorem rword_int (v : Int) (n m : Nat) (hv : v = (n : Int)) (h : n < 9223372036854775808) (hm : n % 4294967296 = m) (w : World) :
    Calls Tryd.prog 75 #[.int .i64 v] w fun e w' => e = .returned (.int .i64 (m : Int)) ∧ w' = w := by
  subst hv hm
  exact (rword_any n h w).mono fun _ _ h => ⟨h.1, h.2.symm⟩
theorem rturn_said (x : Dg.W32) (k m : Nat) (h : k + m = 32) : bits .or .i64 ((x.toNat : Int) / 2 ^ k) ((x.toNat * 2 ^ m % 4294967296 : Nat) : Int) = ((Dg.ror x k).toNat : Int) := by
  have a : ((x.toNat * 2 ^ m % 4294967296 : Nat) : Int) = ((x <<< m).toNat : Int) := by
    rw [BitVec.toNat_shiftLeft, Nat.shiftLeft_eq]
  have b : (x.toNat : Int) / 2 ^ k = ((x >>> k).toNat : Int) := by rw [Dg.w_shr]; simp
  rw [a, b, Dg.v_or]
  unfold Dg.ror
  rw [show 32 - k = m from by omega]
set_option maxHeartbeats 1000000 in
set_option maxRecDepth 100000 in
theorem rturn_any (x : Dg.W32) (k : Nat) (h1 : 1 ≤ k) (h2 : k ≤ 31) (w : World) :
    Calls Tryd.prog 74 #[.int .i64 x.toNat, .int .i64 k] w fun e w' => e = .returned (.int .i64 (Dg.ror x k).toNat) ∧ ∃ n, w' = w.drewN n := by
  obtain ⟨m, hm⟩ : ∃ m, k + m = 32 := ⟨32 - k, by omega⟩
  have hs := rturn_said x k m hm
  have e1 : IntKind.i64.wrap (32 - (k : Int)) = (m : Int) := by rw [IntWalk.i64_in _ (by omega)]; omega
  have hx := x.isLt
  have hp : x.toNat * 2 ^ m < 9223372036854775808 := by
    have : 2 ^ m ≤ 2 ^ 31 := Nat.pow_le_pow_right (by omega) (by omega)
    have h3 : x.toNat * 2 ^ m < 2 ^ 32 * 2 ^ 31 := Nat.mul_lt_mul_of_lt_of_le hx this (by omega)
    exact h3
  obtain ⟨X, hX⟩ : ∃ X, x.toNat = X := ⟨_, rfl⟩
  obtain ⟨R, hR⟩ : ∃ R, (Dg.ror x k).toNat = R := ⟨_, rfl⟩
  rw [hX] at hs hx hp ⊢
  rw [hR] at hs ⊢
  obtain ⟨Y, hY⟩ : ∃ Y, X * 2 ^ m = Y := ⟨_, rfl⟩
  rw [hY] at hs hp
  have hYi : (X : Int) * 2 ^ m = (Y : Int) := by rw [← hY]; simp
  obtain ⟨Z, hZ⟩ : ∃ Z, Y % 4294967296 = Z := ⟨_, rfl⟩
  rw [hZ] at hs
  have e2 : IntKind.i64.wrap (Y : Int) = (Y : Int) := IntWalk.i64_in _ (by omega)
  have HW := Lib.hid (fun (v : Int) (hv : v = (Y : Int)) (w1 : World) => rword_int v Y Z hv hp hZ w1)
  clear hX hR hY hZ
  have m1 : m ≤ 31 := by omega
  go_enter Tryd.func74, Tryd.ntmps74
  go_wp2_with fail
  go_quiet (first | (go_at_call 75; exact Calls.quiet_of_same (HW.out _ (by first | rfl | assumption) _)))
  go_wp2
  go_ret
  exact ⟨rfl, _, rfl⟩
set_option maxHeartbeats 4000000 in
set_option maxRecDepth 100000 in
theorem rhex_any (s : ByteArray) (hs : s.size ≤ 100000000) (w : World) :
    Calls Tryd.prog 22 #[.string s] w fun e w' => e = .returned (.string ⟨(Dg.hex s.data.toList).toArray⟩) ∧ Below w.heap.size w w' := by
  have hz := Lib.hid (Lib.size_eq s)
  go_enter Tryd.func22, Tryd.ntmps22
  go_wp2_with fail
  go_loopw [3, 4] (fun v i wr => ∃ k : Nat, ∃ vv : Value, vv = v ∧ i = .int .i64 k ∧ k ≤ s.size ∧ Hid (BytesOf wr w.heap.size vv (Dg.hex (s.data.toList.take k))) ∧ Hid (Below w.heap.size w wr)) (fun _ i _ => s.size - (intOf i).toNat)
  case atStart => exact ⟨0, _, rfl, rfl, by omega, World.ownsRow_nil _ _ _ _, Below.refl _ _⟩
  case round =>
    obtain ⟨k, v, rfl, rfl, hk, hown, hB⟩ := hrel
    by_cases hlt : k < s.size
    · obtain ⟨c, hc⟩ : ∃ c, s[k] = c := ⟨_, rfl⟩
      have hN : Dg.hex (s.data.toList.take (k + 1)) = Dg.hex (s.data.toList.take k) ++ Dg.hexC c := by
        rw [List.take_succ_eq_append_getElem (by rw [← hz.out]; exact hlt), ← hc]
        unfold Dg.hex
        rw [List.flatMap_append, List.flatMap_cons, List.flatMap_nil, List.append_nil]
        rfl
      have hl : (Dg.hex (s.data.toList.take k)).length = 2 * k := by rw [Dg.hex_length, List.length_take, ← hz.out, Nat.min_eq_left hk]
      obtain ⟨L, hL⟩ : ∃ L, Dg.hex (s.data.toList.take k) = L := ⟨_, rfl⟩
      rw [hL] at hown hN hl
      clear hL
      have HN := Lib.hid (show ∀ P : List UInt8 → Prop, P (L ++ Dg.hexC c) → P (Dg.hex (s.data.toList.take (k + 1))) from fun P h => by rw [hN]; exact h)
      clear hN
      have HL := Lib.hid hl
      clear hl
      have hcl := UInt8.toNat_lt c
      have HX := Lib.hid (show ∀ P : List UInt8 → Prop, P [Dg.dgt (c.toNat / 16), Dg.dgt (c.toNat % 16)] → P (Dg.hexC c) from fun P h => h)
      obtain ⟨hi4, h4⟩ : ∃ n, c.toNat / 16 = n := ⟨_, rfl⟩
      obtain ⟨lo4, h5⟩ : ∃ n, c.toNat % 16 = n := ⟨_, rfl⟩
      have q1 : ((c.toNat : Int) / 16) = (hi4 : Int) := by omega
      have q2 : ((c.toNat : Int) % 16) = (lo4 : Int) := by omega
      rw [h4, h5] at HX
      have hh : hi4 < 16 := by omega
      have hl : lo4 < 16 := by omega
      have w1 : IntKind.i64.wrap (c.toNat : Int) = (c.toNat : Int) := IntWalk.i64_in _ (by omega)
      have w2 : IntKind.i64.wrap ((c.toNat : Int).tdiv 16) = (hi4 : Int) := by
        rw [Int.tdiv_eq_ediv_of_nonneg (by omega), IntWalk.i64_in _ (by omega)]; exact q1
      have w3 : IntKind.i64.wrap ((c.toNat : Int).tmod 16) = (lo4 : Int) := by
        rw [Int.tmod_eq_emod_of_nonneg (by omega), IntWalk.i64_in _ (by omega)]; exact q2
      have w4 : IntKind.i64.wrap (hi4 : Int) = (hi4 : Int) := IntWalk.i64_in _ (by omega)
      have w5 : IntKind.i64.wrap (lo4 : Int) = (lo4 : Int) := IntWalk.i64_in _ (by omega)
      have w6 : (c.toNat : Int).tmod 16 = (lo4 : Int) := by rw [Int.tmod_eq_emod_of_nonneg (by omega)]; exact q2
      have w7 : (c.toNat : Int).tdiv 16 = (hi4 : Int) := by rw [Int.tdiv_eq_ediv_of_nonneg (by omega)]; exact q1
      clear h4 h5
      go_wp2_with fail
      go_region_held3 (fun _ => True) (trivial) ((first | (go_at_call 56; refine (rdigit_dgt _ ?_ _).mono ?_; (first | exact hh | exact hl); rintro _ w' ⟨rfl, rfl⟩) | (refine step_append_bytes (by rfl) _ _ (by rfl) w.heap.size _ L (by rfl) (BytesOf.allocDrew hown.out _) ⟨wr.heap.size, 0, none⟩ 2 2 [Dg.dgt hi4, Dg.dgt lo4] (by rfl) rfl (cells_newDrew wr (bv [Dg.dgt hi4, Dg.dgt lo4]) _) (by rw [HL.out]; omega) (Nat.le_trans hB.out.size (by first | exact Nat.le_succ _ | simp)) ?_; intro v1 w1 hown1 hgrow) | fail))
      all_goals
        have HO1 := Lib.hid (HX.out (fun t => BytesOf w1 w.heap.size v1 (L ++ t)) hown1)
        have HO2 := Lib.hid (HN.out (fun t => BytesOf w1 w.heap.size v1 t) HO1.out)
        have HB1 := Lib.hid (below_grown (below_drew (below_alloc hB.out (Nat.le_refl _) _)) (BytesOf.allocDrew hown.out _) hgrow (Nat.le_refl _) (Nat.le_refl _))
        clear hown1 hgrow HO1
        go_wp2
        go_roundw
        case rel => exact ⟨k + 1, v1, rfl, by go_num, by omega, HO2.out, HB1.out⟩
        case measure => simp [intOf]; omega
    · obtain rfl : k = s.size := by omega
      have e : s.data.toList.take s.size = s.data.toList := List.take_of_length_le (by rw [← hz.out]; exact Nat.le_refl _)
      rw [e] at hown
      have hcv := hown.out.back
      go_wp2
      go_ret
      exact ⟨rfl, hB.out⟩
end Go.Proofs.YteiabaddmclmlaaDoor
namespace Go.Proofs.YteiabaddmclmlaaDoor
open Go Go.RowKit Go.Shelf
set_option maxHeartbeats 4000000 in
set_option maxRecDepth 100000 in
theorem runhex_any (s : ByteArray) (hs : s.size ≤ 100000000) (w : World) :
    Calls Tryd.prog 12 #[.string s] w fun e w' => e = .returned (.tuple #[.string ⟨((Dg.unhex s.data.toList).getD []).toArray⟩, .bool (Dg.unhex s.data.toList).isSome]) ∧ Below w.heap.size w w' := by
  have hz := Lib.hid (Lib.size_eq s)
  by_cases hodd : s.size % 2 = 1
  · have hn := Dg.unhex_odd s.data.toList (by rw [← hz.out]; exact hodd)
    rw [hn]
    have b1 : ((s.size : Int) % 2) = 1 := by omega
    clear hn
    go_enter Tryd.func12, Tryd.ntmps12
    go_wp2
    go_ret2
    exact ⟨rfl, Below.refl _ _⟩
  · obtain ⟨n, hn⟩ : ∃ n, s.size = 2 * n := ⟨s.size / 2, by omega⟩
    have b1 : ((s.size : Int) % 2) = 0 := by omega
    have b2 : ((s.size : Int) / 2) = (n : Int) := by omega
    have b3 : n ≤ 50000000 := by omega
    have HNN := Lib.hid hn
    clear hn hodd
    obtain ⟨U, hU⟩ : ∃ U, Dg.unhex s.data.toList = U := ⟨_, rfl⟩
    have HU := Lib.hid (show ∀ P : Option (List UInt8) → Prop, (P (Dg.unhex s.data.toList) ↔ P U) from fun P => by rw [hU])
    rw [hU]
    clear hU
    go_enter Tryd.func12, Tryd.ntmps12
    go_wp2_with fail
    clear b1 b2
    go_loopw [4, 5] (fun v i wr => ∃ (j k : Nat) (vv : Value) (L : List UInt8), vv = v ∧ i = .int .i64 j ∧ Hid (j = 2 * k) ∧ k ≤ n ∧ L.length = k ∧ Hid (Dg.unhex s.data.toList = (Dg.unhex (s.data.toList.drop (2 * k))).map (L ++ ·)) ∧ Hid (BytesOf wr w.heap.size vv L) ∧ Hid (Below w.heap.size w wr)) (fun _ i _ => s.size - (intOf i).toNat)
    case atStart => exact ⟨0, 0, _, [], rfl, rfl, rfl, by omega, rfl, (by first | exact trivial | (show _ = _; simp)), World.ownsRow_nil _ _ _ _, Below.refl _ _⟩
    case round =>
      obtain ⟨j, k, v, L, rfl, rfl, hj, hk, hL, hinv, hown, hB⟩ := hrel
      have hN1 : s.size ≤ 2 * n := by have := HNN.out; omega
      have hN2 : 2 * n ≤ s.size := by have := HNN.out; omega
      have hj1 : j ≤ 2 * k := Nat.le_of_eq hj.out
      have hj2 : 2 * k ≤ j := Nat.le_of_eq hj.out.symm
      by_cases hlt : k < n
      · obtain ⟨a, ha⟩ : ∃ c, s[j] = c := ⟨_, rfl⟩
        obtain ⟨b, hb⟩ : ∃ c, s[j + 1] = c := ⟨_, rfl⟩
        have hd : s.data.toList.drop (2 * k) = a :: b :: s.data.toList.drop (2 * (k + 1)) := by
          rw [Dg.drop_two (by rw [← hz.out]; omega), ← ha, ← hb]
          have := hj.out
          subst this
          rfl
        obtain ⟨hstep, hbad⟩ := Dg.unhex_step hinv.out (a := a) (b := b) hd
        clear hd hinv
        have HS := Lib.hid hstep
        have HBad := Lib.hid hbad
        clear hstep hbad
        have e1 : IntKind.i64.wrap ((j : Int) + 1) = ((j + 1 : Nat) : Int) := by rw [IntWalk.i64_in _ (by omega)]; omega
        have al := UInt8.toNat_lt a
        have bl := UInt8.toNat_lt b
        go_wp2_with fail
        refine (rvalue_any a _).mono ?_
        rintro e w5 ⟨rfl, rfl⟩
        go_wp2_with fail
        refine (rvalue_any b _).mono ?_
        rintro e w5 ⟨rfl, rfl⟩
        cases hxa : Dg.hexV a with
        | none =>
          have e0 : Dg.hexI a = -1 := by unfold Dg.hexI; rw [hxa]
          rw [e0]
          have hUn : U = none := (HU.out (fun u => u = none)).1 (HBad.out (.inl hxa))
          have HB2 := hB
          clear HS HBad e0
          go_wp2
          go_ret2
          rw [hUn]
          exact ⟨rfl, HB2.out⟩
        | some x =>
          cases hxb : Dg.hexV b with
          | none =>
            have e9 : Dg.hexI a = (x : Int) := by unfold Dg.hexI; rw [hxa]
            rw [e9]
            clear e9
            have e0 : Dg.hexI b = -1 := by unfold Dg.hexI; rw [hxb]
            rw [e0]
            have hUn : U = none := (HU.out (fun u => u = none)).1 (HBad.out (.inr hxb))
            have HB2 := hB
            clear HS HBad e0
            go_wp2
            go_ret2
            rw [hUn]
            exact ⟨rfl, HB2.out⟩
          | some y =>
            have e9 : Dg.hexI a = (x : Int) := by unfold Dg.hexI; rw [hxa]
            have e8 : Dg.hexI b = (y : Int) := by unfold Dg.hexI; rw [hxb]
            rw [e9, e8]
            have hx := (Dg.hexV_some hxa).1
            have hy := (Dg.hexV_some hxb).1
            have hor : (16 * (x : Int) + (y : Int)) = ((UInt8.ofNat (16 * x + y)).toNat : Int) := by rw [UInt8.toNat_ofNat']; omega
            have hnx := HS.out x y hxa hxb
            obtain ⟨z, hzb⟩ : ∃ z, UInt8.ofNat (16 * x + y) = z := ⟨_, rfl⟩
            rw [hzb] at hor hnx
            have HN := Lib.hid hnx
            have hzl := UInt8.toNat_lt z
            clear hzb hnx HS HBad e9 e8 hxa hxb
            have hown2 := hown
            have hB2 := hB
            go_wp2_with (at_builtin; go_must (refine wpList_append_bytes (by rfl) _ _ (by rfl) w.heap.size _ L (by rfl) (hown2.out.alloc _) ⟨wr.heap.size, 0, none⟩ 1 1 [z] (by rfl) rfl (cells_new wr (bv [z]) _) (by omega) (Nat.le_trans hB2.out.size (by first | exact Nat.le_succ _ | simp)) ?_); intro v1 w3 hown3 hgrow; have HO3 := Lib.hid hown3; have HB3 := Lib.hid (below_grown (below_alloc hB2.out (Nat.le_refl _) _) (hown2.out.alloc _) hgrow (Nat.le_refl _) (Nat.le_refl _)); clear hown3 hgrow)
            go_roundw
            case rel => exact ⟨j + 2, k + 1, v1, L ++ [z], rfl, by go_num, (by show _ = _; rw [hj.out]; omega), by omega, by rw [List.length_append, hL]; rfl, HN.out, HO3.out, HB3.out⟩
            case measure => simp [intOf]; omega
      · obtain rfl : k = n := by omega
        have hinv' := hinv.out
        rw [List.drop_of_length_le (by rw [← hz.out]; omega)] at hinv'
        have hUs : U = some L := (HU.out (fun u => u = some L)).1 (by rw [hinv']; simp [Dg.unhex])
        have hcv := hown.out.back
        have b4 : ¬ ((j : Int) < (s.size : Int)) := by omega
        clear hinv hinv'
        go_wp2
        go_ret2
        exact ⟨rfl, hB.out⟩
end Go.Proofs.YteiabaddmclmlaaDoor
namespace Go.Proofs.YteiabaddmclmlaaDoor
open Go Go.RowKit Go.Shelf
theorem xor8i (x b : UInt8) : bits .xor .i64 (x.toNat : Int) (b.toNat : Int) = ((x ^^^ b).toNat : Int) := by
  have h1 : (x.toNat : Int) = ((Dg.w8 x).toNat : Int) := by rw [w8_nat]
  have h2 : (b.toNat : Int) = ((Dg.w8 b).toNat : Int) := by rw [w8_nat]
  rw [h1, h2, Dg.v_xor, ← Dg.w8_xor, w8_nat]
set_option maxHeartbeats 4000000 in
set_option maxRecDepth 100000 in
theorem rmixed_any (key : ByteArray) (_hk0 : key.size ≤ 100000000) (b : UInt8) (w : World) :
    Calls Tryd.prog 58 #[.string key, .int .i64 (b.toNat : Int)] w fun e w' => e = .returned (.string ⟨(Dg.mk b key.data.toList 64).toArray⟩) ∧ Below w.heap.size w w' := by
  have hbl := UInt8.toNat_lt b
  go_enter Tryd.func58, Tryd.ntmps58
  go_wp2_with fail
  go_loopw [5, 6] (fun v i wr => ∃ (k : Nat) (vv : Value), vv = v ∧ i = .int .i64 k ∧ k ≤ 64 ∧ Hid (BytesOf wr w.heap.size vv (Dg.mk b key.data.toList k)) ∧ Hid (Below w.heap.size w wr)) (fun _ i _ => 64 - (intOf i).toNat)
  case atStart => exact ⟨0, _, rfl, rfl, by omega, World.ownsRow_nil _ _ _ _, Below.refl _ _⟩
  case round =>
    obtain ⟨k, v, rfl, rfl, hk, hI, hB⟩ := hrel
    by_cases hlt : k < 64
    · have n1 := Dg.mk_next b key.data.toList k
      have l1 := Dg.mk_length b key.data.toList k
      obtain ⟨LI, hLI⟩ : ∃ L, Dg.mk b key.data.toList k = L := ⟨_, rfl⟩
      rw [hLI] at hI n1 l1
      clear hLI
      obtain ⟨x, hx⟩ : ∃ x, key.data.toList.getD k 0 = x := ⟨_, rfl⟩
      rw [hx] at n1
      have x1 := xor8i x b
      obtain ⟨y, hy⟩ : ∃ y, x ^^^ b = y := ⟨_, rfl⟩
      rw [hy] at x1 n1
      have hyl := UInt8.toNat_lt y
      have hxl := UInt8.toNat_lt x
      have N1 := Lib.hid (show ∀ P : List UInt8 → Prop, P (LI ++ [y]) → P (Dg.mk b key.data.toList (k + 1)) from fun P h => by rw [n1]; exact h)
      have q1 : LI.length ≤ 64 := by omega
      clear n1 hy l1
      by_cases hin : k < key.size
      · have hxk : key[k] = x := by
          rw [← hx, List.getD_eq_getElem?_getD, List.getElem?_eq_getElem (by rw [← Lib.size_eq]; exact hin)]
          rfl
        clear hx
        go_wp2_with (at_builtin; refine wpList_append_bytes (by rfl) (.tmp 20) (.tmp 25) (by rfl) w.heap.size _ LI (by rfl) (hI.out.alloc _) ⟨wr.heap.size, 0, none⟩ 1 1 [y] (by rfl) rfl (cells_new wr (bv [y]) _) (by omega) (Nat.le_trans hB.out.size (by first | exact Nat.le_succ _ | simp)) ?_; intro u1 w3 ho1 hg1
                     have HI1 := Lib.hid (N1.out (fun t => BytesOf w3 w.heap.size u1 t) ho1)
                     have HB1 := Lib.hid (below_grown (below_alloc hB.out (Nat.le_refl _) _) (hI.out.alloc _) hg1 (Nat.le_refl _) (Nat.le_refl _))
                     clear ho1 hg1)
        go_roundw
        case rel => exact ⟨k + 1, u1, rfl, by go_num, by omega, HI1.out, HB1.out⟩
        case measure => simp [intOf]; omega
      · have hx0 : x = 0 := by
          rw [← hx, List.getD_eq_getElem?_getD, List.getElem?_eq_none (by rw [← Lib.size_eq]; omega)]
          rfl
        clear hx
        subst hx0
        change bits .xor .i64 0 (b.toNat : Int) = _ at x1
        go_wp2_with (at_builtin; refine wpList_append_bytes (by rfl) (.tmp 20) (.tmp 25) (by rfl) w.heap.size _ LI (by rfl) (hI.out.alloc _) ⟨wr.heap.size, 0, none⟩ 1 1 [y] (by rfl) rfl (cells_new wr (bv [y]) _) (by omega) (Nat.le_trans hB.out.size (by first | exact Nat.le_succ _ | simp)) ?_; intro u1 w3 ho1 hg1
                     have HI1 := Lib.hid (N1.out (fun t => BytesOf w3 w.heap.size u1 t) ho1)
                     have HB1 := Lib.hid (below_grown (below_alloc hB.out (Nat.le_refl _) _) (hI.out.alloc _) hg1 (Nat.le_refl _) (Nat.le_refl _))
                     clear ho1 hg1)
        go_roundw
        case rel => exact ⟨k + 1, u1, rfl, by go_num, by omega, HI1.out, HB1.out⟩
        case measure => simp [intOf]; omega
    · obtain rfl : k = 64 := by omega
      have hcv := hI.out.back
      go_wp2
      go_ret
      exact ⟨rfl, hB.out⟩
theorem rmixed_to (key : ByteArray) (hk0 : key.size ≤ 100000000) (b : UInt8) (v : Int) (hv : v = (b.toNat : Int)) (X : ByteArray) (hX : Dg.mk b key.data.toList 64 = X.data.toList) (w : World) :
    Calls Tryd.prog 58 #[.string key, .int .i64 v] w fun e w' => e = .returned (.string X) ∧ Below w.heap.size w w' := by
  subst hv
  exact (rmixed_any key hk0 b w).mono fun e w' ⟨h1, h2⟩ => ⟨by rw [h1, hX, str_back], h2⟩
/-- What the reference's Sum returns. -/
def RSum : Prop := ∀ (s : ByteArray) (_ : s.size ≤ 100000000) (w : World), Calls Tryd.prog 16 #[.string s] w fun e w' => e = .returned (.string ⟨(Dg.sha s.data.toList).toArray⟩) ∧ Below w.heap.size w w'
theorem rsum_to (RS : RSum) (s : ByteArray) (hs : s.size ≤ 100000000) (X : ByteArray) (hX : Dg.sha s.data.toList = X.data.toList) (w : World) :
    Calls Tryd.prog 16 #[.string s] w fun e w' => e = .returned (.string X) ∧ Below w.heap.size w w' :=
  (RS s hs w).mono fun e w' ⟨h1, h2⟩ => ⟨by rw [h1, hX, str_back], h2⟩
set_option maxHeartbeats 4000000 in
set_option maxRecDepth 100000 in
theorem rmac_short (RS : RSum) (key s M : ByteArray) (hk : key.size ≤ 64) (hs : s.size ≤ 10000000) (hM : Dg.mac key.data.toList s.data.toList = M.data.toList) (w : World) :
    Calls Tryd.prog 26 #[.string key, .string s] w fun e w' => e = .returned (.string M) ∧ Below w.heap.size w w' := by
  have hzk := Lib.size_eq key
  obtain ⟨IB, hIB⟩ : ∃ B : ByteArray, Dg.mk 54 key.data.toList 64 = B.data.toList := ⟨⟨(Dg.mk 54 key.data.toList 64).toArray⟩, rfl⟩
  obtain ⟨OB, hOB⟩ : ∃ B : ByteArray, Dg.mk 92 key.data.toList 64 = B.data.toList := ⟨⟨(Dg.mk 92 key.data.toList 64).toArray⟩, rfl⟩
  have z1 : IB.size = 64 := by rw [Lib.size_eq, ← hIB, Dg.mk_length]
  have z2 : OB.size = 64 := by rw [Lib.size_eq, ← hOB, Dg.mk_length]
  obtain ⟨DI, hDI⟩ : ∃ B : ByteArray, Dg.sha (IB ++ s).data.toList = B.data.toList := ⟨⟨(Dg.sha (IB ++ s).data.toList).toArray⟩, rfl⟩
  have z3 : DI.size = 32 := by rw [Lib.size_eq, ← hDI, Dg.sha_length]
  have C1 := Lib.hid (rmixed_to key (by omega) 54 54 rfl IB hIB)
  have C2 := Lib.hid (rsum_to RS (IB ++ s) (by rw [Lib.size_eq, bytes_append, List.length_append, ← Lib.size_eq, ← Lib.size_eq]; omega) DI hDI)
  have C3 := Lib.hid (rmixed_to key (by omega) 92 92 rfl OB hOB)
  have C4 := Lib.hid (rsum_to RS (OB ++ DI) (by rw [Lib.size_eq, bytes_append, List.length_append, ← Lib.size_eq, ← Lib.size_eq]; omega) M (by rw [bytes_append, ← hOB, ← hDI, bytes_append, ← hIB, ← hM]; exact Dg.mac_mk s.data.toList (by rw [← hzk]; exact hk)))
  have q1 : IB.size ≤ 64 := by omega
  have q2 : OB.size ≤ 64 := by omega
  have q3 : DI.size ≤ 32 := by omega
  clear hzk hIB hOB z1 z2 z3 hDI hM
  go_enter Tryd.func26, Tryd.ntmps26
  go_wp2_with fail
  refine (C1.out w).mono ?_
  rintro e w1 ⟨rfl, hb⟩
  have B1 := Lib.hid hb
  clear hb
  go_wp2_with fail
  refine (C2.out w1).mono ?_
  rintro e w2 ⟨rfl, hb⟩
  have B2 := Lib.hid (B1.out.trans (hb.mono B1.out.size))
  clear hb
  go_wp2_with fail
  refine (C3.out w2).mono ?_
  rintro e w3 ⟨rfl, hb⟩
  have B3 := Lib.hid (B2.out.trans (hb.mono B2.out.size))
  clear hb
  go_wp2_with fail
  refine (C4.out w3).mono ?_
  rintro e w4 ⟨rfl, hb⟩
  have B4 := Lib.hid (B3.out.trans (hb.mono B3.out.size))
  clear hb
  go_wp2
  go_ret
  exact ⟨rfl, B4.out⟩
end Go.Proofs.YteiabaddmclmlaaDoor
