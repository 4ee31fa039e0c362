/-
  The reference's word, turn, Hex, Unhex.
-/
import Derived.Test.YtdleaipcogomfaaDoorDRefA
import Derived.Test.YtdleaipcogomfaaDoorDHexT
namespace Go.Proofs.YtdleaipcogomfaaDoor
open Go Go.RowKit Go.Shelf
def Dg.dgt (n : Nat) : UInt8 := Dg.hexDigits.getD n 0
theorem rdigit_dgt (n : Nat) (h : n < 16) (w : World) :
    Calls Tryd.prog 68 #[.int .i64 n] w fun e w' => e = .returned (.int .u8 ((Dg.dgt n).toNat : Int)) ∧ w = w' := rdigit_any n h w
theorem and32 (n : Nat) (h : n < 9223372036854775808) : bits .and .i64 (n : Int) 4294967295 = ((n % 4294967296 : Nat) : Int) := by
  have h1 : (BitVec.ofInt 64 (n : Int)).toNat = n := by rw [BitVec.ofInt_natCast, BitVec.toNat_ofNat]; exact Nat.mod_eq_of_lt (by omega)
  have h2 : (BitVec.ofInt 64 4294967295).toNat = 4294967295 := by decide
  show IntKind.i64.wrap ((BitVec.ofInt 64 (n : Int) &&& BitVec.ofInt 64 4294967295).toNat : Int) = _
  rw [BitVec.toNat_and, h1, h2, show n &&& 4294967295 = n % 2 ^ 32 from Nat.and_two_pow_sub_one_eq_mod n 32, IntWalk.i64_in _ (by omega)]
set_option maxHeartbeats 1000000 in
set_option maxRecDepth 100000 in
theorem rword_any (n : Nat) (h : n < 9223372036854775808) (w : World) :
    Calls Tryd.prog 75 #[.int .i64 n] w fun e w' => e = .returned (.int .i64 ((n % 4294967296 : Nat) : Int)) ∧ w = w' := by
  have hb := and32 n h
  obtain ⟨m, hm⟩ : ∃ m, n % 4294967296 = m := ⟨_, rfl⟩
  rw [hm] at hb ⊢
  clear hm
  go_enter Tryd.func75, Tryd.ntmps75
  go_wp2
  go_ret
  exact ⟨rfl, rfl⟩
theorem rword_int (v : Int) (n m : Nat) (hv : v = (n : Int)) (h : n < 9223372036854775808) (hm : n % 4294967296 = m) (w : World) :
    Calls Tryd.prog 75 #[.int .i64 v] w fun e w' => e = .returned (.int .i64 (m : Int)) ∧ w' = w := by
  subst hv hm
  exact (rword_any n h w).mono fun _ _ h => ⟨h.1, h.2.symm⟩
theorem rturn_said (x : Dg.W32) (k m : Nat) (h : k + m = 32) : bits .or .i64 ((x.toNat : Int) / 2 ^ k) ((x.toNat * 2 ^ m % 4294967296 : Nat) : Int) = ((Dg.ror x k).toNat : Int) := by
  have a : ((x.toNat * 2 ^ m % 4294967296 : Nat) : Int) = ((x <<< m).toNat : Int) := by
    rw [BitVec.toNat_shiftLeft, Nat.shiftLeft_eq]
  have b : (x.toNat : Int) / 2 ^ k = ((x >>> k).toNat : Int) := by rw [Dg.w_shr]; simp
  rw [a, b, Dg.v_or]
  unfold Dg.ror
  rw [show 32 - k = m from by omega]
set_option maxHeartbeats 1000000 in
set_option maxRecDepth 100000 in
theorem rturn_any (x : Dg.W32) (k : Nat) (h1 : 1 ≤ k) (h2 : k ≤ 31) (w : World) :
    Calls Tryd.prog 74 #[.int .i64 x.toNat, .int .i64 k] w fun e w' => e = .returned (.int .i64 (Dg.ror x k).toNat) ∧ ∃ n, w' = w.drewN n := by
  obtain ⟨m, hm⟩ : ∃ m, k + m = 32 := ⟨32 - k, by omega⟩
  have hs := rturn_said x k m hm
  have e1 : IntKind.i64.wrap (32 - (k : Int)) = (m : Int) := by rw [IntWalk.i64_in _ (by omega)]; omega
  have hx := x.isLt
  have hp : x.toNat * 2 ^ m < 9223372036854775808 := by
    have : 2 ^ m ≤ 2 ^ 31 := Nat.pow_le_pow_right (by omega) (by omega)
    have h3 : x.toNat * 2 ^ m < 2 ^ 32 * 2 ^ 31 := Nat.mul_lt_mul_of_lt_of_le hx this (by omega)
    exact h3
  obtain ⟨X, hX⟩ : ∃ X, x.toNat = X := ⟨_, rfl⟩
  obtain ⟨R, hR⟩ : ∃ R, (Dg.ror x k).toNat = R := ⟨_, rfl⟩
  rw [hX] at hs hx hp ⊢
  rw [hR] at hs ⊢
  obtain ⟨Y, hY⟩ : ∃ Y, X * 2 ^ m = Y := ⟨_, rfl⟩
  rw [hY] at hs hp
  have hYi : (X : Int) * 2 ^ m = (Y : Int) := by rw [← hY]; simp
  obtain ⟨Z, hZ⟩ : ∃ Z, Y % 4294967296 = Z := ⟨_, rfl⟩
  rw [hZ] at hs
  have e2 : IntKind.i64.wrap (Y : Int) = (Y : Int) := IntWalk.i64_in _ (by omega)
  have HW := Lib.hid (fun (v : Int) (hv : v = (Y : Int)) (w1 : World) => rword_int v Y Z hv hp hZ w1)
  clear hX hR hY hZ
  have m1 : m ≤ 31 := by omega
  go_enter Tryd.func74, Tryd.ntmps74
  go_wp2_with fail
  go_quiet (first | (go_at_call 75; exact Calls.quiet_of_same (HW.out _ (by first | rfl | assumption) _)))
  go_wp2
  go_ret
  exact ⟨rfl, _, rfl⟩
set_option maxHeartbeats 4000000 in
set_option maxRecDepth 100000 in
theorem rhex_any (s : ByteArray) (hs : s.size ≤ 100000000) (w : World) :
    Calls Tryd.prog 45 #[.string s] w fun e w' => e = .returned (.string ⟨(Dg.hex s.data.toList).toArray⟩) ∧ Below w.heap.size w w' := by
  have hz := Lib.hid (Lib.size_eq s)
  go_enter Tryd.func45, Tryd.ntmps45
  go_wp2_with fail
  go_loopw [3, 4] (fun v i wr => ∃ k : Nat, ∃ vv : Value, vv = v ∧ i = .int .i64 k ∧ k ≤ s.size ∧ Hid (BytesOf wr w.heap.size vv (Dg.hex (s.data.toList.take k))) ∧ Hid (Below w.heap.size w wr)) (fun _ i _ => s.size - (intOf i).toNat)
  case atStart => exact ⟨0, _, rfl, rfl, by omega, World.ownsRow_nil _ _ _ _, Below.refl _ _⟩
  case round =>
    obtain ⟨k, v, rfl, rfl, hk, hown, hB⟩ := hrel
    by_cases hlt : k < s.size
    · obtain ⟨c, hc⟩ : ∃ c, s[k] = c := ⟨_, rfl⟩
      have hN : Dg.hex (s.data.toList.take (k + 1)) = Dg.hex (s.data.toList.take k) ++ Dg.hexC c := by
        rw [List.take_succ_eq_append_getElem (by rw [← hz.out]; exact hlt), ← hc]
        unfold Dg.hex
        rw [List.flatMap_append, List.flatMap_cons, List.flatMap_nil, List.append_nil]
        rfl
      have hl : (Dg.hex (s.data.toList.take k)).length = 2 * k := by rw [Dg.hex_length, List.length_take, ← hz.out, Nat.min_eq_left hk]
      obtain ⟨L, hL⟩ : ∃ L, Dg.hex (s.data.toList.take k) = L := ⟨_, rfl⟩
      rw [hL] at hown hN hl
      clear hL
      have HN := Lib.hid (show ∀ P : List UInt8 → Prop, P (L ++ Dg.hexC c) → P (Dg.hex (s.data.toList.take (k + 1))) from fun P h => by rw [hN]; exact h)
      clear hN
      have HL := Lib.hid hl
      clear hl
      have hcl := UInt8.toNat_lt c
      have HX := Lib.hid (show ∀ P : List UInt8 → Prop, P [Dg.dgt (c.toNat / 16), Dg.dgt (c.toNat % 16)] → P (Dg.hexC c) from fun P h => h)
      obtain ⟨hi4, h4⟩ : ∃ n, c.toNat / 16 = n := ⟨_, rfl⟩
      obtain ⟨lo4, h5⟩ : ∃ n, c.toNat % 16 = n := ⟨_, rfl⟩
      have q1 : ((c.toNat : Int) / 16) = (hi4 : Int) := by omega
      have q2 : ((c.toNat : Int) % 16) = (lo4 : Int) := by omega
      rw [h4, h5] at HX
      have hh : hi4 < 16 := by omega
      have hl : lo4 < 16 := by omega
      have w1 : IntKind.i64.wrap (c.toNat : Int) = (c.toNat : Int) := IntWalk.i64_in _ (by omega)
      have w2 : IntKind.i64.wrap ((c.toNat : Int).tdiv 16) = (hi4 : Int) := by
        rw [Int.tdiv_eq_ediv_of_nonneg (by omega), IntWalk.i64_in _ (by omega)]; exact q1
      have w3 : IntKind.i64.wrap ((c.toNat : Int).tmod 16) = (lo4 : Int) := by
        rw [Int.tmod_eq_emod_of_nonneg (by omega), IntWalk.i64_in _ (by omega)]; exact q2
      have w4 : IntKind.i64.wrap (hi4 : Int) = (hi4 : Int) := IntWalk.i64_in _ (by omega)
      have w5 : IntKind.i64.wrap (lo4 : Int) = (lo4 : Int) := IntWalk.i64_in _ (by omega)
      have w6 : (c.toNat : Int).tmod 16 = (lo4 : Int) := by rw [Int.tmod_eq_emod_of_nonneg (by omega)]; exact q2
      have w7 : (c.toNat : Int).tdiv 16 = (hi4 : Int) := by rw [Int.tdiv_eq_ediv_of_nonneg (by omega)]; exact q1
      clear h4 h5
      go_wp2_with fail
      go_region_held3 (fun _ => True) (trivial) ((first | (go_at_call 68; refine (rdigit_dgt _ ?_ _).mono ?_; (first | exact hh | exact hl); rintro _ w' ⟨rfl, rfl⟩) | (refine step_append_bytes (by rfl) _ _ (by rfl) w.heap.size _ L (by rfl) (BytesOf.allocDrew hown.out _) ⟨wr.heap.size, 0, none⟩ 2 2 [Dg.dgt hi4, Dg.dgt lo4] (by rfl) rfl (cells_newDrew wr (bv [Dg.dgt hi4, Dg.dgt lo4]) _) (by rw [HL.out]; omega) (Nat.le_trans hB.out.size (by first | exact Nat.le_succ _ | simp)) ?_; intro v1 w1 hown1 hgrow) | fail))
      all_goals
        have HO1 := Lib.hid (HX.out (fun t => BytesOf w1 w.heap.size v1 (L ++ t)) hown1)
        have HO2 := Lib.hid (HN.out (fun t => BytesOf w1 w.heap.size v1 t) HO1.out)
        have HB1 := Lib.hid (below_grown (below_drew (below_alloc hB.out (Nat.le_refl _) _)) (BytesOf.allocDrew hown.out _) hgrow (Nat.le_refl _) (Nat.le_refl _))
        clear hown1 hgrow HO1
        go_wp2
        go_roundw
        case rel => exact ⟨k + 1, v1, rfl, by go_num, by omega, HO2.out, HB1.out⟩
        case measure => simp [intOf]; omega
    · obtain rfl : k = s.size := by omega
      have e : s.data.toList.take s.size = s.data.toList := List.take_of_length_le (by rw [← hz.out]; exact Nat.le_refl _)
      rw [e] at hown
      have hcv := hown.out.back
      go_wp2
      go_ret
      exact ⟨rfl, hB.out⟩
end Go.Proofs.YtdleaipcogomfaaDoor
