/-
  Crc is CRC-32.
  The form of a number: formOf, numberIn.
  strings.Builder's WriteString and String, laid at this translation.
  Rows of strings: an argument's, and a row of the call's own.
-/
import Derived.Test.YtbpodclodflgfaaDoorKGg
import Derived.Test.YtbpodclodflgfaaDoorDGa
import Derived.Shelf.Strings.Builder1
import Derived.Shelf.Strings.BuilderF
import Derived.Shelf.Strings.BuilderK
import Derived.Laws.OwnMore
namespace Go.Proofs.YtbpodclodflgfaaDoor
open Go Go.RowKit
def crcT : List Dg.W32 := (List.range 16).map fun i => Dg.crcN 4 (BitVec.ofNat 32 i)
/-- The program's own table of the CRC. -/
structure EnvJ (W : World) : Prop where
  c : ∀ j, j < 16 → W.cell? ⟨0, j, none⟩ = some (.int .u32 ((crcT.getD j 0).toNat : Int))
  size : 0 < W.heap.size
theorem EnvJ.below {w w' : World} (h : EnvJ w) (hb : Below w.heap.size w w') : EnvJ w' :=
  ⟨fun j hj => (hb.cell (p := ⟨0, j, none⟩) h.size).trans (h.c j hj), Nat.lt_of_lt_of_le h.size hb.size⟩
theorem take_snoc {l : List UInt8} {k : Nat} (h : k < l.length) : l.take (k + 1) = l.take k ++ [l[k]] := List.take_succ_eq_append_getElem h
theorem crcT_at (j : Nat) (h : j < 16) : crcT.getD j 0 = Dg.crcN 4 (BitVec.ofNat 32 j) := by
  unfold crcT
  simp [h]
theorem w8_nat (c : UInt8) : (Dg.w8 c).toNat = c.toNat := by
  have := UInt8.toNat_lt c
  unfold Dg.w8
  rw [BitVec.toNat_ofNat, Nat.mod_eq_of_lt (by omega)]
theorem crc_step (X : Dg.W32) : bits .and .u32 (X.toNat : Int) 15 = ((X &&& 15).toNat : Int) ∧ (X &&& 15).toNat < 16 ∧ bits .xor .u32 ((X.toNat : Int) / (16 : Int)) ((crcT.getD (X &&& 15).toNat 0).toNat : Int) = ((Dg.crcN 4 X).toNat : Int) := by
  have h15 : (X &&& 15).toNat < 16 := by
    rw [BitVec.toNat_and]
    exact Nat.lt_succ_of_le Nat.and_le_right
  refine ⟨Dg.w_and X 15, h15, ?_⟩
  rw [crcT_at _ h15, show BitVec.ofNat 32 (X &&& 15).toNat = X &&& 15 from by simp, show (X.toNat : Int) / (16 : Int) = ((X >>> 4).toNat : Int) from by rw [Dg.w_shr]; rfl, Dg.w_xor, ← Dg.crc_four]
theorem wrap64_nat (C : Dg.W32) : wrap64 (C.toNat : Int) = (C.toNat : Int) := by
  have := C.isLt
  unfold wrap64
  omega
theorem crc_not (R : Dg.W32) : bits .xor .u32 IntKind.u32.max (R.toNat : Int) = ((~~~ R).toNat : Int) := by
  have := Dg.w_xor 4294967295 R
  rw [Dg.not_xor, BitVec.xor_comm]
  exact this
set_option maxHeartbeats 4000000 in
set_option maxRecDepth 100000 in
theorem crc_any (s : ByteArray) (hs : s.size ≤ 100000000) (w : World) (hE : EnvJ w) :
    Calls Tryd.prog 85 #[.string s] w fun e w' => e = .returned (.int .i64 (Dg.crc s.data.toList).toNat) ∧ w = w' := by
  have HE := Lib.hid hE
  have hz := Lib.hid (Lib.size_eq s)
  clear hE
  go_enter Tryd.func85, Tryd.ntmps85
  go_wp2_with fail
  go_loopw [3, 7] (fun v i wr => ∃ k : Nat, i = .int .i64 k ∧ k ≤ s.size ∧ v = .int .u32 ((Dg.crcReg 4294967295 (s.data.toList.take k)).toNat : Int) ∧ w = wr) (fun _ i _ => s.size - (intOf i).toNat)
  case atStart => exact ⟨0, rfl, by omega, rfl, rfl⟩
  case round =>
    obtain ⟨k, rfl, hk, rfl, rfl⟩ := hrel
    by_cases hlt : k < s.size
    · obtain ⟨c, hc⟩ : ∃ c, s[k] = c := ⟨_, rfl⟩
      have hN : Dg.crcReg 4294967295 (s.data.toList.take (k + 1)) = Dg.crcByte (Dg.crcReg 4294967295 (s.data.toList.take k)) c := by
        rw [take_snoc (by rw [← hz.out]; exact hlt), Dg.crcReg_append, ← hc]
        rfl
      obtain ⟨r, hr⟩ : ∃ r, Dg.crcReg 4294967295 (s.data.toList.take k) = r := ⟨_, rfl⟩
      rw [hr] at hN
      rw [hr]
      clear hr
      have HN := Lib.hid hN
      clear hN
      have h1 : bits .xor .u32 (r.toNat : Int) (c.toNat : Int) = ((r ^^^ Dg.w8 c).toNat : Int) := by rw [← w8_nat, Dg.w_xor]
      obtain ⟨h2, h3, h4⟩ := crc_step (r ^^^ Dg.w8 c)
      have hZ := Dg.crcByte_four r c
      obtain ⟨X, hX⟩ : ∃ X, r ^^^ Dg.w8 c = X := ⟨_, rfl⟩
      rw [hX] at h1 h2 h3 h4 hZ
      clear hX
      obtain ⟨h5, h6, h7⟩ := crc_step (Dg.crcN 4 X)
      obtain ⟨Y, hY⟩ : ∃ Y, Dg.crcN 4 X = Y := ⟨_, rfl⟩
      rw [hY] at h4 h5 h6 h7 hZ
      clear hY
      rw [← hZ] at h7
      have HZ := Lib.hid hZ
      clear hZ
      have c1 := HE.out.c _ h3
      have c2 := HE.out.c _ h6
      obtain ⟨i, hi⟩ : ∃ i, (X &&& 15).toNat = i := ⟨_, rfl⟩
      rw [hi] at h2 h3 h4 c1
      obtain ⟨j, hj⟩ : ∃ i, (Y &&& 15).toNat = i := ⟨_, rfl⟩
      rw [hj] at h5 h6 h7 c2
      obtain ⟨t1, ht1⟩ : ∃ t, crcT.getD i 0 = t := ⟨_, rfl⟩
      obtain ⟨t2, ht2⟩ : ∃ t, crcT.getD j 0 = t := ⟨_, rfl⟩
      rw [ht1] at h4 c1
      rw [ht2] at h7 c2
      clear hi hj ht1 ht2
      have hcl := UInt8.toNat_lt c
      have hXl := X.isLt
      have hYl := Y.isLt
      have hrl := r.isLt
      go_wp2
      go_roundw
      case rel => exact ⟨k + 1, by go_num, by omega, by rw [HN.out], trivial⟩
      case measure => simp [intOf]; omega
    · obtain rfl : k = s.size := by omega
      have e : s.data.toList.take s.size = s.data.toList := List.take_of_length_le (by rw [← hz.out]; exact Nat.le_refl _)
      rw [e]
      have HC : Hid (Dg.crc s.data.toList = ~~~ Dg.crcReg 4294967295 s.data.toList) := rfl
      obtain ⟨R, hR⟩ : ∃ R, Dg.crcReg 4294967295 s.data.toList = R := ⟨_, rfl⟩
      rw [hR] at HC
      rw [hR]
      clear hR e
      have hF := crc_not R
      have hCl := (~~~ R).isLt
      obtain ⟨C, hC⟩ : ∃ C, ~~~ R = C := ⟨_, rfl⟩
      rw [hC] at HC hF hCl
      clear hC
      go_wp2
      go_ret
      exact ⟨by rw [HC.out]; exact ret_int (wrap64_nat C), rfl⟩
end Go.Proofs.YtbpodclodflgfaaDoor
namespace Go.Proofs.YtbpodclodflgfaaDoor
open Go Go.RowKit
namespace Jn
abbrev B := List UInt8
def bt (n : Int) (i : Nat) : Int := n / 2 ^ (8 * i) % 256
/-- The form of a number. -/
def num (n : Int) : B := (List.range 8).map fun i => UInt8.ofNat (bt n i).toNat
theorem bt_range (n : Int) (i : Nat) : 0 ≤ bt n i ∧ bt n i < 256 := by unfold bt; omega
theorem num_length (n : Int) : (num n).length = 8 := by simp [num]
theorem num_at (n : Int) (i : Nat) (h : i < 8) : (num n)[i]? = some (UInt8.ofNat (bt n i).toNat) := by
  unfold num
  rw [List.getElem?_map, List.getElem?_range h]
  rfl
theorem bt_nat (n : Int) (i : Nat) : ((UInt8.ofNat (bt n i).toNat).toNat : Int) = bt n i := by
  have := bt_range n i
  rw [UInt8.toNat_ofNat']
  omega
def valN (l : B) : Nat → Nat
  | 0 => 0
  | j + 1 => valN l j + (l.getD j 0).toNat * 2 ^ (8 * j)
/-- The number of which a form is at the beginning. -/
def val (l : B) : Int := wrap64 (valN l 8)
theorem valN_lt (l : B) : ∀ j, valN l j < 2 ^ (8 * j)
  | 0 => by simp [valN]
  | j + 1 => by
    have ih := valN_lt l j
    have hc := UInt8.toNat_lt (l.getD j 0)
    unfold valN
    rw [show 8 * (j + 1) = 8 * j + 8 by omega, Nat.pow_add]
    generalize 2 ^ (8 * j) = p at *
    generalize (l.getD j 0).toNat = c at *
    have : c * p ≤ 255 * p := Nat.mul_le_mul_right p (by omega)
    omega
theorem ofInt_wrap (m : Nat) : (BitVec.ofInt 64 (wrap64 (m : Int))).toNat = m % 18446744073709551616 := by
  rw [BitVec.toNat_ofInt]
  unfold wrap64
  omega
theorem i64_wrap (n : Int) : IntKind.i64.wrap n = wrap64 n := by
  unfold wrap64
  simp [IntKind.wrap, IntKind.bits, IntKind.signed]
  try omega
theorem or_join (a c j : Nat) (hj : j < 8) (ha : a < 2 ^ (8 * j)) (hc : c < 256) : bits .or .i64 (wrap64 (a : Int)) (wrap64 (wrap64 (c : Int) * 2 ^ (8 * j))) = wrap64 ((a + c * 2 ^ (8 * j) : Nat) : Int) := by
  have hw : wrap64 (c : Int) = (c : Int) := by unfold wrap64; omega
  rw [hw]
  have e : (c : Int) * 2 ^ (8 * j) = ((c * 2 ^ (8 * j) : Nat) : Int) := by push_cast; rfl
  rw [e]
  have hp : 2 ^ (8 * j) ≤ 2 ^ 56 := Nat.pow_le_pow_right (by decide) (by omega)
  have hl : c * 2 ^ (8 * j) ≤ 255 * 2 ^ 56 := Nat.mul_le_mul (by omega) hp
  show IntKind.i64.wrap ((BitVec.ofInt 64 (wrap64 (a : Int)) ||| BitVec.ofInt 64 (wrap64 ((c * 2 ^ (8 * j) : Nat) : Int))).toNat : Int) = _
  rw [BitVec.toNat_or, ofInt_wrap, ofInt_wrap, Nat.mod_eq_of_lt (by omega), Nat.mod_eq_of_lt (by omega), Nat.or_comm, nat_join (8 * j) _ _ (Nat.mul_mod_left _ _) ha, Nat.add_comm, i64_wrap]
theorem valN_congr {l m : B} : ∀ j, (∀ i, i < j → l.getD i 0 = m.getD i 0) → valN l j = valN m j
  | 0, _ => rfl
  | j + 1, h => by
    unfold valN
    rw [valN_congr j (fun i hi => h i (by omega)), h j (by omega)]
theorem pow_step (n : Int) (j : Nat) : n % 2 ^ (8 * (j + 1)) = n % 2 ^ (8 * j) + (n / 2 ^ (8 * j) % 256) * 2 ^ (8 * j) := by
  have hp : (0 : Int) < 2 ^ (8 * j) := Int.pow_pos (by decide)
  rw [show 8 * (j + 1) = 8 * j + 8 by omega, Int.pow_add, show (2 : Int) ^ 8 = 256 from rfl]
  have h1 := Int.emod_add_mul_ediv n (2 ^ (8 * j))
  have h2 := Int.emod_add_mul_ediv (n / 2 ^ (8 * j)) 256
  have r1 := Int.emod_nonneg n (Int.ne_of_gt hp)
  have r2 := Int.emod_lt_of_pos n hp
  generalize (2 : Int) ^ (8 * j) = p at *
  generalize hq : n / p = q at *
  have r3 : 0 ≤ q % 256 ∧ q % 256 < 256 := by omega
  have key : n = (n % p + q % 256 * p) + (p * 256) * (q / 256) := by
    have : p * q = q % 256 * p + p * 256 * (q / 256) := by
      conv => lhs; rw [← h2]
      rw [Int.mul_add, Int.mul_comm p (q % 256), Int.mul_assoc]
    omega
  have hb : n % p + q % 256 * p < p * 256 := by
    have : q % 256 * p ≤ 255 * p := Int.mul_le_mul_of_nonneg_right (by omega) (by omega)
    omega
  have hb0 : 0 ≤ n % p + q % 256 * p := by
    have : 0 ≤ q % 256 * p := Int.mul_nonneg r3.1 (by omega)
    omega
  conv => lhs; rw [key]
  rw [Int.add_mul_emod_self_left, Int.emod_eq_of_lt hb0 hb]
theorem valN_num (n : Int) (r : B) : ∀ j, j ≤ 8 → (valN (num n ++ r) j : Int) = n % 2 ^ (8 * j)
  | 0, _ => by simp [valN]
  | j + 1, h => by
    have ih := valN_num n r j (by omega)
    rw [pow_step]
    unfold valN
    have e : (num n ++ r).getD j 0 = UInt8.ofNat (bt n j).toNat := by
      rw [List.getD_eq_getElem?_getD, List.getElem?_append_left (by rw [num_length]; omega), num_at n j (by omega)]
      rfl
    rw [e]
    push_cast
    rw [ih, bt_nat]
    rfl
theorem val_num (n : Int) (h0 : -9223372036854775808 ≤ n) (h1 : n ≤ 9223372036854775807) (r : B) : val (num n ++ r) = n := by
  unfold val
  have := valN_num n r 8 (by omega)
  rw [this]
  unfold wrap64
  omega
end Jn
theorem zero8 : ([.int .u8 0, .int .u8 0, .int .u8 0, .int .u8 0, .int .u8 0, .int .u8 0, .int .u8 0, .int .u8 0] : List Value) = (List.range 8).map fun _ => .int .u8 0 := rfl
/-- The cells of the form, as far as they are written. -/
def numCells (n : Int) (j : Nat) : List Value := (List.range 8).map fun i => if i < j then .int .u8 (Jn.bt n i) else .int .u8 0
theorem numCells_at (n : Int) (j i : Nat) (h : i < 8) : (numCells n j)[i]? = some (if i < j then .int .u8 (Jn.bt n i) else .int .u8 0) := by
  unfold numCells
  rw [List.getElem?_map, List.getElem?_range h]
  rfl
theorem numCells_set (n : Int) (j : Nat) (h : j < 8) : (numCells n j).set j (.int .u8 (Jn.bt n j)) = numCells n (j + 1) := by
  apply List.ext_getElem?
  intro i
  rw [List.getElem?_set]
  by_cases hi : i < 8
  · rw [numCells_at n j i hi, numCells_at n (j + 1) i hi]
    have hl : (numCells n j).length = 8 := by simp [numCells]
    by_cases e : j = i
    · subst e
      rw [if_pos rfl, if_pos (by omega), if_pos (by omega)]
    · rw [if_neg e]
      by_cases h2 : i < j
      · rw [if_pos h2, if_pos (by omega)]
      · rw [if_neg h2, if_neg (by omega)]
  · rw [if_neg (by omega), List.getElem?_eq_none (by simp [numCells]; omega), List.getElem?_eq_none (by simp [numCells]; omega)]
theorem below_store {B g : Nat} {w0 w : World} (h : Below B w0 w) (hg : B ≤ g) (_hw : B ≤ w0.heap.size) (i : Nat) (v : Value) : Below B w0 (w.setCell ⟨g, i, none⟩ v) :=
  ⟨h.os, h.tape, h.output, by rw [set_size]; exact h.size, fun b hb => (set_other w g i b v (by omega)).trans (h.block b hb)⟩
theorem conv_num (n : Int) {w : World} (g : Nat) (h : Blk w g 117 (numCells n 8)) : (convert 62 9 (.slice (some ⟨g, 0, none⟩) 8 8)).run Tryd.prog w = .ok (.string (enc (Jn.num n))) w := by
  have := run_convert_bytes_back (P := Tryd.prog) w 62 9 5 ⟨g, 0, none⟩ 8 (Jn.num n) Tryd.underlying62 Tryd.underlying5 Tryd.underlying9 (fun j hj => by
    have hj8 : j < 8 := by rw [Jn.num_length] at hj; exact hj
    have h2 : (⟨g, 0, none⟩ : Addr).add j = ⟨g, j, none⟩ := by unfold Addr.add; split <;> simp_all
    rw [h2, h.cell (numCells_at n 8 j hj8), if_pos hj8]
    have e := Jn.num_at n j hj8
    rw [List.getElem?_eq_getElem hj] at e
    injection e with e
    rw [e, Jn.bt_nat])
  rw [Jn.num_length] at this
  exact this
set_option maxHeartbeats 1000000 in
set_option maxRecDepth 100000 in
theorem formOf_any (n : Int) (w : World) : Calls Tryd.prog 84 #[.int .i64 n] w fun e w' => e = .returned (.string (enc (Jn.num n))) ∧ Below w.heap.size w w' := by
  go_enter Tryd.func84, Tryd.ntmps84
  go_wp2
  go_loopw [4, 5] (fun x4 x5 wr => ∃ j : Nat, x5 = .int .i64 j ∧ j ≤ 8 ∧ Hid (Blk wr w.heap.size 117 (numCells n j)) ∧ Hid (Below w.heap.size w wr)) (fun _ x5 _ => 8 - (intOf x5).toNat)
  case atStart => exact ⟨0, rfl, by omega, Blk.made w #[.int .u8 0, .int .u8 0, .int .u8 0, .int .u8 0, .int .u8 0, .int .u8 0, .int .u8 0, .int .u8 0] 117, below_new _ _⟩
  case round =>
    obtain ⟨j, rfl, hj, hK, hB⟩ := hrel
    by_cases hjl : j < 8
    · have fr := hK.out.free j
      have c0 := hK.out.cell (numCells_at n j j hjl)
      rw [if_neg (Nat.lt_irrefl j)] at c0
      have HS := Lib.hid (numCells_set n j hjl)
      go_wp2
      go_roundw
      case rel => exact ⟨j + 1, by go_num, by omega, (hK.out.set j _).as HS.out, below_store hB.out (Nat.le_refl _) (Nat.le_refl _) j _⟩
      case measure => simp [intOf]; omega
    · obtain rfl : j = 8 := by omega
      have hcv := conv_num n w.heap.size hK.out
      go_wp2
      go_ret
      exact ⟨rfl, hB.out⟩
set_option maxHeartbeats 1000000 in
set_option maxRecDepth 100000 in
theorem numberIn_any (s : ByteArray) (h : 8 ≤ s.size) (w : World) : Calls Tryd.prog 75 #[.string s] w fun e w' => e = .returned (.int .i64 (Jn.val s.data.toList)) ∧ w = w' := by
  have hz := Lib.hid (Lib.size_eq s)
  go_enter Tryd.func75, Tryd.ntmps75
  go_wp2
  go_loopw [3, 4, 5] (fun x3 x4 x5 wr => ∃ j : Nat, x5 = .int .i64 j ∧ j ≤ 8 ∧ x3 = .int .i64 (wrap64 (Jn.valN s.data.toList j : Int)) ∧ w = wr) (fun _ _ x5 _ => 8 - (intOf x5).toNat)
  case atStart => exact ⟨0, rfl, by omega, by simp [Jn.valN, wrap64], rfl⟩
  case round =>
    obtain ⟨j, rfl, hj, rfl, rfl⟩ := hrel
    by_cases hjl : j < 8
    · have hjs : j < s.size := by omega
      obtain ⟨c, hc⟩ : ∃ c, s[j] = c := ⟨_, rfl⟩
      have hd : s.data.toList.getD j 0 = c := by
        rw [List.getD_eq_getElem?_getD, List.getElem?_eq_getElem (by rw [← hz.out]; exact hjs), ← hc]
        rfl
      have hN : Jn.valN s.data.toList (j + 1) = Jn.valN s.data.toList j + c.toNat * 2 ^ (8 * j) := by
        rw [← hd]; rfl
      have HO := Lib.hid (Jn.or_join _ c.toNat j hjl (Jn.valN_lt s.data.toList j) (UInt8.toNat_lt c))
      rw [← hN] at HO
      clear hd hN
      obtain ⟨v, hv⟩ : ∃ v, wrap64 (Jn.valN s.data.toList j : Int) = v := ⟨_, rfl⟩
      rw [hv] at HO ⊢
      clear hv
      go_wp2
      go_roundw
      case rel => exact ⟨j + 1, by go_num, by omega, by rw [HO.out], trivial⟩
      case measure => simp [intOf]; omega
    · obtain rfl : j = 8 := by omega
      go_wp2
      go_ret
      exact ⟨rfl, rfl⟩
end Go.Proofs.YtbpodclodflgfaaDoor
namespace Go.Proofs.YtbpodclodflgfaaDoor
open Go Go.RowKit Go.Shelf
def Tryd.lays166_ren : Go.Shelf.Ren := ⟨fun | 166 => 83 | 240 => 94 | 276 => 98 | n => n, fun | 0 => 0 | 3 => 3 | 4 => 4 | 5 => 5 | 9 => 9 | 20 => 20 | 37 => 62 | 70 => 103 | 72 => 105 | 75 => 107 | 164 => 123 | 80 => 84 | n => n, fun | n => n⟩
theorem Tryd.lays166 : Go.Proofs.Lays.n166 Tryd.prog Tryd.lays166_ren := {
  mixed := by kernel_rfl
  f166 := Tryd.func83.trans (congrArg some (by kernel_rfl))
  f240 := Tryd.func94.trans (congrArg some (by kernel_rfl))
  f276 := Tryd.func98.trans (congrArg some (by kernel_rfl))
  t0 := Tryd.underlying0
  a0 := Tryd.isAgg0
  z0 := Tryd.sizeOf0
  v0 := Tryd.zeroValue0
  t3 := Tryd.underlying3
  a3 := Tryd.isAgg3
  z3 := Tryd.sizeOf3
  v3 := Tryd.zeroValue3
  t4 := Tryd.underlying4
  a4 := Tryd.isAgg4
  z4 := Tryd.sizeOf4
  v4 := Tryd.zeroValue4
  t9 := Tryd.underlying9
  a9 := Tryd.isAgg9
  z9 := Tryd.sizeOf9
  v9 := Tryd.zeroValue9
  t20 := Tryd.underlying20
  a20 := Tryd.isAgg20
  z20 := Tryd.sizeOf20
  v20 := Tryd.zeroValue20
  t37 := Tryd.underlying62
  a37 := Tryd.isAgg62
  z37 := Tryd.sizeOf62
  v37 := Tryd.zeroValue62
  t70 := Tryd.underlying103
  a70 := Tryd.isAgg103
  z70 := Tryd.sizeOf103
  v70 := Tryd.zeroValue103
  t72 := Tryd.underlying105
  a72 := Tryd.isAgg105
  z72 := Tryd.sizeOf105
  v72 := Tryd.zeroValue105
  t75 := Tryd.underlying107
  a75 := Tryd.isAgg107
  z75 := Tryd.sizeOf107
  v75 := Tryd.zeroValue107
  t164 := Tryd.underlying123
  a164 := Tryd.isAgg123
  z164 := Tryd.sizeOf123
  v164 := Tryd.zeroValue123 }
def Tryd.lays169_ren : Go.Shelf.Ren := ⟨fun | 169 => 86 | n => n, fun | 0 => 0 | 3 => 3 | 5 => 5 | 9 => 9 | 37 => 62 | 70 => 103 | 72 => 105 | 127 => 120 | n => n, fun | n => n⟩
theorem Tryd.lays169 : Go.Proofs.Lays.n169 Tryd.prog Tryd.lays169_ren := {
  mixed := by kernel_rfl
  f169 := Tryd.func86.trans (congrArg some (by kernel_rfl))
  t0 := Tryd.underlying0
  a0 := Tryd.isAgg0
  z0 := Tryd.sizeOf0
  v0 := Tryd.zeroValue0
  t3 := Tryd.underlying3
  a3 := Tryd.isAgg3
  z3 := Tryd.sizeOf3
  v3 := Tryd.zeroValue3
  t9 := Tryd.underlying9
  a9 := Tryd.isAgg9
  z9 := Tryd.sizeOf9
  v9 := Tryd.zeroValue9
  t37 := Tryd.underlying62
  a37 := Tryd.isAgg62
  z37 := Tryd.sizeOf62
  v37 := Tryd.zeroValue62
  t70 := Tryd.underlying103
  a70 := Tryd.isAgg103
  z70 := Tryd.sizeOf103
  v70 := Tryd.zeroValue103
  t72 := Tryd.underlying105
  a72 := Tryd.isAgg105
  z72 := Tryd.sizeOf105
  v72 := Tryd.zeroValue105
  t127 := Tryd.underlying120
  a127 := Tryd.isAgg120
  z127 := Tryd.sizeOf120
  v127 := Tryd.zeroValue120 }
theorem Tryd.Builder_X166 : Go.Proofs.Builder.Extra Tryd.prog Tryd.lays166_ren where
  sizeBuilder := by kernel_rfl
  liesBuilder := by kernel_rfl
  t5 := Tryd.underlying5
  a5 := Tryd.isAgg5
  z5 := Tryd.sizeOf5
  v5 := Tryd.zeroValue5
  infoByte := by kernel_rfl
  cellsByte := by kernel_rfl
  sizeByte := by kernel_rfl
  neB5 := by decide
theorem Tryd.Builder_X169 : Go.Proofs.Builder.Extra Tryd.prog Tryd.lays169_ren where
  sizeBuilder := by kernel_rfl
  liesBuilder := by kernel_rfl
  t5 := Tryd.underlying5
  a5 := Tryd.isAgg5
  z5 := Tryd.sizeOf5
  v5 := Tryd.zeroValue5
  infoByte := by kernel_rfl
  cellsByte := by kernel_rfl
  sizeByte := by kernel_rfl
  neB5 := by decide
theorem writeString_any (B b : Nat) (bs : List Value) (s : ByteArray) (w : World) (h : Lib.IsBuilderF 105 5 B b bs w) (hlen : bs.length + s.size ≤ 140737488355328) (hBw : B ≤ w.heap.size) :
    Calls Tryd.prog 83 #[.pointer (some ⟨b, 0, none⟩), .string s] w fun e w' => e = .returned (.tuple #[.int .i64 s.size, .nilIface]) ∧ Lib.IsBuilderF 105 5 B b (bs ++ Lib.byteCells s.data.toList) w' ∧ Below B w w' :=
  (Any.Builder_WriteString_k Tryd.lays166 Tryd.Builder_X166 B b bs s w h hlen hBw).mono fun _ _ ⟨h1, h2, h3, _⟩ => ⟨h1, .inr h2, h3⟩
theorem string_any (B b : Nat) (l : List UInt8) (w : World) (h : Lib.IsBuilderF 105 5 B b (Lib.byteCells l) w) (hBw : B ≤ w.heap.size) :
    Calls Tryd.prog 86 #[.pointer (some ⟨b, 0, none⟩)] w fun e w' => e = .returned (.string ⟨l.toArray⟩) ∧ Below B w w' :=
  (Any.Builder_String_any_k Tryd.lays169 Tryd.Builder_X169 B b l w h hBw).mono fun _ _ ⟨h1, _, h3, _⟩ => ⟨h1, h3⟩
end Go.Proofs.YtbpodclodflgfaaDoor
namespace Go.Proofs.YtbpodclodflgfaaDoor
open Go Go.RowKit Go.Shelf
theorem str_back (R : ByteArray) : (⟨R.data.toList.toArray⟩ : ByteArray) = R := by cases R; simp
theorem add_plain0 (g j : Nat) : (⟨g, 0, none⟩ : Addr).add j = ⟨g, j, none⟩ := by unfold Addr.add; split <;> simp_all
theorem add_plainN (g o j : Nat) : (⟨g, o, none⟩ : Addr).add j = ⟨g, o + j, none⟩ := by unfold Addr.add; split <;> simp_all
def encStr (x : List UInt8) : Value := .string ⟨x.toArray⟩
def sv (X : List (List UInt8)) : List Value := X.map encStr
theorem sv_length (X : List (List UInt8)) : (sv X).length = X.length := by simp [sv]
theorem sv_cells (X : List (List UInt8)) : ∀ v ∈ sv X, v.oneCell' = true := fun v hv => by
  obtain ⟨b, _, rfl⟩ := List.mem_map.1 hv
  rfl
theorem encStr_to {x : List UInt8} {R : ByteArray} (h : x = R.data.toList) : encStr x = .string R := by
  subst h
  unfold encStr
  rw [str_back]
theorem infoS : (Tryd.prog.info? 9).map (fun i => (i.zero, i.size, i.bytes)) = some (some (.string ⟨#[]⟩), 1, 16) := by kernel_rfl
/-- A slice that reads as these strings. -/
structure Lv (w : World) (xa : Option Addr) (b off cap : Nat) (X : List (List UInt8)) : Prop where
  at_ : 0 < X.length → xa = some ⟨b, off, none⟩
  cell : ∀ j, j < X.length → w.cell? ⟨b, off + j, none⟩ = some (encStr (X.getD j []))
  lt : 0 < X.length → b < w.heap.size
  le : X.length ≤ cap
theorem Lv.below {w w' : World} {xa : Option Addr} {b off cap : Nat} {X : List (List UInt8)} (h : Lv w xa b off cap X) (hb : Below w.heap.size w w') : Lv w' xa b off cap X :=
  ⟨h.at_, fun j hj => (hb.cell (p := ⟨b, off + j, none⟩) (h.lt (by omega))).trans (h.cell j hj), fun hp => Nat.lt_of_lt_of_le (h.lt hp) hb.size, h.le⟩
theorem Lv.take {w : World} {xa : Option Addr} {b off cap : Nat} {X : List (List UInt8)} (h : Lv w xa b off cap X) (k : Nat) : Lv w xa b off cap (X.take k) :=
  ⟨fun hp => h.at_ (by rw [List.length_take] at hp; omega), fun j hj => by
    rw [List.length_take] at hj
    rw [h.cell j (by omega)]
    simp only [List.getD_eq_getElem?_getD]
    rw [List.getElem?_take_of_lt (by omega)], fun hp => h.lt (by rw [List.length_take] at hp; omega), by rw [List.length_take]; have := h.le; omega⟩
theorem Lv.drop {w : World} {xa : Option Addr} {b off cap : Nat} {X : List (List UInt8)} (h : Lv w xa b off cap X) (k : Nat) (hk : k < X.length) : Lv w (some ⟨b, off + k, none⟩) b (off + k) (cap - k) (X.drop k) :=
  ⟨fun _ => rfl, fun j hj => by
    rw [List.length_drop] at hj
    have := h.cell (k + j) (by omega)
    rw [Nat.add_assoc, this]
    simp only [List.getD_eq_getElem?_getD]
    rw [List.getElem?_drop], fun _ => h.lt (by omega), by rw [List.length_drop]; have := h.le; omega⟩
/-- A value that holds just these strings, the call's own. -/
def SOwn (w : World) (base : Nat) (v : Value) (X : List (List UInt8)) : Prop := w.ownsRow base 9 1 v X.length (sv X)
theorem SOwn.alloc {w : World} {base : Nat} {v : Value} {l : List (List UInt8)} (h : SOwn w base v l) (o : Obj) : SOwn (w.alloc o) base v l := World.ownsRow.alloc h o
theorem SOwn.drews {w : World} {base : Nat} {v : Value} {l : List (List UInt8)} (h : SOwn w base v l) (n : Nat) : SOwn (w.drewN n) base v l := h
theorem SOwn.allocDrew {w : World} {base : Nat} {v : Value} {l : List (List UInt8)} (h : SOwn w base v l) (o : Obj) : SOwn (w.alloc o).drew base v l := h.alloc o
theorem SOwn.below {w w' : World} {base : Nat} {v : Value} {l : List (List UInt8)} (h : SOwn w base v l) (hb : Below w.heap.size w w') : SOwn w' base v l :=
  World.ownsRow.kept (row := none) h ⟨hb.os, hb.tape, hb.output, hb.size, fun i hi _ => hb.block i hi⟩ (by cases v.ownBlock with | none => exact .inl rfl | some k => exact .inr (by simp))
theorem SOwn.base {w : World} {b b' : Nat} {v : Value} {l : List (List UInt8)} (h : SOwn w b v l) (hb : b' ≤ b) : SOwn w b' v l := by
  refine ⟨h.1, ?_⟩
  rcases h.2 with hn | ⟨g, cap, cur, hv, hbg, rest⟩
  · exact .inl hn
  · exact .inr ⟨g, cap, cur, hv, Nat.le_trans hb hbg, rest⟩
theorem SOwn.nil (w : World) (base : Nat) : SOwn w base (.slice none 0 0) [] := World.ownsRow_nil _ _ _ _
theorem sv_at {X : List (List UInt8)} {j : Nat} (h : j < X.length) : (sv X)[j]? = some (encStr (X.getD j [])) := by simp [sv, h]
theorem SOwn.row {w : World} {base : Nat} {v : Value} {X : List (List UInt8)} (h : SOwn w base v X) : ∃ xa b cap, v = .slice xa X.length cap ∧ Lv w xa b 0 cap X := by
  have hx := h.1
  rcases h.2 with ⟨rfl, h0⟩ | ⟨g, cap, cur, rfl, hb, hg, hnc, _⟩
  · exact ⟨none, 0, 0, by rw [h0], fun hp => by omega, fun j hj => by omega, fun hp => by omega, by omega⟩
  · refine ⟨_, g, cap, rfl, fun _ => rfl, fun j hj => ?_, fun _ => (Array.getElem?_eq_some_iff.1 hg).1, hnc⟩
    have := World.ownsRow.cells (g := g) h rfl j _ (sv_at hj)
    rw [add_plain0] at this
    rw [Nat.zero_add]; exact this
section
variable {w : World} {ops : Array Oper} {o : Oper} {a : Act} {Q : Exit → Act → World → Prop}
theorem wp_append_strs {K : Act → World → Prop} (s x : Operand) (ho : o.op = .call { callee := .builtin .append, args := #[s, x], argTypes := #[36, 36] })
    (base : Nat) (v : Value) (L : List (List UInt8)) (hs : a.eval s = v) (hown : SOwn w base v L) (ad : Addr) (m c : Nat) (news : List (List UInt8)) (hx : a.eval x = .slice (some ad) m c) (hl : news.length = m)
    (hnews : ∀ j u, (sv news)[j]? = some u → w.cell? (ad.add j) = some u) (hbig : L.length + m ≤ 1000000000) (hbase : base ≤ w.heap.size)
    (h : ∀ v' w', SOwn w' base v' (L ++ news) → w.grownBy w' v.ownBlock → K (a.put o.dst v') w') : o.wp Tryd.prog a w K Q := by
  obtain ⟨i0, hi, hz0, hz1, hz2⟩ := info_parts infoS
  refine wp_append_own w s x 36 ho base 9 i0 (.string ⟨#[]⟩) 1 16 Tryd.underlying36 hi hz0 hz1 hz2 rfl (by omega) v L.length (sv L) hs hown ad m c (sv news) hx (by rw [sv_length, hl]; omega) hnews (sv_cells _) (by unfold maxLen; omega) (by omega) hbase fun v' w' h2 h3 _ => h v' w' ?_ h3
  have e1 : (L ++ news).length = L.length + m := by rw [List.length_append, hl]
  have e2 : sv (L ++ news) = sv L ++ sv news := by simp [sv]
  unfold SOwn
  rw [e1, e2]
  exact h2
theorem step_append_strs {K : Act → World → Prop} {E : Prop} (hgd : o.guard = none) (s x : Operand) (ho : o.op = .call { callee := .builtin .append, args := #[s, x], argTypes := #[36, 36] })
    (base : Nat) (v : Value) (L : List (List UInt8)) (hs : a.eval s = v) (hown : SOwn w base v L) (ad : Addr) (m c : Nat) (news : List (List UInt8)) (hx : a.eval x = .slice (some ad) m c) (hl : news.length = m)
    (hnews : ∀ j u, (sv news)[j]? = some u → w.cell? (ad.add j) = some u) (hbig : L.length + m ≤ 1000000000) (hbase : base ≤ w.heap.size)
    (h : ∀ v' w', SOwn w' base v' (L ++ news) → w.grownBy w' v.ownBlock → K (a.put o.dst v') w') : if Region.wanted o (yielded ops a.tmps) = true then Oper.wp Tryd.prog o a w K Q else E := by
  have hw : Region.wanted o (yielded ops a.tmps) = true := by simp [Region.wanted, hgd]
  rw [if_pos hw]
  exact wp_append_strs s x ho base v L hs hown ad m c news hx hl hnews hbig hbase h
theorem wpList_append_strs {rest : List Oper} (hgd : o.guard = none) (s x : Operand) (ho : o.op = .call { callee := .builtin .append, args := #[s, x], argTypes := #[36, 36] })
    (base : Nat) (v : Value) (L : List (List UInt8)) (hs : a.eval s = v) (hown : SOwn w base v L) (ad : Addr) (m c : Nat) (news : List (List UInt8)) (hx : a.eval x = .slice (some ad) m c) (hl : news.length = m)
    (hnews : ∀ j u, (sv news)[j]? = some u → w.cell? (ad.add j) = some u) (hbig : L.length + m ≤ 1000000000) (hbase : base ≤ w.heap.size)
    (h : ∀ v' w', SOwn w' base v' (L ++ news) → w.grownBy w' v.ownBlock → wpList Tryd.prog ops Q rest (a.put o.dst v') w') : wpList Tryd.prog ops Q (o :: rest) a w :=
  wpList_plain hgd fun _ hK => wp_append_strs s x ho base v L hs hown ad m c news hx hl hnews hbig hbase fun v' w' h2 h3 => hK _ _ (h v' w' h2 h3)
end
theorem sown_lit (w : World) {base : Nat} (hb : base ≤ w.heap.size) (X : List (List UInt8)) (h : X.length ≤ 1000000) : SOwn (w.alloc (.cells (sv X).toArray 9)) base (.slice (some ⟨w.heap.size, 0, none⟩) X.length X.length) X := by
  have := World.ownsRow_lit (e := 9) (size := 1) w (sv X).toArray X.length hb (by unfold maxLen; omega) (by simp [sv])
  unfold SOwn
  simpa using this
section
variable {w : World} {ops : Array Oper} {o : Oper} {a : Act} {Q : Exit → Act → World → Prop}
theorem wp_append_rows {K : Act → World → Prop} (s x : Operand) (ho : o.op = .call { callee := .builtin .append, args := #[s, x], argTypes := #[36, 36] })
    (base : Nat) (v : Value) (L : List (List UInt8)) (hs : a.eval s = v) (hown : SOwn w base v L) (base2 : Nat) (v2 : Value) (M : List (List UInt8)) (hx : a.eval x = v2) (hM : SOwn w base2 v2 M)
    (hbig : L.length + M.length ≤ 1000000000) (hbase : base ≤ w.heap.size)
    (h : ∀ v' w', SOwn w' base v' (L ++ M) → w.grownBy w' v.ownBlock → K (a.put o.dst v') w') : o.wp Tryd.prog a w K Q := by
  rcases hM.2 with ⟨rfl, h0⟩ | ⟨g, cap, cur, rfl, _⟩
  · have hM0 : M = [] := List.eq_nil_of_length_eq_zero h0
    subst hM0
    obtain ⟨i0, hi, hz0, hz1, hz2⟩ := info_parts infoS
    have hrun := run_append_owned_none (P := Tryd.prog) (w := w) base 36 o.type 9 i0 1 Tryd.underlying36 hi v L.length (sv L) hown
    unfold Oper.wp
    simp [execOp, ho, resolve, invoke, builtin, hs, hx, hrun, Result.andThen]
    exact h v w (by rw [List.append_nil]; exact hown) (World.grownBy.refl w _)
  · refine wp_append_strs s x ho base v L hs hown ⟨g, 0, none⟩ M.length cap M hx rfl ?_ hbig hbase h
    intro j u hj
    exact World.ownsRow.cells (g := g) hM rfl j u hj
theorem step_append_rows {K : Act → World → Prop} {E : Prop} (hgd : o.guard = none) (s x : Operand) (ho : o.op = .call { callee := .builtin .append, args := #[s, x], argTypes := #[36, 36] })
    (base : Nat) (v : Value) (L : List (List UInt8)) (hs : a.eval s = v) (hown : SOwn w base v L) (base2 : Nat) (v2 : Value) (M : List (List UInt8)) (hx : a.eval x = v2) (hM : SOwn w base2 v2 M)
    (hbig : L.length + M.length ≤ 1000000000) (hbase : base ≤ w.heap.size)
    (h : ∀ v' w', SOwn w' base v' (L ++ M) → w.grownBy w' v.ownBlock → K (a.put o.dst v') w') : if Region.wanted o (yielded ops a.tmps) = true then Oper.wp Tryd.prog o a w K Q else E := by
  have hw : Region.wanted o (yielded ops a.tmps) = true := by simp [Region.wanted, hgd]
  rw [if_pos hw]
  exact wp_append_rows s x ho base v L hs hown base2 v2 M hx hM hbig hbase h
theorem wpList_append_rows {rest : List Oper} (hgd : o.guard = none) (s x : Operand) (ho : o.op = .call { callee := .builtin .append, args := #[s, x], argTypes := #[36, 36] })
    (base : Nat) (v : Value) (L : List (List UInt8)) (hs : a.eval s = v) (hown : SOwn w base v L) (base2 : Nat) (v2 : Value) (M : List (List UInt8)) (hx : a.eval x = v2) (hM : SOwn w base2 v2 M)
    (hbig : L.length + M.length ≤ 1000000000) (hbase : base ≤ w.heap.size)
    (h : ∀ v' w', SOwn w' base v' (L ++ M) → w.grownBy w' v.ownBlock → wpList Tryd.prog ops Q rest (a.put o.dst v') w') : wpList Tryd.prog ops Q (o :: rest) a w :=
  wpList_plain hgd fun _ hK => wp_append_rows s x ho base v L hs hown base2 v2 M hx hM hbig hbase fun v' w' h2 h3 => hK _ _ (h v' w' h2 h3)
end
theorem lt_alloc (w : World) (o : Obj) : w.heap.size < (w.alloc o).heap.size := by simp
theorem lv_lit (w : World) (X : List (List UInt8)) : Lv (w.alloc (.cells (sv X).toArray 9)) (some ⟨w.heap.size, 0, none⟩) w.heap.size 0 X.length X := by
  refine ⟨fun _ => rfl, fun j hj => ?_, fun _ => lt_alloc w _, Nat.le_refl _⟩
  rw [Nat.zero_add]
  exact (Blk.made w (sv X).toArray 9).cell (by simpa using sv_at hj)
/-- What the cells of a slice are, as append reads them. -/
theorem Lv.news {w : World} {b off cap : Nat} {X : List (List UInt8)} (h : Lv w (some ⟨b, off, none⟩) b off cap X) : ∀ j u, (sv X)[j]? = some u → w.cell? ((⟨b, off, none⟩ : Addr).add j) = some u := fun j u hj => by
  have hl : j < X.length := by have := (List.getElem?_eq_some_iff.1 hj).1; rw [sv_length] at this; exact this
  rw [sv_at hl] at hj
  rw [add_plainN, h.cell j hl]
  exact hj
end Go.Proofs.YtbpodclodflgfaaDoor
