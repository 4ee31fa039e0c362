/-
  The plain part of layer 3: SHA-256 over words of 32 bits.
  The plain part of layer 3: CRC-32, its linearity, and what it detects.
-/
import Derived.Laws.BitsAllLaws
import Derived.IntWalk
namespace Go.Proofs.YtbpodclodflgfaaDoor
open Go
namespace Dg
abbrev W32 := BitVec 32
structure St where
  a : W32
  b : W32
  c : W32
  d : W32
  e : W32
  f : W32
  g : W32
  h : W32
def St.list (s : St) : List W32 := [s.a, s.b, s.c, s.d, s.e, s.f, s.g, s.h]
def ror (x : W32) (n : Nat) : W32 := (x >>> n) ||| (x <<< (32 - n))
def K : List W32 := [1116352408, 1899447441, 3049323471, 3921009573, 961987163, 1508970993, 2453635748, 2870763221, 3624381080, 310598401, 607225278, 1426881987, 1925078388, 2162078206, 2614888103, 3248222580, 3835390401, 4022224774, 264347078, 604807628, 770255983, 1249150122, 1555081692, 1996064986, 2554220882, 2821834349, 2952996808, 3210313671, 3336571891, 3584528711, 113926993, 338241895, 666307205, 773529912, 1294757372, 1396182291, 1695183700, 1986661051, 2177026350, 2456956037, 2730485921, 2820302411, 3259730800, 3345764771, 3516065817, 3600352804, 4094571909, 275423344, 430227734, 506948616, 659060556, 883997877, 958139571, 1322822218, 1537002063, 1747873779, 1955562222, 2024104815, 2227730452, 2361852424, 2428436474, 2756734187, 3204031479, 3329325298]
def tOf (k w : W32) (s : St) : W32 := s.h + (ror s.e 6 ^^^ ror s.e 11 ^^^ ror s.e 25) + ((s.e &&& s.f) ^^^ (~~~ s.e &&& s.g)) + k + w
def uOf (s : St) : W32 := (ror s.a 2 ^^^ ror s.a 13 ^^^ ror s.a 22) + ((s.a &&& s.b) ^^^ (s.a &&& s.c) ^^^ (s.b &&& s.c))
def rnd (k w : W32) (s : St) : St := ⟨tOf k w s + uOf s, s.a, s.b, s.c, s.d + tOf k w s, s.e, s.f, s.g⟩
def rnds (w : List W32) (s : St) : Nat → St
  | 0 => s
  | n + 1 => rnd (K.getD n 0) (w.getD n 0) (rnds w s n)
def ext (w : List W32) (i : Nat) : W32 :=
  w.getD (i - 16) 0 + (ror (w.getD (i - 15) 0) 7 ^^^ ror (w.getD (i - 15) 0) 18 ^^^ (w.getD (i - 15) 0 >>> 3)) + w.getD (i - 7) 0 + (ror (w.getD (i - 2) 0) 17 ^^^ ror (w.getD (i - 2) 0) 19 ^^^ (w.getD (i - 2) 0 >>> 10))
def sched (w : List W32) : Nat → List W32
  | 0 => w
  | n + 1 => sched w n ++ [ext (sched w n) (16 + n)]
def word (a b c d : UInt8) : W32 := BitVec.ofNat 32 (((a.toNat * 256 + b.toNat) * 256 + c.toNat) * 256 + d.toNat)
def wordAt (l : List UInt8) (n : Nat) : W32 := word (l.getD (4 * n) 0) (l.getD (4 * n + 1) 0) (l.getD (4 * n + 2) 0) (l.getD (4 * n + 3) 0)
def words (l : List UInt8) : Nat → List W32
  | 0 => []
  | n + 1 => words l n ++ [wordAt l n]
def W (l : List UInt8) : List W32 := sched (words l 16) 48
def addS (s r : St) : St := ⟨s.a + r.a, s.b + r.b, s.c + r.c, s.d + r.d, s.e + r.e, s.f + r.f, s.g + r.g, s.h + r.h⟩
def proc (s : St) (l : List UInt8) : St := addS s (rnds (W l) s 64)
def absorb : Nat → St → List UInt8 → St
  | 0, s, _ => s
  | n + 1, s, l => absorb n (proc s (l.take 64)) (l.drop 64)
def be32 (x : W32) : List UInt8 := [UInt8.ofNat (x.toNat / 16777216), UInt8.ofNat (x.toNat / 65536), UInt8.ofNat (x.toNat / 256), UInt8.ofNat x.toNat]
def be64 (n : Nat) : List UInt8 := be32 (BitVec.ofNat 32 (n / 4294967296)) ++ be32 (BitVec.ofNat 32 n)
def pad (l : List UInt8) : List UInt8 := l ++ 128 :: (List.replicate ((119 - l.length % 64) % 64) 0 ++ be64 (8 * l.length))
def H0 : St := ⟨0x6a09e667, 0xbb67ae85, 0x3c6ef372, 0xa54ff53a, 0x510e527f, 0x9b05688c, 0x1f83d9ab, 0x5be0cd19⟩
def St.bytes (s : St) : List UInt8 := s.list.flatMap be32
def sha (l : List UInt8) : List UInt8 := (absorb ((pad l).length / 64) H0 (pad l)).bytes

theorem words_length (l : List UInt8) : ∀ n, (words l n).length = n
  | 0 => rfl
  | n + 1 => by simp [words, words_length l n]
theorem sched_length (w : List W32) : ∀ n, (sched w n).length = w.length + n
  | 0 => rfl
  | n + 1 => by simp [sched, sched_length w n]; omega
theorem W_length (l : List UInt8) : (W l).length = 64 := by unfold W; rw [sched_length, words_length]
theorem be32_length (x : W32) : (be32 x).length = 4 := rfl
theorem be64_length (n : Nat) : (be64 n).length = 8 := rfl
theorem bytes_length (s : St) : s.bytes.length = 32 := rfl
theorem sha_length (l : List UInt8) : (sha l).length = 32 := bytes_length _
theorem pad_length (l : List UInt8) : (pad l).length = 64 * ((l.length + 72) / 64) := by
  unfold pad
  simp [be64_length]
  omega
theorem absorb_add : ∀ (n m : Nat) (s : St) (l r : List UInt8), l.length = 64 * n → absorb (n + m) s (l ++ r) = absorb m (absorb n s l) r
  | 0, m, s, l, r, h => by
    have : l = [] := List.eq_nil_of_length_eq_zero (by omega)
    subst this
    simp [absorb]
  | n + 1, m, s, l, r, h => by
    rw [Nat.add_right_comm]
    show absorb (n + m) (proc s ((l ++ r).take 64)) ((l ++ r).drop 64) = absorb m (absorb n (proc s (l.take 64)) (l.drop 64)) r
    rw [List.take_append_of_le_length (by omega), List.drop_append_of_le_length (by omega)]
    exact absorb_add n m _ _ r (by simp; omega)

/-! Words as the model writes them: 'bits' and 'wrap' over numbers that are words. -/
theorem w_lt (x : W32) : x.toNat < 4294967296 := x.isLt
theorem w_xor (x y : W32) : bits .xor .u32 (x.toNat : Int) (y.toNat : Int) = ((x ^^^ y).toNat : Int) := by
  rw [u32_xor_nat _ _ x.isLt y.isLt, BitVec.toNat_xor]
theorem w_and (x y : W32) : bits .and .u32 (x.toNat : Int) (y.toNat : Int) = ((x &&& y).toNat : Int) := by
  rw [u32_and_nat _ _ x.isLt y.isLt, BitVec.toNat_and]
theorem w_or (x y : W32) : bits .or .u32 (x.toNat : Int) (y.toNat : Int) = ((x ||| y).toNat : Int) := by
  rw [u32_or_nat _ _ x.isLt y.isLt, BitVec.toNat_or]
theorem w_andNot (x y : W32) : bits .andNot .u32 (x.toNat : Int) (y.toNat : Int) = ((x &&& ~~~ y).toNat : Int) := by
  rw [u32_andNot_nat _ _ x.isLt y.isLt, BitVec.toNat_and, BitVec.toNat_not]
theorem w_add (x y : W32) : IntKind.u32.wrap ((x.toNat : Int) + (y.toNat : Int)) = ((x + y).toNat : Int) := by
  rw [IntKind.wrap_u32', BitVec.toNat_add]
  omega
theorem v_xor (x y : W32) : bits .xor .i64 (x.toNat : Int) (y.toNat : Int) = ((x ^^^ y).toNat : Int) := by
  have h1 : (BitVec.ofInt 64 (x.toNat : Int)).toNat = x.toNat := by rw [BitVec.ofInt_natCast, BitVec.toNat_ofNat]; exact Nat.mod_eq_of_lt (by have := x.isLt; omega)
  have h2 : (BitVec.ofInt 64 (y.toNat : Int)).toNat = y.toNat := by rw [BitVec.ofInt_natCast, BitVec.toNat_ofNat]; exact Nat.mod_eq_of_lt (by have := y.isLt; omega)
  show IntKind.i64.wrap ((BitVec.ofInt 64 (x.toNat : Int) ^^^ BitVec.ofInt 64 (y.toNat : Int)).toNat : Int) = _
  rw [BitVec.toNat_xor, h1, h2, ← BitVec.toNat_xor, IntWalk.i64_in _ (by have := BitVec.isLt (x ^^^ y); omega)]
theorem v_and (x y : W32) : bits .and .i64 (x.toNat : Int) (y.toNat : Int) = ((x &&& y).toNat : Int) := by
  have h1 : (BitVec.ofInt 64 (x.toNat : Int)).toNat = x.toNat := by rw [BitVec.ofInt_natCast, BitVec.toNat_ofNat]; exact Nat.mod_eq_of_lt (by have := x.isLt; omega)
  have h2 : (BitVec.ofInt 64 (y.toNat : Int)).toNat = y.toNat := by rw [BitVec.ofInt_natCast, BitVec.toNat_ofNat]; exact Nat.mod_eq_of_lt (by have := y.isLt; omega)
  show IntKind.i64.wrap ((BitVec.ofInt 64 (x.toNat : Int) &&& BitVec.ofInt 64 (y.toNat : Int)).toNat : Int) = _
  rw [BitVec.toNat_and, h1, h2, ← BitVec.toNat_and, IntWalk.i64_in _ (by have := BitVec.isLt (x &&& y); omega)]
theorem v_or (x y : W32) : bits .or .i64 (x.toNat : Int) (y.toNat : Int) = ((x ||| y).toNat : Int) := by
  have h1 : (BitVec.ofInt 64 (x.toNat : Int)).toNat = x.toNat := by rw [BitVec.ofInt_natCast, BitVec.toNat_ofNat]; exact Nat.mod_eq_of_lt (by have := x.isLt; omega)
  have h2 : (BitVec.ofInt 64 (y.toNat : Int)).toNat = y.toNat := by rw [BitVec.ofInt_natCast, BitVec.toNat_ofNat]; exact Nat.mod_eq_of_lt (by have := y.isLt; omega)
  show IntKind.i64.wrap ((BitVec.ofInt 64 (x.toNat : Int) ||| BitVec.ofInt 64 (y.toNat : Int)).toNat : Int) = _
  rw [BitVec.toNat_or, h1, h2, ← BitVec.toNat_or, IntWalk.i64_in _ (by have := BitVec.isLt (x ||| y); omega)]
theorem w_shr (x : W32) (n : Nat) : ((x >>> n).toNat : Int) = (x.toNat : Int) / (2 ^ n : Nat) := by
  rw [BitVec.toNat_ushiftRight, Nat.shiftRight_eq_div_pow, Int.natCast_ediv]

set_option maxRecDepth 100000 in
theorem sha_abc : sha [97, 98, 99] = [186, 120, 22, 191, 143, 1, 207, 234, 65, 65, 64, 222, 93, 174, 34, 35, 176, 3, 97, 163, 150, 23, 122, 156, 180, 16, 255, 97, 242, 0, 21, 173] := by decide +kernel
end Dg
end Go.Proofs.YtbpodclodflgfaaDoor
namespace Go.Proofs.YtbpodclodflgfaaDoor
open Go
namespace Dg
def crcBit (x : W32) : W32 := (x >>> 1) ^^^ (if x.toNat % 2 = 1 then 3988292384 else 0)
def crcN : Nat → W32 → W32
  | 0, x => x
  | n + 1, x => crcN n (crcBit x)
def w8 (c : UInt8) : W32 := BitVec.ofNat 32 c.toNat
def crcByte (r : W32) (c : UInt8) : W32 := crcN 8 (r ^^^ w8 c)
def crcReg (r : W32) (l : List UInt8) : W32 := l.foldl crcByte r
def crc (l : List UInt8) : W32 := ~~~ crcReg (4294967295 : W32) l

theorem xor_mod2 (x y : W32) : (x ^^^ y).toNat % 2 = (x.toNat % 2 + y.toNat % 2) % 2 := by
  rw [BitVec.toNat_xor]
  have := Nat.testBit_xor x.toNat y.toNat 0
  simp only [Nat.testBit_zero] at this
  rcases Nat.mod_two_eq_zero_or_one x.toNat with h1 | h1 <;> rcases Nat.mod_two_eq_zero_or_one y.toNat with h2 | h2 <;> rcases Nat.mod_two_eq_zero_or_one (x.toNat ^^^ y.toNat) with h3 | h3 <;> simp [h1, h2, h3] at this ⊢
theorem crcBit_xor (x y : W32) : crcBit (x ^^^ y) = crcBit x ^^^ crcBit y := by
  unfold crcBit
  rw [BitVec.ushiftRight_xor_distrib, xor_mod2]
  rcases Nat.mod_two_eq_zero_or_one x.toNat with h1 | h1 <;> rcases Nat.mod_two_eq_zero_or_one y.toNat with h2 | h2 <;> simp [h1, h2]
  · rw [BitVec.xor_assoc]
  · rw [BitVec.xor_assoc, BitVec.xor_comm (y >>> 1), ← BitVec.xor_assoc]
  · have e : (x >>> 1) ^^^ 3988292384#32 ^^^ ((y >>> 1) ^^^ 3988292384#32) = (x >>> 1) ^^^ (y >>> 1) ^^^ (3988292384#32 ^^^ 3988292384#32) := by
      ac_rfl
    rw [e, BitVec.xor_self, BitVec.xor_zero]
theorem crcBit_zero {x : W32} (h : crcBit x = 0) : x = 0 := by
  unfold crcBit at h
  rcases Nat.mod_two_eq_zero_or_one x.toNat with h1 | h1
  · rw [if_neg (by omega)] at h
    simp only [BitVec.ofNat_eq_ofNat, BitVec.xor_zero] at h
    have := congrArg BitVec.toNat h
    rw [BitVec.toNat_ushiftRight, Nat.shiftRight_eq_div_pow] at this
    apply BitVec.eq_of_toNat_eq
    simp at this ⊢
    omega
  · rw [if_pos h1] at h
    exfalso
    have h2 : (x >>> 1) = 3988292384#32 := by
      have := congrArg (· ^^^ 3988292384#32) h
      rw [BitVec.xor_assoc] at this
      simpa using this
    have := congrArg BitVec.toNat h2
    rw [BitVec.toNat_ushiftRight, Nat.shiftRight_eq_div_pow] at this
    have hx := x.isLt
    simp at this
    omega
theorem crcN_xor : ∀ n (x y : W32), crcN n (x ^^^ y) = crcN n x ^^^ crcN n y
  | 0, _, _ => rfl
  | n + 1, x, y => by
    show crcN n (crcBit (x ^^^ y)) = _
    rw [crcBit_xor, crcN_xor n]
    rfl
theorem crcN_z : ∀ n, crcN n 0 = 0
  | 0 => rfl
  | n + 1 => by
    show crcN n (crcBit 0) = 0
    rw [show crcBit 0 = 0 from by decide]
    exact crcN_z n
theorem crcN_zero : ∀ n {x : W32}, crcN n x = 0 → x = 0
  | 0, _, h => h
  | n + 1, _, h => crcBit_zero (crcN_zero n h)
theorem crcN_add : ∀ n m (x : W32), crcN (n + m) x = crcN m (crcN n x)
  | 0, m, x => by rw [Nat.zero_add]; rfl
  | n + 1, m, x => by rw [Nat.add_right_comm]; exact crcN_add n m _
theorem xor_eq_zero {x y : W32} (h : x ^^^ y = 0) : x = y := by
  have := congrArg (· ^^^ y) h
  rw [BitVec.xor_assoc] at this
  simpa using this
theorem crcN_inj {n : Nat} {x y : W32} (h : crcN n x = crcN n y) : x = y := by
  apply xor_eq_zero
  apply crcN_zero n
  rw [crcN_xor, h, BitVec.xor_self]; rfl
theorem crcBit_shl (y : W32) (h : y.toNat < 2147483648) : crcBit (y <<< 1) = y := by
  unfold crcBit
  have e : (y <<< 1).toNat = 2 * y.toNat := by
    rw [BitVec.toNat_shiftLeft, Nat.shiftLeft_eq]
    omega
  rw [if_neg (by omega)]
  apply BitVec.eq_of_toNat_eq
  simp only [BitVec.ofNat_eq_ofNat, BitVec.xor_zero]
  rw [BitVec.toNat_ushiftRight, e, Nat.shiftRight_eq_div_pow]
  omega
theorem crcN_shl : ∀ n (y : W32), y.toNat * 2 ^ n < 4294967296 → crcN n (y <<< n) = y
  | 0, y, _ => by simp [crcN]
  | n + 1, y, h => by
    have hp : y.toNat * 2 ^ (n + 1) = 2 * (y.toNat * 2 ^ n) := by rw [Nat.pow_succ]; rw [← Nat.mul_assoc]; omega
    show crcN n (crcBit (y <<< (n + 1))) = y
    rw [BitVec.shiftLeft_add, crcBit_shl]
    · exact crcN_shl n y (by omega)
    · rw [BitVec.toNat_shiftLeft, Nat.shiftLeft_eq]
      rw [Nat.mod_eq_of_lt (by omega)]
      omega
/-- Four steps at once, by a table of sixteen words. -/
theorem crc_four (r : W32) : crcN 4 r = (r >>> 4) ^^^ crcN 4 (r &&& 15) := by
  have e : r = ((r >>> 4) <<< 4) ^^^ (r &&& 15) := by
    apply BitVec.eq_of_getLsbD_eq
    intro i hi
    rw [BitVec.getLsbD_xor, BitVec.getLsbD_shiftLeft, BitVec.getLsbD_ushiftRight, BitVec.getLsbD_and]
    have h15 : (15#32).getLsbD i = decide (i < 4) := by
      have : ∀ i : Fin 32, (15#32).getLsbD i.val = decide (i.val < 4) := by decide
      exact this ⟨i, hi⟩
    simp only [BitVec.ofNat_eq_ofNat]
    rw [h15]
    by_cases h : i < 4
    · simp [h]
    · have e2 : 4 + (i - 4) = i := by omega
      simp [h, e2, hi]
  have hlt : (r >>> 4).toNat * 2 ^ 4 < 4294967296 := by
    rw [BitVec.toNat_ushiftRight, Nat.shiftRight_eq_div_pow]
    have := r.isLt
    omega
  conv => lhs; rw [e]
  rw [crcN_xor, crcN_shl 4 _ hlt]
theorem crcByte_four (r : W32) (c : UInt8) : crcByte r c = crcN 4 (crcN 4 (r ^^^ w8 c)) := crcN_add 4 4 _

/-! Linear in register and string. -/
theorem w8_xor (a b : UInt8) : w8 (a ^^^ b) = w8 a ^^^ w8 b := by
  apply BitVec.eq_of_toNat_eq
  have h1 := UInt8.toNat_lt a
  have h2 := UInt8.toNat_lt b
  have h3 := UInt8.toNat_lt (a ^^^ b)
  rw [BitVec.toNat_xor]
  unfold w8
  simp only [BitVec.toNat_ofNat]
  rw [Nat.mod_eq_of_lt (by omega), Nat.mod_eq_of_lt (by omega), Nat.mod_eq_of_lt (by omega)]
  simp
theorem crcByte_xor (r r' : W32) (a b : UInt8) : crcByte (r ^^^ r') (a ^^^ b) = crcByte r a ^^^ crcByte r' b := by
  unfold crcByte
  rw [← crcN_xor, w8_xor]
  congr 1
  ac_rfl
theorem crcReg_xor : ∀ (l m : List UInt8), l.length = m.length → ∀ r r' : W32, crcReg (r ^^^ r') (List.zipWith (· ^^^ ·) l m) = crcReg r l ^^^ crcReg r' m
  | [], [], _, _, _ => rfl
  | [], _ :: _, h, _, _ => by simp at h
  | _ :: _, [], h, _, _ => by simp at h
  | a :: l, b :: m, h, r, r' => by
    show crcReg (crcByte (r ^^^ r') (a ^^^ b)) (List.zipWith (· ^^^ ·) l m) = crcReg (crcByte r a) l ^^^ crcReg (crcByte r' b) m
    rw [crcByte_xor]
    exact crcReg_xor l m (by simpa using h) _ _
theorem crcReg_append (r : W32) (l m : List UInt8) : crcReg r (l ++ m) = crcReg (crcReg r l) m := List.foldl_append
theorem not_xor (x : W32) : ~~~ x = x ^^^ 4294967295 := by
  rw [show (4294967295 : W32) = BitVec.allOnes 32 from by decide, BitVec.xor_allOnes]
theorem crc_xors (a b c : List UInt8) (h1 : a.length = b.length) (h2 : b.length = c.length) :
    crc (List.zipWith (· ^^^ ·) (List.zipWith (· ^^^ ·) a b) c) = crc a ^^^ crc b ^^^ crc c := by
  unfold crc
  have e : (4294967295 : W32) = (4294967295 ^^^ 4294967295) ^^^ 4294967295 := by decide
  conv => lhs; rw [e]
  rw [crcReg_xor _ _ (by simp; omega), crcReg_xor _ _ h1]
  simp only [not_xor]
  have e2 : ∀ x y z k : W32, x ^^^ y ^^^ z ^^^ k = x ^^^ y ^^^ z ^^^ (k ^^^ (k ^^^ k)) := fun x y z k => by simp
  rw [e2]
  ac_rfl

/-! Bits, the lowest of a byte first. -/
def b1 (b : Bool) : W32 := if b then 1 else 0
def ofBits : List Bool → W32
  | [] => 0
  | b :: l => b1 b ^^^ (ofBits l <<< 1)
def feed (r : W32) (l : List Bool) : W32 := l.foldl (fun r b => crcBit (r ^^^ b1 b)) r
theorem ofBits_lt : ∀ l : List Bool, l.length ≤ 32 → (ofBits l).toNat < 2 ^ l.length
  | [], _ => by simp [ofBits]
  | b :: l, h => by
    have hl : l.length ≤ 31 := by simpa using h
    have ih := ofBits_lt l (by omega)
    have hp : 2 ^ l.length ≤ 2 ^ 31 := Nat.pow_le_pow_right (by omega) hl
    show (b1 b ^^^ (ofBits l <<< 1)).toNat < 2 ^ (l.length + 1)
    rw [BitVec.toNat_xor]
    apply Nat.xor_lt_two_pow
    · have := Nat.one_lt_two_pow (n := l.length + 1) (by omega)
      cases b
      · exact Nat.two_pow_pos _
      · exact this
    · rw [BitVec.toNat_shiftLeft, Nat.shiftLeft_eq]
      refine Nat.lt_of_le_of_lt (Nat.mod_le _ _) ?_
      rw [Nat.pow_succ]; omega
theorem feed_eq : ∀ (l : List Bool), l.length ≤ 32 → ∀ r, feed r l = crcN l.length (r ^^^ ofBits l)
  | [], _, r => by simp [feed, ofBits, crcN]
  | b :: l, h, r => by
    have hl : l.length ≤ 31 := by simpa using h
    have hp : 2 ^ l.length ≤ 2 ^ 31 := Nat.pow_le_pow_right (by omega) hl
    show feed (crcBit (r ^^^ b1 b)) l = crcN l.length (crcBit (r ^^^ (b1 b ^^^ (ofBits l <<< 1))))
    rw [feed_eq l (by omega), ← BitVec.xor_assoc, crcBit_xor (r ^^^ _), crcBit_shl (ofBits l) (by have := ofBits_lt l (by omega); omega)]
theorem feed_append (r : W32) (l m : List Bool) : feed r (l ++ m) = feed (feed r l) m := List.foldl_append
theorem feed_zeros : ∀ n (r : W32), feed r (List.replicate n false) = crcN n r
  | 0, _ => rfl
  | n + 1, r => by
    show feed (crcBit (r ^^^ b1 false)) (List.replicate n false) = crcN n (crcBit r)
    rw [feed_zeros n]; simp [b1]
def bits8 (c : UInt8) : List Bool := (List.range 8).map fun i => c.toNat.testBit i
theorem ofBits_bits8 (c : UInt8) : ofBits (bits8 c) = w8 c := by
  have h : ∀ n : Fin 256, ofBits ((List.range 8).map fun i => n.val.testBit i) = BitVec.ofNat 32 n.val := by decide +kernel
  exact h ⟨c.toNat, UInt8.toNat_lt c⟩
theorem feed_byte (r : W32) (c : UInt8) : feed r (bits8 c) = crcByte r c := by
  rw [feed_eq _ (by simp [bits8])]
  rw [ofBits_bits8]
  rfl
theorem feed_bytes : ∀ (l : List UInt8) (r : W32), feed r (l.flatMap bits8) = crcReg r l
  | [], _ => rfl
  | c :: l, r => by
    rw [List.flatMap_cons, feed_append, feed_byte]
    exact feed_bytes l _
theorem feed_xor : ∀ (l m : List Bool), l.length = m.length → ∀ r r' : W32, feed (r ^^^ r') (List.zipWith (· ^^ ·) l m) = feed r l ^^^ feed r' m
  | [], [], _, _, _ => rfl
  | [], _ :: _, h, _, _ => by simp at h
  | _ :: _, [], h, _, _ => by simp at h
  | a :: l, b :: m, h, r, r' => by
    show feed (crcBit ((r ^^^ r') ^^^ b1 (a ^^ b))) (List.zipWith (· ^^ ·) l m) = feed (crcBit (r ^^^ b1 a)) l ^^^ feed (crcBit (r' ^^^ b1 b)) m
    rw [← feed_xor l m (by simpa using h), ← crcBit_xor]
    have e : b1 (a ^^ b) = b1 a ^^^ b1 b := by cases a <;> cases b <;> rfl
    rw [e]
    congr 2
    ac_rfl
theorem ofBits_zero : ∀ l : List Bool, l.length ≤ 32 → ofBits l = 0 → ∀ b ∈ l, b = false
  | [], _, _, _, hb => by cases hb
  | b :: l, h, he, x, hx => by
    have hl : l.length ≤ 31 := by simpa using h
    have hp : 2 ^ l.length ≤ 2 ^ 31 := Nat.pow_le_pow_right (by omega) hl
    have hlt := ofBits_lt l (by omega)
    change b1 b ^^^ (ofBits l <<< 1) = (0 : W32) at he
    have he := congrArg BitVec.toNat (xor_eq_zero he)
    rw [BitVec.toNat_shiftLeft, Nat.shiftLeft_eq, Nat.mod_eq_of_lt (by omega)] at he
    have hz : ofBits l = 0 := by
      apply BitVec.eq_of_toNat_eq
      cases b <;> simp [b1] at he ⊢ <;> omega
    have hbf : b = false := by
      cases b
      · rfl
      · simp [b1] at he; omega
    rcases List.mem_cons.1 hx with rfl | hx
    · exact hbf
    · exact ofBits_zero l (by omega) hz x hx
/-- A difference within 32 consecutive bits is seen. -/
theorem feed_detects (n m : Nat) (p : List Bool) (hp : p.length ≤ 32) (h : feed 0 (List.replicate n false ++ (p ++ List.replicate m false)) = 0) : ∀ b ∈ p, b = false := by
  rw [feed_append, feed_append, feed_zeros, feed_zeros, crcN_z, feed_eq p hp] at h
  have := crcN_zero _ (crcN_zero _ h)
  apply ofBits_zero p hp
  simpa using this

/-! The string and its CRC behind it. -/
def le32 (x : W32) : List UInt8 := [UInt8.ofNat x.toNat, UInt8.ofNat (x.toNat / 256), UInt8.ofNat (x.toNat / 65536), UInt8.ofNat (x.toNat / 16777216)]
theorem u8_ofNat_testBit (n i : Nat) (h : i < 8) : (UInt8.ofNat n).toNat.testBit i = n.testBit i := by
  rw [UInt8.toNat_ofNat', Nat.testBit_mod_two_pow]
  simp [h]
theorem ofBits_word (x : W32) : ∀ n, n ≤ 32 → ofBits ((List.range' (32 - n) n).map fun i => x.toNat.testBit i) = x >>> (32 - n)
  | 0, _ => by
    apply BitVec.eq_of_toNat_eq
    have := x.isLt
    simp [ofBits, Nat.shiftRight_eq_div_pow]
    omega
  | n + 1, h => by
    have ih := ofBits_word x n (by omega)
    rw [List.range'_succ, List.map_cons, show 32 - (n + 1) + 1 = 32 - n from by omega]
    show b1 (x.toNat.testBit (32 - (n + 1))) ^^^ (ofBits _ <<< 1) = _
    rw [ih]
    apply BitVec.eq_of_getLsbD_eq
    intro i hi
    have e1 : (b1 (x.toNat.testBit (32 - (n + 1)))).getLsbD i = (decide (i = 0) && x.toNat.testBit (32 - (n + 1))) := by
      cases x.toNat.testBit (32 - (n + 1))
      · simp [b1]
      · simp [b1, BitVec.getLsbD_one]
    rw [BitVec.getLsbD_xor, e1, BitVec.getLsbD_shiftLeft, BitVec.getLsbD_ushiftRight, BitVec.getLsbD_ushiftRight]
    by_cases h0 : i = 0
    · subst h0
      simp [BitVec.testBit_toNat]
    · simp [h0, hi]
      congr 1
      omega
theorem bits_le32 (x : W32) : (le32 x).flatMap bits8 = (List.range' 0 32).map fun i => x.toNat.testBit i := by
  have h : ∀ k, x.toNat / 2 ^ k = x.toNat >>> k := fun k => (Nat.shiftRight_eq_div_pow _ _).symm
  have e1 : x.toNat / 256 = x.toNat >>> 8 := h 8
  have e2 : x.toNat / 65536 = x.toNat >>> 16 := h 16
  have e3 : x.toNat / 16777216 = x.toNat >>> 24 := h 24
  unfold le32 bits8
  rw [e1, e2, e3]
  simp [List.range, List.range.loop, List.range', -UInt8.toNat_ofNat', -Nat.testBit_zero, u8_ofNat_testBit, Nat.testBit_shiftRight]
theorem crc_le32 (r x : W32) : crcReg r (le32 x) = crcN 32 (r ^^^ x) := by
  rw [← feed_bytes, bits_le32, feed_eq _ (by simp)]
  have := ofBits_word x 32 (by omega)
  simp only [Nat.sub_self] at this
  rw [this]
  simp
theorem crc_residue (l : List UInt8) : crc (l ++ le32 (crc l)) = 558161692 := by
  have e : crcReg 4294967295 l ^^^ crc l = 4294967295 := by
    unfold crc
    rw [not_xor, ← BitVec.xor_assoc]; simp
  unfold crc at e ⊢
  rw [crcReg_append, crc_le32, e]
  decide +kernel
end Dg
end Go.Proofs.YtbpodclodflgfaaDoor
