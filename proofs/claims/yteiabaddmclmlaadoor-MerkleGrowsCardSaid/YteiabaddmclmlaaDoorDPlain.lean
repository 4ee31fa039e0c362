/-
  The plain part of layer 3: SHA-256 over words of 32 bits.
-/
import Derived.Laws.BitsAllLaws
import Derived.IntWalk
namespace Go.Proofs.YteiabaddmclmlaaDoor
open Go
namespace Dg
abbrev W32 := BitVec 32
structure St where
  a : W32
  b : W32
  c : W32
  d : W32
  e : W32
  f : W32
  g : W32
  h : W32
def St.list (s : St) : List W32 := [s.a, s.b, s.c, s.d, s.e, s.f, s.g, s.h]
def ror (x : W32) (n : Nat) : W32 := (x >>> n) ||| (x <<< (32 - n))
def K : List W32 := [1116352408, 1899447441, 3049323471, 3921009573, 961987163, 1508970993, 2453635748, 2870763221, 3624381080, 310598401, 607225278, 1426881987, 1925078388, 2162078206, 2614888103, 3248222580, 3835390401, 4022224774, 264347078, 604807628, 770255983, 1249150122, 1555081692, 1996064986, 2554220882, 2821834349, 2952996808, 3210313671, 3336571891, 3584528711, 113926993, 338241895, 666307205, 773529912, 1294757372, 1396182291, 1695183700, 1986661051, 2177026350, 2456956037, 2730485921, 2820302411, 3259730800, 3345764771, 3516065817, 3600352804, 4094571909, 275423344, 430227734, 506948616, 659060556, 883997877, 958139571, 1322822218, 1537002063, 1747873779, 1955562222, 2024104815, 2227730452, 2361852424, 2428436474, 2756734187, 3204031479, 3329325298]
def tOf (k w : W32) (s : St) : W32 := s.h + (ror s.e 6 ^^^ ror s.e 11 ^^^ ror s.e 25) + ((s.e &&& s.f) ^^^ (~~~ s.e &&& s.g)) + k + w
def uOf (s : St) : W32 := (ror s.a 2 ^^^ ror s.a 13 ^^^ ror s.a 22) + ((s.a &&& s.b) ^^^ (s.a &&& s.c) ^^^ (s.b &&& s.c))
def rnd (k w : W32) (s : St) : St := ⟨tOf k w s + uOf s, s.a, s.b, s.c, s.d + tOf k w s, s.e, s.f, s.g⟩
def rnds (w : List W32) (s : St) : Nat → St
  | 0 => s
  | n + 1 => rnd (K.getD n 0) (w.getD n 0) (rnds w s n)
def ext (w : List W32) (i : Nat) : W32 :=
  w.getD (i - 16) 0 + (ror (w.getD (i - 15) 0) 7 ^^^ ror (w.getD (i - 15) 0) 18 ^^^ (w.getD (i - 15) 0 >>> 3)) + w.getD (i - 7) 0 + (ror (w.getD (i - 2) 0) 17 ^^^ ror (w.getD (i - 2) 0) 19 ^^^ (w.getD (i - 2) 0 >>> 10))
def sched (w : List W32) : Nat → List W32
  | 0 => w
  | n + 1 => sched w n ++ [ext (sched w n) (16 + n)]
def word (a b c d : UInt8) : W32 := BitVec.ofNat 32 (((a.toNat * 256 + b.toNat) * 256 + c.toNat) * 256 + d.toNat)
def wordAt (l : List UInt8) (n : Nat) : W32 := word (l.getD (4 * n) 0) (l.getD (4 * n + 1) 0) (l.getD (4 * n + 2) 0) (l.getD (4 * n + 3) 0)
def words (l : List UInt8) : Nat → List W32
  | 0 => []
  | n + 1 => words l n ++ [wordAt l n]
def W (l : List UInt8) : List W32 := sched (words l 16) 48
def addS (s r : St) : St := ⟨s.a + r.a, s.b + r.b, s.c + r.c, s.d + r.d, s.e + r.e, s.f + r.f, s.g + r.g, s.h + r.h⟩
def proc (s : St) (l : List UInt8) : St := addS s (rnds (W l) s 64)
def absorb : Nat → St → List UInt8 → St
  | 0, s, _ => s
  | n + 1, s, l => absorb n (proc s (l.take 64)) (l.drop 64)
def be32 (x : W32) : List UInt8 := [UInt8.ofNat (x.toNat / 16777216), UInt8.ofNat (x.toNat / 65536), UInt8.ofNat (x.toNat / 256), UInt8.ofNat x.toNat]
def be64 (n : Nat) : List UInt8 := be32 (BitVec.ofNat 32 (n / 4294967296)) ++ be32 (BitVec.ofNat 32 n)
def pad (l : List UInt8) : List UInt8 := l ++ 128 :: (List.replicate ((119 - l.length % 64) % 64) 0 ++ be64 (8 * l.length))
def H0 : St := ⟨0x6a09e667, 0xbb67ae85, 0x3c6ef372, 0xa54ff53a, 0x510e527f, 0x9b05688c, 0x1f83d9ab, 0x5be0cd19⟩
def St.bytes (s : St) : List UInt8 := s.list.flatMap be32
def sha (l : List UInt8) : List UInt8 := (absorb ((pad l).length / 64) H0 (pad l)).bytes

theorem words_length (l : List UInt8) : ∀ n, (words l n).length = n
  | 0 => rfl
  | n + 1 => by simp [words, words_length l n]
theorem sched_length (w : List W32) : ∀ n, (sched w n).length = w.length + n
  | 0 => rfl
  | n + 1 => by simp [sched, sched_length w n]; omega
theorem W_length (l : List UInt8) : (W l).length = 64 := by unfold W; rw [sched_length, words_length]
theorem be32_length (x : W32) : (be32 x).length = 4 := rfl
theorem be64_length (n : Nat) : (be64 n).length = 8 := rfl
theorem bytes_length (s : St) : s.bytes.length = 32 := rfl
theorem sha_length (l : List UInt8) : (sha l).length = 32 := bytes_length _
theorem pad_length (l : List UInt8) : (pad l).length = 64 * ((l.length + 72) / 64) := by
  unfold pad
  simp [be64_length]
  omega
theorem absorb_add : ∀ (n m : Nat) (s : St) (l r : List UInt8), l.length = 64 * n → absorb (n + m) s (l ++ r) = absorb m (absorb n s l) r
  | 0, m, s, l, r, h => by
    have : l = [] := List.eq_nil_of_length_eq_zero (by omega)
    subst this
    simp [absorb]
  | n + 1, m, s, l, r, h => by
    rw [Nat.add_right_comm]
    show absorb (n + m) (proc s ((l ++ r).take 64)) ((l ++ r).drop 64) = absorb m (absorb n (proc s (l.take 64)) (l.drop 64)) r
    rw [List.take_append_of_le_length (by omega), List.drop_append_of_le_length (by omega)]
    exact absorb_add n m _ _ r (by simp; omega)

/-! Words as the model writes them: 'bits' and 'wrap' over numbers that are words. -/
theorem w_lt (x : W32) : x.toNat < 4294967296 := x.isLt
theorem w_xor (x y : W32) : bits .xor .u32 (x.toNat : Int) (y.toNat : Int) = ((x ^^^ y).toNat : Int) := by
  rw [u32_xor_nat _ _ x.isLt y.isLt, BitVec.toNat_xor]
theorem w_and (x y : W32) : bits .and .u32 (x.toNat : Int) (y.toNat : Int) = ((x &&& y).toNat : Int) := by
  rw [u32_and_nat _ _ x.isLt y.isLt, BitVec.toNat_and]
theorem w_or (x y : W32) : bits .or .u32 (x.toNat : Int) (y.toNat : Int) = ((x ||| y).toNat : Int) := by
  rw [u32_or_nat _ _ x.isLt y.isLt, BitVec.toNat_or]
theorem w_andNot (x y : W32) : bits .andNot .u32 (x.toNat : Int) (y.toNat : Int) = ((x &&& ~~~ y).toNat : Int) := by
  rw [u32_andNot_nat _ _ x.isLt y.isLt, BitVec.toNat_and, BitVec.toNat_not]
theorem w_add (x y : W32) : IntKind.u32.wrap ((x.toNat : Int) + (y.toNat : Int)) = ((x + y).toNat : Int) := by
  rw [IntKind.wrap_u32', BitVec.toNat_add]
  omega
theorem v_xor (x y : W32) : bits .xor .i64 (x.toNat : Int) (y.toNat : Int) = ((x ^^^ y).toNat : Int) := by
  have h1 : (BitVec.ofInt 64 (x.toNat : Int)).toNat = x.toNat := by rw [BitVec.ofInt_natCast, BitVec.toNat_ofNat]; exact Nat.mod_eq_of_lt (by have := x.isLt; omega)
  have h2 : (BitVec.ofInt 64 (y.toNat : Int)).toNat = y.toNat := by rw [BitVec.ofInt_natCast, BitVec.toNat_ofNat]; exact Nat.mod_eq_of_lt (by have := y.isLt; omega)
  show IntKind.i64.wrap ((BitVec.ofInt 64 (x.toNat : Int) ^^^ BitVec.ofInt 64 (y.toNat : Int)).toNat : Int) = _
  rw [BitVec.toNat_xor, h1, h2, ← BitVec.toNat_xor, IntWalk.i64_in _ (by have := BitVec.isLt (x ^^^ y); omega)]
theorem v_and (x y : W32) : bits .and .i64 (x.toNat : Int) (y.toNat : Int) = ((x &&& y).toNat : Int) := by
  have h1 : (BitVec.ofInt 64 (x.toNat : Int)).toNat = x.toNat := by rw [BitVec.ofInt_natCast, BitVec.toNat_ofNat]; exact Nat.mod_eq_of_lt (by have := x.isLt; omega)
  have h2 : (BitVec.ofInt 64 (y.toNat : Int)).toNat = y.toNat := by rw [BitVec.ofInt_natCast, BitVec.toNat_ofNat]; exact Nat.mod_eq_of_lt (by have := y.isLt; omega)
  show IntKind.i64.wrap ((BitVec.ofInt 64 (x.toNat : Int) &&& BitVec.ofInt 64 (y.toNat : Int)).toNat : Int) = _
  rw [BitVec.toNat_and, h1, h2, ← BitVec.toNat_and, IntWalk.i64_in _ (by have := BitVec.isLt (x &&& y); omega)]
theorem v_or (x y : W32) : bits .or .i64 (x.toNat : Int) (y.toNat : Int) = ((x ||| y).toNat : Int) := by
  have h1 : (BitVec.ofInt 64 (x.toNat : Int)).toNat = x.toNat := by rw [BitVec.ofInt_natCast, BitVec.toNat_ofNat]; exact Nat.mod_eq_of_lt (by have := x.isLt; omega)
  have h2 : (BitVec.ofInt 64 (y.toNat : Int)).toNat = y.toNat := by rw [BitVec.ofInt_natCast, BitVec.toNat_ofNat]; exact Nat.mod_eq_of_lt (by have := y.isLt; omega)
  show IntKind.i64.wrap ((BitVec.ofInt 64 (x.toNat : Int) ||| BitVec.ofInt 64 (y.toNat : Int)).toNat : Int) = _
  rw [BitVec.toNat_or, h1, h2, ← BitVec.toNat_or, IntWalk.i64_in _ (by have := BitVec.isLt (x ||| y); omega)]
theorem w_shr (x : W32) (n : Nat) : ((x >>> n).toNat : Int) = (x.toNat : Int) / (2 ^ n : Nat) := by
  rw [BitVec.toNat_ushiftRight, Nat.shiftRight_eq_div_pow, Int.natCast_ediv]

set_option maxRecDepth 100000 in
theorem sha_abc : sha [97, 98, 99] = [186, 120, 22, 191, 143, 1, 207, 234, 65, 65, 64, 222, 93, 174, 34, 35, 176, 3, 97, 163, 150, 23, 122, 156, 180, 16, 255, 97, 242, 0, 21, 173] := by decide +kernel
end Dg
end Go.Proofs.YteiabaddmclmlaaDoor
