/-
  Base32, Unbase32.
-/
import Derived.Test.YtdleaipcogomfaaDoorDUnhex
namespace Go.Proofs.YtdleaipcogomfaaDoor
open Go Go.RowKit Go.Shelf
namespace Dg
theorem div_mod32 (G g k : Nat) (h : G % 2 ^ (k + 5) = g % 2 ^ (k + 5)) : G / 2 ^ k % 32 = g / 2 ^ k % 32 := by
  have e : ∀ x : Nat, x / 2 ^ k % 32 = x % 2 ^ (k + 5) / 2 ^ k := fun x => by
    rw [Nat.pow_add, Nat.mod_mul_right_div_self]
  rw [e, e, h]
theorem mod_less {G g a b : Nat} (h : G % 2 ^ b = g % 2 ^ b) (hab : a ≤ b) : G % 2 ^ a = g % 2 ^ a := by
  obtain ⟨c, rfl⟩ : ∃ c, b = a + c := ⟨b - a, by omega⟩
  have e : ∀ x : Nat, x % 2 ^ (a + c) % 2 ^ a = x % 2 ^ a := fun x => Nat.mod_mod_of_dvd _ ⟨2 ^ c, by rw [Nat.pow_add]⟩
  rw [← e G, ← e g, h]
theorem mod_mul256 {G g s c : Nat} (h : G % 2 ^ s = g % 2 ^ s) : (G * 256 + c) % 2 ^ (s + 8) = (g * 256 + c) % 2 ^ (s + 8) := by
  have e : ∀ x : Nat, (x * 256) % 2 ^ (s + 8) = x % 2 ^ s * 256 := fun x => by
    rw [Nat.pow_add]
    show x * 2 ^ 8 % (2 ^ s * 2 ^ 8) = _
    rw [Nat.mul_mod_mul_right]
  rw [Nat.add_mod, e, h, ← e, ← Nat.add_mod]
theorem enc_mod : ∀ (l : List UInt8) (G g s : Nat), s < 5 → G % 2 ^ s = g % 2 ^ s → enc G s l = enc g s l
  | [], G, g, s, hs, h => by
    unfold enc
    have e : ∀ x : Nat, x * 2 ^ (5 - s) % 32 = x % 2 ^ s * 2 ^ (5 - s) := fun x => by
      have : (32 : Nat) = 2 ^ s * 2 ^ (5 - s) := by rw [← Nat.pow_add, show s + (5 - s) = 5 from by omega]
      rw [this, Nat.mul_mod_mul_right]
    rw [e, e, h]
  | c :: l, G, g, s, hs, h => by
    have h8 := mod_mul256 (c := c.toNat) h
    unfold enc
    by_cases h2 : 2 ≤ s
    · rw [if_pos h2, if_pos h2, div_mod32 _ _ (s + 3) h8, div_mod32 _ _ (s - 2) (mod_less h8 (by omega)), mod_less h8 (show s - 2 ≤ s + 8 by omega)]
    · rw [if_neg h2, if_neg h2, div_mod32 _ _ (s + 3) h8, mod_less h8 (show s + 3 ≤ s + 8 by omega)]
/-- What is written when 'm' bits of 'V' are there. -/
def emit (V : Nat) (l : List UInt8) (m : Nat) : List UInt8 :=
  if 10 ≤ m then b32Digits.getD (V / 2 ^ (m - 5) % 32) 0 :: b32Digits.getD (V / 2 ^ (m - 10) % 32) 0 :: enc V (m - 10) l
  else if 5 ≤ m then b32Digits.getD (V / 2 ^ (m - 5) % 32) 0 :: enc V (m - 5) l else enc V m l
theorem emit_step (V : Nat) (l : List UInt8) (m : Nat) (h : m + 5 < 15) : emit V l (m + 5) = b32Digits.getD (V / 2 ^ m % 32) 0 :: emit V l m := by
  unfold emit
  by_cases h5 : 5 ≤ m
  · rw [if_pos (by omega), if_neg (by omega), if_pos h5, show m + 5 - 5 = m from by omega, show m + 5 - 10 = m - 5 from by omega]
  · rw [if_neg (by omega), if_pos (by omega), if_neg (by omega), if_neg h5, show m + 5 - 5 = m from by omega]
theorem emit_end (V : Nat) (l : List UInt8) (m : Nat) (h : m < 5) : emit V l m = enc V m l := by
  unfold emit
  rw [if_neg (by omega), if_neg (by omega)]
theorem enc_emit (G V s : Nat) (c : UInt8) (l : List UInt8) (hs : s < 5) (hV : V % 4294967296 = (G * 256 + c.toNat) % 4294967296) : enc G s (c :: l) = emit V l (s + 8) := by
  have h32 : V % 2 ^ 32 = (G * 256 + c.toNat) % 2 ^ 32 := hV
  unfold enc emit
  by_cases h2 : 2 ≤ s
  · rw [if_pos h2, if_pos (by omega), show s + 8 - 5 = s + 3 from by omega, show s + 8 - 10 = s - 2 from by omega, div_mod32 V _ (s + 3) (mod_less h32 (by omega)), div_mod32 V _ (s - 2) (mod_less h32 (by omega)),
      enc_mod l V ((G * 256 + c.toNat) % 2 ^ (s - 2)) (s - 2) (by omega) (by rw [Nat.mod_mod]; exact mod_less h32 (by omega))]
  · rw [if_neg h2, if_neg (by omega), if_pos (by omega), show s + 8 - 5 = s + 3 from by omega, div_mod32 V _ (s + 3) (mod_less h32 (by omega)),
      enc_mod l V ((G * 256 + c.toNat) % 2 ^ (s + 3)) (s + 3) (by omega) (by rw [Nat.mod_mod]; exact mod_less h32 (by omega))]
theorem shl_or (G : W32) (c : UInt8) : ∃ V : W32, bits .or .u32 ((G.toNat : Int) * 256 % (4294967296 : Int)) (c.toNat : Int) = (V.toNat : Int) ∧ V.toNat % 4294967296 = (G.toNat * 256 + c.toNat) % 4294967296 := by
  have hc := UInt8.toNat_lt c
  refine ⟨BitVec.ofNat 32 (G.toNat * 256 + c.toNat), ?_, by rw [BitVec.toNat_ofNat]; omega⟩
  obtain ⟨q, hq⟩ : ∃ q, G.toNat % 16777216 = q := ⟨_, rfl⟩
  have e1 : (G.toNat : Int) * 256 % (4294967296 : Int) = ((256 * q : Nat) : Int) := by omega
  rw [e1, u32_or_nat _ _ (by omega) (by omega), show 256 * q ||| c.toNat = 256 * q + c.toNat from or_add q c.toNat 8 (by omega), BitVec.toNat_ofNat]
  omega
theorem and31 (n : Nat) (h : n < 4294967296) : bits .and .u32 (n : Int) 31 = ((n % 32 : Nat) : Int) := by
  have := u32_and_nat n 31 h (by omega)
  rw [show ((31 : Nat) : Int) = 31 from rfl] at this
  rw [this, show n &&& 31 = n % 2 ^ 5 from Nat.and_two_pow_sub_one_eq_mod n 5]
end Dg
end Go.Proofs.YtdleaipcogomfaaDoor
