/-
  Bits of a string that are inverted, and its CRC.
-/
import Derived.Test.YtdiolhhfbllfeaaDoorDCrc
namespace Go.Proofs.YtdiolhhfbllfeaaDoor
open Go
namespace Dg
def flip1 (m : List UInt8) (at_ : Nat) : List UInt8 := m.set (at_ / 8) (m.getD (at_ / 8) 0 ^^^ UInt8.ofNat (2 ^ (at_ % 8)))
def flipN (pb : Nat → Bool) (bit : Nat) (l : List UInt8) : Nat → List UInt8
  | 0 => l
  | n + 1 => if pb n = true ∧ bit + n < 8 * l.length then flip1 (flipN pb bit l n) (bit + n) else flipN pb bit l n
theorem flip1_length (m : List UInt8) (k : Nat) : (flip1 m k).length = m.length := by simp [flip1]
theorem flipN_length (pb : Nat → Bool) (bit : Nat) (l : List UInt8) : ∀ n, (flipN pb bit l n).length = l.length
  | 0 => rfl
  | n + 1 => by
    unfold flipN
    split
    · rw [flip1_length, flipN_length pb bit l n]
    · exact flipN_length pb bit l n
theorem flipN_none (pb : Nat → Bool) (bit : Nat) (l : List UInt8) : ∀ n, (∀ i, i < n → bit + i < 8 * l.length → pb i = false) → flipN pb bit l n = l
  | 0, _ => rfl
  | n + 1, h => by
    unfold flipN
    rw [if_neg (fun hc => by have := h n (by omega) hc.2; rw [this] at hc; exact absurd hc.1 (by simp))]
    exact flipN_none pb bit l n (fun i hi => h i (by omega))
def bitAt (l : List UInt8) (j : Nat) : Bool := (l.getD (j / 8) 0).toNat.testBit (j % 8)
theorem mask_bit (x : UInt8) (r i : Nat) (hr : r < 8) : (x ^^^ UInt8.ofNat (2 ^ r)).toNat.testBit i = (x.toNat.testBit i ^^ decide (i = r)) := by
  have hm : (UInt8.ofNat (2 ^ r)).toNat = 2 ^ r := by
    rw [UInt8.toNat_ofNat']
    exact Nat.mod_eq_of_lt (Nat.pow_lt_pow_right (by omega) hr)
  rw [UInt8.toNat_xor, hm, Nat.testBit_xor, Nat.testBit_two_pow]
  congr 1
  simp [eq_comm]
theorem bitAt_flip1 (m : List UInt8) (k j : Nat) (hk : k < 8 * m.length) : bitAt (flip1 m k) j = (bitAt m j ^^ decide (j = k)) := by
  unfold bitAt flip1
  by_cases h : j / 8 = k / 8
  · rw [h, List.getD_eq_getElem?_getD, List.getElem?_set_self (by omega)]
    simp only [Option.getD_some]
    rw [mask_bit _ _ _ (Nat.mod_lt _ (by omega))]
    congr 1
    apply decide_eq_decide.2
    omega
  · rw [List.getD_eq_getElem?_getD, List.getElem?_set_ne (fun e => h e.symm), ← List.getD_eq_getElem?_getD]
    have : ¬ j = k := fun e => h (by rw [e])
    simp [this]
theorem bitAt_flipN (pb : Nat → Bool) (bit : Nat) (l : List UInt8) : ∀ n j, bitAt (flipN pb bit l n) j = (bitAt l j ^^ (decide (bit ≤ j) && decide (j < bit + n) && decide (j < 8 * l.length) && pb (j - bit)))
  | 0, j => by
    have : ¬ (bit ≤ j ∧ j < bit + 0) := by omega
    by_cases h1 : bit ≤ j
    · have h2 : ¬ j < bit := by omega
      simp [flipN, h2]
    · simp [flipN, h1]
  | n + 1, j => by
    have ih := bitAt_flipN pb bit l n j
    unfold flipN
    by_cases hc : pb n = true ∧ bit + n < 8 * l.length
    · rw [if_pos hc, bitAt_flip1 _ _ _ (by rw [flipN_length]; exact hc.2), ih]
      by_cases hj : j = bit + n
      · subst hj
        simp [hc.1, hc.2]
      · have e : decide (j < bit + (n + 1)) = decide (j < bit + n) := decide_eq_decide.2 (by omega)
        rw [e]
        simp [hj]
    · rw [if_neg hc, ih]
      by_cases hj : j = bit + n
      · subst hj
        have hlt : ¬ (bit + n < bit + n) := by omega
        by_cases h2 : bit + n < 8 * l.length
        · have : pb n = false := by
            cases hp : pb n
            · rfl
            · exact absurd ⟨hp, h2⟩ hc
          simp [this]
        · simp [h2]
      · have e : decide (j < bit + (n + 1)) = decide (j < bit + n) := decide_eq_decide.2 (by omega)
        rw [e]
theorem bits_length (l : List UInt8) : (l.flatMap bits8).length = 8 * l.length := by
  induction l with
  | nil => rfl
  | cons c l ih => rw [List.flatMap_cons, List.length_append, ih, List.length_cons]; simp [bits8]; omega
theorem bits_at : ∀ (l : List UInt8) (j : Nat), j < 8 * l.length → (l.flatMap bits8)[j]? = some (bitAt l j)
  | [], j, h => by simp at h
  | c :: l, j, h => by
    rw [List.flatMap_cons]
    have h8 : (bits8 c).length = 8 := by simp [bits8]
    by_cases hj : j < 8
    · rw [List.getElem?_append_left (by omega)]
      unfold bits8 bitAt
      rw [List.getElem?_map, List.getElem?_range hj]
      simp [show j / 8 = 0 from by omega, Nat.mod_eq_of_lt hj]
    · rw [List.getElem?_append_right (by omega), h8, bits_at l (j - 8) (by simp at h; omega)]
      unfold bitAt
      rw [show j / 8 = (j - 8) / 8 + 1 from by omega, show j % 8 = (j - 8) % 8 from by omega]
      rfl
/-- Where the two strings' bits differ. -/
theorem diff_bits (pb : Nat → Bool) (bit : Nat) (l : List UInt8) (hb : bit < 8 * l.length) :
    List.zipWith (· ^^ ·) (l.flatMap bits8) ((flipN pb bit l 32).flatMap bits8) =
      List.replicate bit false ++ (((List.range (min 32 (8 * l.length - bit))).map pb) ++ List.replicate (8 * l.length - bit - min 32 (8 * l.length - bit)) false) := by
  obtain ⟨m, hm⟩ : ∃ m, min 32 (8 * l.length - bit) = m := ⟨_, rfl⟩
  rw [hm]
  apply List.ext_getElem?
  intro j
  by_cases hj : j < 8 * l.length
  · rw [List.getElem?_zipWith, bits_at l j hj, bits_at _ j (by rw [flipN_length]; exact hj), bitAt_flipN]
    simp only
    by_cases h1 : j < bit
    · rw [List.getElem?_append_left (by simpa using h1), List.getElem?_replicate, if_pos h1]
      have : ¬ bit ≤ j := by omega
      simp [this]
    · rw [List.getElem?_append_right (by simp; omega), List.length_replicate]
      by_cases h2 : j - bit < m
      · rw [List.getElem?_append_left (by simpa using h2), List.getElem?_map, List.getElem?_range h2]
        have h3 : bit ≤ j := by omega
        have h4 : j < bit + 32 := by omega
        simp [h3, h4, hj]
      · rw [List.getElem?_append_right (by simp; omega), List.length_map, List.length_range, List.getElem?_replicate, if_pos (by omega)]
        have h4 : ¬ (j < bit + 32) := by omega
        simp [h4]
  · rw [List.getElem?_eq_none (by rw [List.length_zipWith, bits_length]; omega), List.getElem?_eq_none (by simp; omega)]
theorem crc_detects (pb : Nat → Bool) (bit : Nat) (l : List UInt8) (hb : bit < 8 * l.length) (h : crc l = crc (flipN pb bit l 32)) : flipN pb bit l 32 = l := by
  have hr : crcReg 4294967295 l = crcReg 4294967295 (flipN pb bit l 32) := by
    have := congrArg (fun x => ~~~ x) h
    simpa [crc] using this
  have hd := feed_xor (l.flatMap bits8) ((flipN pb bit l 32).flatMap bits8) (by rw [bits_length, bits_length, flipN_length]) 4294967295 4294967295
  rw [feed_bytes, feed_bytes, ← hr, diff_bits pb bit l hb] at hd
  simp only [BitVec.xor_self] at hd
  have hz := feed_detects _ _ _ (by simp; omega) hd
  refine flipN_none pb bit l 32 fun i hi hlt => hz _ ?_
  exact List.mem_map.2 ⟨i, List.mem_range.2 (by omega), rfl⟩
end Dg
end Go.Proofs.YtdiolhhfbllfeaaDoor
