/-
  UTF-8, plain: what has been encoded is decoded again; what Repair gives.
-/
import Derived.Test.YtdkocjdhekomoaaGreatDoorHPl
import Derived.Lib.Small
namespace Go.Proofs.YtdkocjdhekomoaaGreatDoor
namespace Ch
open Go.Lib
theorem rune_ok (l : List UInt8) : ((decodeL l).1 < 55296 ∨ (57343 < (decodeL l).1 ∧ (decodeL l).1 ≤ 1114111)) := by
  rw [decodeL_N]
  have k0 := (l.getD 0 0).toNat_lt
  have k1 := (l.getD 1 0).toNat_lt
  have k2 := (l.getD 2 0).toNat_lt
  have k3 := (l.getD 3 0).toNat_lt
  generalize (l.getD 0 0).toNat = b0 at *
  generalize (l.getD 1 0).toNat = b1 at *
  generalize (l.getD 2 0).toNat = b2 at *
  generalize (l.getD 3 0).toNat = b3 at *
  unfold decodeN
  repeat' split
  all_goals simp only [] <;> omega
def okRune (r : Nat) : Prop := r < 55296 ∨ (57343 < r ∧ r ≤ 1114111)
theorem enc_one {r : Nat} (h : r ≤ 127) : encodeRune (r : Int) = [UInt8.ofNat r] := by
  unfold encodeRune
  rw [encodeRuneZ_one (by omega) (by omega)]
  simp
theorem enc_two {r : Nat} (h0 : 128 ≤ r) (h1 : r ≤ 2047) : encodeRune (r : Int) = [UInt8.ofNat (192 + r / 64), UInt8.ofNat (128 + r % 64)] := by
  unfold encodeRune
  rw [encodeRuneZ_two (by omega) (by omega)]
  have a : ((192 : Int) + (r : Int) / 64).toNat = 192 + r / 64 := by omega
  have b : ((128 : Int) + (r : Int) % 64).toNat = 128 + r % 64 := by omega
  simp only [List.map_cons, List.map_nil, a, b]
theorem enc_three {r : Nat} (h : (2048 ≤ r ∧ r < 55296) ∨ (57343 < r ∧ r ≤ 65535)) : encodeRune (r : Int) = [UInt8.ofNat (224 + r / 4096), UInt8.ofNat (128 + r / 64 % 64), UInt8.ofNat (128 + r % 64)] := by
  unfold encodeRune
  rw [encodeRuneZ_three (by omega)]
  have a : ((224 : Int) + (r : Int) / 4096).toNat = 224 + r / 4096 := by omega
  have b : ((128 : Int) + (r : Int) / 64 % 64).toNat = 128 + r / 64 % 64 := by omega
  have c : ((128 : Int) + (r : Int) % 64).toNat = 128 + r % 64 := by omega
  simp only [List.map_cons, List.map_nil, a, b, c]
theorem enc_four {r : Nat} (h0 : 65536 ≤ r) (h1 : r ≤ 1114111) : encodeRune (r : Int) = [UInt8.ofNat (240 + r / 262144), UInt8.ofNat (128 + r / 4096 % 64), UInt8.ofNat (128 + r / 64 % 64), UInt8.ofNat (128 + r % 64)] := by
  unfold encodeRune
  rw [encodeRuneZ_four (by omega) (by omega)]
  have a : ((240 : Int) + (r : Int) / 262144).toNat = 240 + r / 262144 := by omega
  have b : ((128 : Int) + (r : Int) / 4096 % 64).toNat = 128 + r / 4096 % 64 := by omega
  have c : ((128 : Int) + (r : Int) / 64 % 64).toNat = 128 + r / 64 % 64 := by omega
  have d : ((128 : Int) + (r : Int) % 64).toNat = 128 + r % 64 := by omega
  simp only [List.map_cons, List.map_nil, a, b, c, d]
theorem ofNat_toNat {n : Nat} (h : n < 256) : (UInt8.ofNat n).toNat = n := by simp; omega
/-- What has been encoded is decoded again. -/
theorem decode_enc {r : Nat} (hr : okRune r) (rest : List UInt8) : decodeL (encodeRune (r : Int) ++ rest) = (r, (encodeRune (r : Int)).length) := by
  unfold okRune at hr
  rw [decodeL_N]
  by_cases c1 : r ≤ 127
  · rw [enc_one c1]
    simp only [List.cons_append, List.nil_append, List.getD_cons_zero, ofNat_toNat (show r < 256 by omega)]
    unfold decodeN
    rw [if_pos (by omega)]; rfl
  by_cases c2 : r ≤ 2047
  · rw [enc_two (by omega) c2]
    simp only [List.cons_append, List.nil_append, List.getD_cons_zero, List.getD_cons_succ, List.length_cons, ofNat_toNat (show 192 + r / 64 < 256 by omega), ofNat_toNat (show 128 + r % 64 < 256 by omega)]
    unfold decodeN
    rw [if_neg (by omega), if_pos ⟨by omega, by omega, by omega⟩, if_pos (by omega)]
    rw [Prod.mk.injEq]
    exact ⟨by omega, rfl⟩
  by_cases c3 : r ≤ 65535
  · rw [enc_three (by omega)]
    simp only [List.cons_append, List.nil_append, List.getD_cons_zero, List.getD_cons_succ, List.length_cons, ofNat_toNat (show 224 + r / 4096 < 256 by omega), ofNat_toNat (show 128 + r / 64 % 64 < 256 by omega), ofNat_toNat (show 128 + r % 64 < 256 by omega)]
    unfold decodeN
    rw [if_neg (by omega), if_neg (by omega), if_pos ⟨by omega, ⟨by omega, by omega⟩, by omega, by omega⟩, if_pos (by omega)]
    rw [Prod.mk.injEq]
    exact ⟨by omega, rfl⟩
  · rw [enc_four (by omega) (by omega)]
    simp only [List.cons_append, List.nil_append, List.getD_cons_zero, List.getD_cons_succ, List.length_cons, ofNat_toNat (show 240 + r / 262144 < 256 by omega), ofNat_toNat (show 128 + r / 4096 % 64 < 256 by omega), ofNat_toNat (show 128 + r / 64 % 64 < 256 by omega), ofNat_toNat (show 128 + r % 64 < 256 by omega)]
    unfold decodeN
    rw [if_neg (by omega), if_neg (by omega), if_neg (by omega), if_pos ⟨by omega, ⟨by omega, by omega⟩, ⟨by omega, by omega⟩, by omega, by omega⟩, if_pos (by omega)]
    rw [Prod.mk.injEq]
    exact ⟨by omega, rfl⟩
theorem enc_len {r : Nat} (hr : okRune r) : Lib.runeLen (r : Int) = ((encodeRune (r : Int)).length : Int) := by
  unfold okRune at hr
  unfold Lib.runeLen
  by_cases c1 : r ≤ 127
  · rw [enc_one c1, if_neg (by omega), if_pos (by omega)]; rfl
  by_cases c2 : r ≤ 2047
  · rw [enc_two (by omega) c2, if_neg (by omega), if_neg (by omega), if_pos (by omega)]; rfl
  by_cases c3 : r ≤ 65535
  · rw [enc_three (by omega), if_neg (by omega), if_neg (by omega), if_neg (by omega), if_neg (by omega), if_pos (by omega)]; rfl
  · rw [enc_four (by omega) (by omega), if_neg (by omega), if_neg (by omega), if_neg (by omega), if_neg (by omega), if_neg (by omega), if_pos (by omega)]; rfl
theorem enc_ne (r : Int) (rest : List UInt8) : encodeRune r ++ rest ≠ [] := by
  intro h
  have h1 : (encodeRune r).length = 0 := by
    have := congrArg List.length h
    rw [List.length_append] at this
    simp at this; simp [this.1]
  have := runeCells_le r
  rw [runeCells_length] at this
  omega
theorem enc_pos (r : Int) : 1 ≤ (encodeRune r).length := by
  have := runeCells_le r
  rw [runeCells_length] at this
  omega
theorem repair_enc {r : Nat} (hr : okRune r) (rest : List UInt8) : repair (encodeRune (r : Int) ++ rest) = encodeRune (r : Int) ++ repair rest := by
  rw [repair_step _ (enc_ne _ _), decode_enc hr, List.drop_left]
theorem count_enc {r : Nat} (hr : okRune r) (rest : List UInt8) : count (encodeRune (r : Int) ++ rest) = 1 + count rest := by
  rw [count_step _ (enc_ne _ _), decode_enc hr, List.drop_left]
theorem valid_enc {r : Nat} (hr : okRune r) (rest : List UInt8) : validD (encodeRune (r : Int) ++ rest) = validD rest := by
  rw [validD_step _ (enc_ne _ _), decode_enc hr, List.drop_left]
  by_cases h : r = 65533
  · subst h
    rw [if_neg]
    rw [enc_three (by omega)]
    simp
  · rw [if_neg (by simp [h])]

/-- A list of characters, taken one by one. -/
theorem by_chars {P : List UInt8 → Prop} (h0 : P []) (h1 : ∀ l, l ≠ [] → P (l.drop (decodeL l).2) → P l) : ∀ l, P l := by
  have H : ∀ n (l : List UInt8), l.length ≤ n → P l := by
    intro n
    induction n with
    | zero =>
      intro l h
      have : l = [] := List.eq_nil_of_length_eq_zero (by omega)
      subst this; exact h0
    | succ n ih =>
      intro l h
      by_cases hne : l = []
      · subst hne; exact h0
      · have hw := decodeL_width l
        have hl : 0 < l.length := List.length_pos_iff.2 hne
        exact h1 l hne (ih _ (by rw [List.length_drop]; omega))
  exact fun l => H l.length l (Nat.le_refl _)
theorem repair_again (l : List UInt8) : repair (repair l) = repair l := by
  refine by_chars (P := fun l => repair (repair l) = repair l) rfl (fun l hne ih => ?_) l
  rw [repair_step l hne, repair_enc (rune_ok l), ih]
theorem repair_valid (l : List UInt8) : validD (repair l) = true := by
  refine by_chars (P := fun l => validD (repair l) = true) rfl (fun l hne ih => ?_) l
  rw [repair_step l hne, valid_enc (rune_ok l), ih]
theorem repair_count (l : List UInt8) : count (repair l) = count l := by
  refine by_chars (P := fun l => count (repair l) = count l) rfl (fun l hne ih => ?_) l
  rw [repair_step l hne, count_enc (rune_ok l), ih, count_step l hne]
theorem repair_same (l : List UInt8) : validD l = true → repair l = l := by
  refine by_chars (P := fun l => validD l = true → repair l = l) (fun _ => rfl) (fun l hne ih h => ?_) l
  rw [validD_step l hne] at h
  by_cases hb : (decodeL l).1 = 65533 ∧ (decodeL l).2 = 1
  · rw [if_pos hb] at h; cases h
  · rw [if_neg hb] at h
    rw [repair_step l hne, ih h, encode_decode l hne hb, List.take_append_drop]
theorem repair_iff (l : List UInt8) : (repair l == l) = validD l := by
  cases h : validD l with
  | true => rw [repair_same l h]; simp
  | false =>
    rw [beq_eq_false_iff_ne]
    intro e
    have := repair_valid l
    rw [e, h] at this; cases this
theorem count_le (l : List UInt8) : count l ≤ l.length := by
  refine by_chars (P := fun l => count l ≤ l.length) (Nat.le_refl _) (fun l hne ih => ?_) l
  have hw := decodeL_width l
  have hl : 0 < l.length := List.length_pos_iff.2 hne
  rw [List.length_drop] at ih
  rw [count_step l hne]
  omega
/-! ### single bytes -/
theorem single (g : UInt8 → Nat) (hg : ∀ c, okRune (g c)) : ∀ l, validD (mapB g l) = true ∧ count (mapB g l) = l.length
  | [] => ⟨rfl, rfl⟩
  | c :: r => by
    obtain ⟨h1, h2⟩ := single g hg r
    simp only [mapB, List.length_cons]
    rw [valid_enc (hg c), count_enc (hg c), h1, h2]
    exact ⟨rfl, by omega⟩
theorem single_ascii (g : UInt8 → Nat) (hg : ∀ c : UInt8, c.toNat < 128 → g c = c.toNat) : ∀ l : List UInt8, (∀ c ∈ l, c.toNat < 128) → mapB g l = l
  | [], _ => rfl
  | c :: r, h => by
    have hc := h c (by simp)
    simp only [mapB]
    rw [hg c hc, enc_one (by omega), single_ascii g hg r (fun x hx => h x (by simp [hx]))]
    simp
theorem okA (c : UInt8) : okRune (gA c) := by unfold okRune gA; split <;> omega
theorem okL (c : UInt8) : okRune (gL c) := by have := c.toNat_lt; unfold okRune gL; omega
theorem okW (c : UInt8) : okRune (gW c) := by
  have H : ∀ k : Fin 256, gW (UInt8.ofNat k.val) < 55296 ∨ (57343 < gW (UInt8.ofNat k.val) ∧ gW (UInt8.ofNat k.val) ≤ 1114111) := by decide +kernel
  have := H ⟨c.toNat, UInt8.toNat_lt c⟩
  unfold okRune
  simpa using this
end Ch
end Go.Proofs.YtdkocjdhekomoaaGreatDoor
