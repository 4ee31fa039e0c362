/-
  The plain part of layer 3: hexadecimal and base 32, there and back.
-/
import Derived.Test.YteiabaddmclmlaaDoorDPlain
namespace Go.Proofs.YteiabaddmclmlaaDoor
open Go
namespace Dg
def hexDigits : List UInt8 := [48, 49, 50, 51, 52, 53, 54, 55, 56, 57, 97, 98, 99, 100, 101, 102]
def b32Digits : List UInt8 := [97, 98, 99, 100, 101, 102, 103, 104, 105, 106, 107, 108, 109, 110, 111, 112, 113, 114, 115, 116, 117, 118, 119, 120, 121, 122, 50, 51, 52, 53, 54, 55]
/-- The value of a digit, or none. -/
def hexV (c : UInt8) : Option Nat :=
  if 48 ≤ c.toNat ∧ c.toNat ≤ 57 then some (c.toNat - 48) else if 97 ≤ c.toNat ∧ c.toNat ≤ 102 then some (c.toNat - 87) else none
def b32V (c : UInt8) : Option Nat :=
  if 97 ≤ c.toNat ∧ c.toNat ≤ 122 then some (c.toNat - 97) else if 50 ≤ c.toNat ∧ c.toNat ≤ 55 then some (c.toNat - 24) else none
theorem hexV_some {c : UInt8} {n : Nat} (h : hexV c = some n) : n < 16 ∧ hexDigits.getD n 0 = c := by
  have H : ∀ k : Fin 256, ∀ n, hexV (UInt8.ofNat k.val) = some n → n < 16 ∧ hexDigits.getD n 0 = UInt8.ofNat k.val := by
    have H2 : ∀ k : Fin 256, (match hexV (UInt8.ofNat k.val) with | some n => decide (n < 16 ∧ hexDigits.getD n 0 = UInt8.ofNat k.val) | none => true) = true := by decide +kernel
    intro k n hn
    have := H2 k
    rw [hn] at this
    simpa using this
  have := H ⟨c.toNat, UInt8.toNat_lt c⟩ n
  simp only [UInt8.ofNat_toNat] at this
  exact this h
theorem hexV_digit (n : Nat) (h : n < 16) : hexV (hexDigits.getD n 0) = some n := by
  have H : ∀ k : Fin 16, hexV (hexDigits.getD k.val 0) = some k.val := by decide +kernel
  exact H ⟨n, h⟩
theorem b32V_some {c : UInt8} {n : Nat} (h : b32V c = some n) : n < 32 ∧ b32Digits.getD n 0 = c := by
  have H : ∀ k : Fin 256, ∀ n, b32V (UInt8.ofNat k.val) = some n → n < 32 ∧ b32Digits.getD n 0 = UInt8.ofNat k.val := by
    have H2 : ∀ k : Fin 256, (match b32V (UInt8.ofNat k.val) with | some n => decide (n < 32 ∧ b32Digits.getD n 0 = UInt8.ofNat k.val) | none => true) = true := by decide +kernel
    intro k n hn
    have := H2 k
    rw [hn] at this
    simpa using this
  have := H ⟨c.toNat, UInt8.toNat_lt c⟩ n
  simp only [UInt8.ofNat_toNat] at this
  exact this h
theorem b32V_digit (n : Nat) (h : n < 32) : b32V (b32Digits.getD n 0) = some n := by
  have H : ∀ k : Fin 32, b32V (b32Digits.getD k.val 0) = some k.val := by decide +kernel
  exact H ⟨n, h⟩

def hexC (c : UInt8) : List UInt8 := [hexDigits.getD (c.toNat / 16) 0, hexDigits.getD (c.toNat % 16) 0]
def hex (l : List UInt8) : List UInt8 := l.flatMap hexC
def unhex : List UInt8 → Option (List UInt8)
  | [] => some []
  | [_] => none
  | a :: b :: r =>
    match hexV a, hexV b with
    | some x, some y => (unhex r).map (UInt8.ofNat (16 * x + y) :: ·)
    | _, _ => none
theorem hex_length : ∀ l : List UInt8, (hex l).length = 2 * l.length
  | [] => rfl
  | c :: l => by
    show (hexC c ++ hex l).length = _
    rw [List.length_append, hex_length l]
    simp [hexC]; omega
theorem unhex_hex : ∀ l : List UInt8, unhex (hex l) = some l
  | [] => rfl
  | c :: l => by
    have hc := UInt8.toNat_lt c
    show unhex (_ :: _ :: hex l) = _
    unfold unhex
    rw [hexV_digit _ (by omega), hexV_digit _ (by omega), unhex_hex l]
    show some (UInt8.ofNat (16 * (c.toNat / 16) + c.toNat % 16) :: l) = some (c :: l)
    rw [Nat.div_add_mod, UInt8.ofNat_toNat]
theorem hex_unhex : ∀ (h l : List UInt8), unhex h = some l → hex l = h
  | [], l, e => by
    injection e with e
    subst e; rfl
  | [_], _, e => by cases e
  | a :: b :: r, l, e => by
    unfold unhex at e
    cases ha : hexV a with
    | none => rw [ha] at e; cases e
    | some x =>
      cases hb : hexV b with
      | none => rw [ha, hb] at e; cases e
      | some y =>
        rw [ha, hb] at e
        obtain ⟨t, ht, rfl⟩ := Option.map_eq_some_iff.1 e
        have := hex_unhex r t ht
        obtain ⟨hx, hx2⟩ := hexV_some ha
        obtain ⟨hy, hy2⟩ := hexV_some hb
        show hexC _ ++ hex t = _
        rw [this]
        unfold hexC
        have e1 : (UInt8.ofNat (16 * x + y)).toNat = 16 * x + y := by rw [UInt8.toNat_ofNat']; exact Nat.mod_eq_of_lt (by omega)
        rw [e1, show (16 * x + y) / 16 = x from by omega, show (16 * x + y) % 16 = y from by omega, hx2, hy2]
        rfl
theorem unhex_odd : ∀ l : List UInt8, l.length % 2 = 1 → unhex l = none
  | [], h => by simp at h
  | [_], _ => rfl
  | a :: b :: r, h => by
    have := unhex_odd r (by simp at h; omega)
    unfold unhex
    rw [this]
    cases hexV a <;> cases hexV b <;> rfl

/-! Bits, the highest first. -/
def B : Nat → Nat → List Bool
  | 0, _ => []
  | n + 1, v => B n (v / 2) ++ [decide (v % 2 = 1)]
theorem B_length : ∀ n v, (B n v).length = n
  | 0, _ => rfl
  | n + 1, v => by simp [B, B_length n]
theorem B_add : ∀ (b a v : Nat), B (a + b) v = B a (v / 2 ^ b) ++ B b v
  | 0, a, v => by simp [B]
  | b + 1, a, v => by
    show B (a + b) (v / 2) ++ _ = B a (v / 2 ^ (b + 1)) ++ (B b (v / 2) ++ _)
    rw [B_add b a, ← List.append_assoc, Nat.div_div_eq_div_mul, Nat.pow_succ, Nat.mul_comm 2]
theorem B_mod : ∀ (n v : Nat), B n (v % 2 ^ n) = B n v
  | 0, v => rfl
  | n + 1, v => by
    have e : v % 2 ^ (n + 1) / 2 = (v / 2) % 2 ^ n := by
      rw [Nat.pow_succ, Nat.mul_comm, Nat.mod_mul_right_div_self]
    have e2 : v % 2 ^ (n + 1) % 2 = v % 2 := Nat.mod_mod_of_dvd _ ⟨2 ^ n, by rw [Nat.pow_succ, Nat.mul_comm]⟩
    show B n (v % 2 ^ (n + 1) / 2) ++ [decide (v % 2 ^ (n + 1) % 2 = 1)] = B n (v / 2) ++ _
    rw [e, e2, B_mod n]
theorem B_inj : ∀ (n : Nat) {v u : Nat}, B n v = B n u → v % 2 ^ n = u % 2 ^ n
  | 0, _, _, _ => by simp [Nat.mod_one]
  | n + 1, v, u, h => by
    have h' : B n (v / 2) ++ [decide (v % 2 = 1)] = B n (u / 2) ++ [decide (u % 2 = 1)] := h
    obtain ⟨h1, h2⟩ := List.append_inj h' (by rw [B_length, B_length])
    have ih := B_inj n h1
    have h3 : decide (v % 2 = 1) = decide (u % 2 = 1) := by simpa using h2
    have h4 : v % 2 = u % 2 := by
      rcases Nat.mod_two_eq_zero_or_one v with a | a <;> rcases Nat.mod_two_eq_zero_or_one u with b | b <;> simp [a, b] at h3 ⊢
    have e : ∀ x : Nat, x % 2 ^ (n + 1) = 2 * (x / 2 % 2 ^ n) + x % 2 := fun x => by
      rw [Nat.pow_succ, Nat.mul_comm, Nat.mod_mul]; omega
    rw [e, e, ih, h4]
theorem B_zero : ∀ n, B n 0 = List.replicate n false
  | 0 => rfl
  | n + 1 => by
    show B n (0 / 2) ++ [decide (0 % 2 = 1)] = _
    rw [Nat.zero_div, B_zero n, List.replicate_succ']
    rfl

/-- 'size' bits of 'g' are still to be written. -/
def enc : Nat → Nat → List UInt8 → List UInt8
  | g, size, [] => if 0 < size then [b32Digits.getD (g * 2 ^ (5 - size) % 32) 0] else []
  | g, size, c :: l =>
    if 2 ≤ size then b32Digits.getD ((g * 256 + c.toNat) / 2 ^ (size + 3) % 32) 0 :: b32Digits.getD ((g * 256 + c.toNat) / 2 ^ (size - 2) % 32) 0 :: enc ((g * 256 + c.toNat) % 2 ^ (size - 2)) (size - 2) l
    else b32Digits.getD ((g * 256 + c.toNat) / 2 ^ (size + 3) % 32) 0 :: enc ((g * 256 + c.toNat) % 2 ^ (size + 3)) (size + 3) l
/-- 'size' bits of 'g' belong to no byte yet. -/
def dec : Nat → Nat → List UInt8 → Option (List UInt8)
  | g, size, [] => if 5 ≤ size ∨ g % 2 ^ size ≠ 0 then none else some []
  | g, size, c :: l =>
    match b32V c with
    | none => none
    | some d => if 3 ≤ size then (dec ((g * 32 + d) % 2 ^ (size - 3)) (size - 3) l).map (UInt8.ofNat ((g * 32 + d) / 2 ^ (size - 3)) :: ·) else dec (g * 32 + d) (size + 5) l
def b32 (l : List UInt8) : List UInt8 := enc 0 0 l
def unb32 (l : List UInt8) : Option (List UInt8) := dec 0 0 l
def val (c : UInt8) : Nat := (b32V c).getD 0
def D5 (h : List UInt8) : List Bool := h.flatMap fun c => B 5 (val c)
def D8 (s : List UInt8) : List Bool := s.flatMap fun c => B 8 c.toNat
def Valid (h : List UInt8) : Prop := ∀ c ∈ h, ∃ n, b32V c = some n
theorem D5_cons (c : UInt8) (h : List UInt8) : D5 (c :: h) = B 5 (val c) ++ D5 h := rfl
theorem D8_cons (c : UInt8) (h : List UInt8) : D8 (c :: h) = B 8 c.toNat ++ D8 h := rfl
theorem D5_len : ∀ h, (D5 h).length = 5 * h.length
  | [] => rfl
  | c :: h => by rw [D5_cons, List.length_append, B_length, D5_len h, List.length_cons]; omega
theorem D8_len : ∀ h, (D8 h).length = 8 * h.length
  | [] => rfl
  | c :: h => by rw [D8_cons, List.length_append, B_length, D8_len h, List.length_cons]; omega
theorem val_digit (n : Nat) (h : n < 32) : val (b32Digits.getD n 0) = n := by unfold val; rw [b32V_digit n h]; rfl
theorem B5_digit (v : Nat) : B 5 (val (b32Digits.getD (v % 32) 0)) = B 5 v := by
  rw [val_digit _ (Nat.mod_lt _ (by omega))]
  exact B_mod 5 v
theorem valid_digit (v : Nat) : ∃ n, b32V (b32Digits.getD (v % 32) 0) = some n := ⟨_, b32V_digit _ (Nat.mod_lt _ (by omega))⟩
theorem valid_cons {c : UInt8} {h : List UInt8} (hc : ∃ n, b32V c = some n) (hh : Valid h) : Valid (c :: h) := fun x hx => by
  rcases List.mem_cons.1 hx with rfl | hx
  · exact hc
  · exact hh x hx
theorem enc_bits : ∀ (l : List UInt8) (g size : Nat), size < 5 → Valid (enc g size l) ∧ ∃ k, k < 5 ∧ D5 (enc g size l) = B size g ++ (D8 l ++ List.replicate k false)
  | [], g, size, hs => by
    unfold enc
    by_cases h : 0 < size
    · rw [if_pos h]
      refine ⟨valid_cons (valid_digit _) (fun _ h => by cases h), 5 - size, by omega, ?_⟩
      rw [D5_cons, B5_digit]
      have e : B (size + (5 - size)) (g * 2 ^ (5 - size)) = _ := B_add (5 - size) size (g * 2 ^ (5 - size))
      rw [show size + (5 - size) = 5 from by omega, Nat.mul_div_cancel _ (Nat.two_pow_pos _), ← B_mod (5 - size), Nat.mul_mod_left, B_zero] at e
      rw [e]
      simp [D5, D8]
    · rw [if_neg h]
      have : size = 0 := by omega
      subst this
      exact ⟨(fun _ h => by cases h), 0, by omega, rfl⟩
  | c :: l, g, size, hs => by
    have hc := UInt8.toNat_lt c
    have e8 : B (size + 8) (g * 256 + c.toNat) = B size g ++ B 8 c.toNat := by
      rw [B_add 8 size]
      congr 1
      · congr 1; omega
      · rw [← B_mod 8 (g * 256 + c.toNat)]
        congr 1; omega
    unfold enc
    by_cases h : 2 ≤ size
    · rw [if_pos h]
      obtain ⟨v, k, hk, ih⟩ := enc_bits l ((g * 256 + c.toNat) % 2 ^ (size - 2)) (size - 2) (by omega)
      refine ⟨valid_cons (valid_digit _) (valid_cons (valid_digit _) v), k, hk, ?_⟩
      rw [D5_cons, D5_cons, B5_digit, B5_digit, ih, B_mod, D8_cons]
      have a1 := B_add (size + 3) 5 (g * 256 + c.toNat)
      have a2 := B_add (size - 2) 5 (g * 256 + c.toNat)
      rw [show 5 + (size + 3) = size + 8 from by omega, e8] at a1
      rw [show 5 + (size - 2) = size + 3 from by omega] at a2
      rw [a2] at a1
      rw [← List.append_assoc (B size g), ← List.append_assoc (B size g), a1]
      simp only [List.append_assoc]
    · rw [if_neg h]
      obtain ⟨v, k, hk, ih⟩ := enc_bits l ((g * 256 + c.toNat) % 2 ^ (size + 3)) (size + 3) (by omega)
      refine ⟨valid_cons (valid_digit _) v, k, hk, ?_⟩
      rw [D5_cons, B5_digit, ih, B_mod, D8_cons]
      have a1 := B_add (size + 3) 5 (g * 256 + c.toNat)
      rw [show 5 + (size + 3) = size + 8 from by omega, e8] at a1
      rw [← List.append_assoc (B size g), ← List.append_assoc (B size g), a1]
      simp only [List.append_assoc]
theorem dec_bits : ∀ (h : List UInt8) (g size : Nat) (s : List UInt8), size < 8 → g < 2 ^ size → dec g size h = some s →
    Valid h ∧ ∃ k, k < 5 ∧ B size g ++ D5 h = D8 s ++ List.replicate k false
  | [], g, size, s, hs, hg, e => by
    unfold dec at e
    by_cases h : 5 ≤ size ∨ g % 2 ^ size ≠ 0
    · rw [if_pos h] at e; cases e
    · rw [if_neg h] at e
      injection e with e
      subst e
      refine ⟨(fun _ h => by cases h), size, by omega, ?_⟩
      have : g % 2 ^ size = 0 := by omega
      rw [← B_mod, this, B_zero]
      simp [D5, D8]
  | c :: h, g, size, s, hs, hg, e => by
    unfold dec at e
    cases hd : b32V c with
    | none => rw [hd] at e; cases e
    | some d =>
      rw [hd] at e
      simp only at e
      have hd32 := (b32V_some hd).1
      have hv : val c = d := by unfold val; rw [hd]; rfl
      have hp := Nat.two_pow_pos size
      have e5 : B (size + 5) (g * 32 + d) = B size g ++ B 5 d := by
        rw [B_add 5 size]
        congr 1
        · congr 1; omega
        · rw [← B_mod 5 (g * 32 + d)]
          congr 1; omega
      by_cases h3 : 3 ≤ size
      · rw [if_pos h3] at e
        obtain ⟨t, ht, rfl⟩ := Option.map_eq_some_iff.1 e
        obtain ⟨v, k, hk, ih⟩ := dec_bits h _ (size - 3) t (by omega) (Nat.mod_lt _ (Nat.two_pow_pos _)) ht
        refine ⟨valid_cons ⟨d, hd⟩ v, k, hk, ?_⟩
        have hlt : (g * 32 + d) / 2 ^ (size - 3) < 256 := by
          rw [Nat.div_lt_iff_lt_mul (Nat.two_pow_pos _)]
          have : 2 ^ size = 2 ^ (size - 3) * 8 := by rw [show (8 : Nat) = 2 ^ 3 from rfl, ← Nat.pow_add]; congr 1; omega
          omega
        have a := B_add (size - 3) 8 (g * 32 + d)
        rw [show 8 + (size - 3) = size + 5 from by omega, e5] at a
        rw [D5_cons, hv, ← List.append_assoc, a, D8_cons, UInt8.toNat_ofNat', Nat.mod_eq_of_lt hlt, ← B_mod (size - 3), List.append_assoc, ih]
        simp only [List.append_assoc]
      · rw [if_neg h3] at e
        obtain ⟨v, k, hk, ih⟩ := dec_bits h (g * 32 + d) (size + 5) s (by omega) (by rw [Nat.pow_add]; omega) e
        refine ⟨valid_cons ⟨d, hd⟩ v, k, hk, ?_⟩
        rw [D5_cons, hv, ← List.append_assoc, ← e5, ih]
theorem dec_some : ∀ (h : List UInt8) (g size : Nat) (s : List UInt8) (k : Nat), size < 8 → g < 2 ^ size → Valid h → k < 5 → B size g ++ D5 h = D8 s ++ List.replicate k false → dec g size h = some s
  | [], g, size, s, k, hs, hg, hv, hk, e => by
    have hl := congrArg List.length e
    simp only [List.length_append, B_length, D5_len, D8_len, List.length_replicate, List.length_nil] at hl
    have hs0 : s = [] := List.eq_nil_of_length_eq_zero (by omega)
    subst hs0
    have hsk : k = size := by simp at hl; omega
    subst hsk
    have e' : B k g = B k 0 := by rw [B_zero]; simpa [D5, D8] using e
    have := B_inj k e'
    unfold dec
    rw [if_neg (by simp at this; omega)]
  | c :: h, g, size, s, k, hs, hg, hv, hk, e => by
    obtain ⟨d, hd⟩ := hv c List.mem_cons_self
    have hv' : Valid h := fun x hx => hv x (List.mem_cons_of_mem _ hx)
    have hd32 := (b32V_some hd).1
    have hvc : val c = d := by unfold val; rw [hd]; rfl
    have e5 : B (size + 5) (g * 32 + d) = B size g ++ B 5 d := by
      rw [B_add 5 size]
      congr 1
      · congr 1; omega
      · rw [← B_mod 5 (g * 32 + d)]
        congr 1; omega
    rw [D5_cons, hvc, ← List.append_assoc, ← e5] at e
    unfold dec
    rw [hd]
    simp only
    by_cases h3 : 3 ≤ size
    · rw [if_pos h3]
      have hlt : (g * 32 + d) / 2 ^ (size - 3) < 256 := by
        rw [Nat.div_lt_iff_lt_mul (Nat.two_pow_pos _)]
        have : 2 ^ size = 2 ^ (size - 3) * 8 := by rw [show (8 : Nat) = 2 ^ 3 from rfl, ← Nat.pow_add]; congr 1; omega
        omega
      have a := B_add (size - 3) 8 (g * 32 + d)
      rw [show 8 + (size - 3) = size + 5 from by omega] at a
      rw [a] at e
      cases s with
      | nil =>
        have hl := congrArg List.length e
        simp only [List.length_append, B_length, D5_len, D8_len, List.length_replicate, List.length_nil] at hl
        omega
      | cons c' s =>
        rw [D8_cons, List.append_assoc, List.append_assoc] at e
        obtain ⟨e1, e2⟩ := List.append_inj e (by rw [B_length, B_length])
        have hc' := UInt8.toNat_lt c'
        have h2 : (g * 32 + d) / 2 ^ (size - 3) % 256 = c'.toNat % 256 := B_inj 8 e1
        rw [Nat.mod_eq_of_lt hlt, Nat.mod_eq_of_lt hc'] at h2
        rw [dec_some h _ (size - 3) s k (by omega) (Nat.mod_lt _ (Nat.two_pow_pos _)) hv' hk (by rw [B_mod]; exact e2), h2]
        simp
    · rw [if_neg h3]
      exact dec_some h (g * 32 + d) (size + 5) s k (by omega) (by rw [Nat.pow_add]; omega) hv' hk e
theorem D5_inj : ∀ (a b : List UInt8), Valid a → Valid b → D5 a = D5 b → a = b
  | [], [], _, _, _ => rfl
  | [], c :: b, _, _, e => by have := congrArg List.length e; rw [D5_len, D5_len] at this; simp at this
  | c :: a, [], _, _, e => by have := congrArg List.length e; rw [D5_len, D5_len] at this; simp at this
  | c :: a, c' :: b, ha, hb, e => by
    rw [D5_cons, D5_cons] at e
    obtain ⟨e1, e2⟩ := List.append_inj e (by rw [B_length, B_length])
    obtain ⟨n, hn⟩ := ha c List.mem_cons_self
    obtain ⟨m, hm⟩ := hb c' List.mem_cons_self
    have h1 := B_inj 5 e1
    obtain ⟨n1, n2⟩ := b32V_some hn
    obtain ⟨m1, m2⟩ := b32V_some hm
    have v1 : val c = n := by unfold val; rw [hn]; rfl
    have v2 : val c' = m := by unfold val; rw [hm]; rfl
    rw [v1, v2] at h1
    have : n = m := by omega
    subst this
    rw [n2] at m2
    rw [m2, D5_inj a b (fun x hx => ha x (List.mem_cons_of_mem _ hx)) (fun x hx => hb x (List.mem_cons_of_mem _ hx)) e2]
theorem unb32_b32 (l : List UInt8) : unb32 (b32 l) = some l := by
  obtain ⟨v, k, hk, e⟩ := enc_bits l 0 0 (by omega)
  exact dec_some _ 0 0 l k (by omega) (by omega) v hk (by simpa [B, b32] using e)
theorem b32_unb32 (h l : List UInt8) (e : unb32 h = some l) : b32 l = h := by
  obtain ⟨v, k, hk, a⟩ := dec_bits h 0 0 l (by omega) (by omega) e
  obtain ⟨v', k', hk', a'⟩ := enc_bits l 0 0 (by omega)
  have a : D5 h = D8 l ++ List.replicate k false := by simpa [B] using a
  have a' : D5 (b32 l) = D8 l ++ List.replicate k' false := by simpa [B, b32] using a'
  have h1 := congrArg List.length a
  have h2 := congrArg List.length a'
  simp only [List.length_append, D5_len, D8_len, List.length_replicate] at h1 h2
  have : k = k' := by omega
  subst this
  exact D5_inj _ _ v' v (a'.trans a.symm)
theorem b32_length (l : List UInt8) : (b32 l).length = (8 * l.length + 4) / 5 := by
  obtain ⟨_, k', hk', a'⟩ := enc_bits l 0 0 (by omega)
  have a' : D5 (b32 l) = D8 l ++ List.replicate k' false := by simpa [B, b32] using a'
  have h2 := congrArg List.length a'
  simp only [List.length_append, D5_len, D8_len, List.length_replicate] at h2
  omega
end Dg
end Go.Proofs.YteiabaddmclmlaaDoor
