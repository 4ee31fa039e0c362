/-
  What Encode writes means what went in, plainly.
-/
import Derived.Test.YtdkocjdhekomoaaGreatDoorHEo
import Derived.Test.YtdkocjdhekomoaaGreatDoorHKe
import Derived.Test.YtdkocjdhekomoaaGreatDoorTrims
namespace Go.Proofs.YtdkocjdhekomoaaGreatDoor
namespace Ch
open Go.Lib
theorem dig_ok {c : UInt8} (h : Cd.isDig64 c = true ∨ c = 61) : (decide (33 ≤ c) && decide (c ≤ 126)) = true ∧ c ≠ 63 ∧ Tx.isW c = false := by
  have H : ∀ k : Fin 256, (Cd.isDig64 (UInt8.ofNat k.val) = true ∨ UInt8.ofNat k.val = 61) → (decide (33 ≤ UInt8.ofNat k.val) && decide (UInt8.ofNat k.val ≤ 126)) = true ∧ UInt8.ofNat k.val ≠ 63 ∧ Tx.isW (UInt8.ofNat k.val) = false := by decide +kernel
  have := H ⟨c.toNat, UInt8.toNat_lt c⟩
  simp only [UInt8.ofNat_toNat] at this
  exact this h
theorem line_chars (p : List UInt8) : ∀ c ∈ Cd.b64line p, Cd.isDig64 c = true ∨ c = 61 := by
  obtain ⟨D, h1, h2, _⟩ := Cd.line_digits _ p (Nat.le_refl _)
  intro c hc
  rw [h1] at hc
  rcases List.mem_append.1 hc with h | h
  · exact .inl (h2 c h)
  · exact .inr (List.eq_of_mem_replicate h)
theorem line_bare (p : List UInt8) : Cd.bare (Cd.b64line p) = Cd.b64line p := by
  unfold Cd.bare
  rw [List.filter_eq_self]
  intro c hc
  rw [(dig_ok (line_chars p c hc)).2.2]; rfl
theorem base_one {p : List UInt8} (h : p ≠ []) (hl : p.length ≤ 57) : (Cd.base64 p).dropLast = Cd.b64line p := by
  rw [Cd.base_step p h, List.take_of_length_le hl, List.drop_eq_nil_of_le hl, Cd.base_nil, List.append_nil, List.dropLast_concat]
theorem coded_is {p : List UInt8} (h : p ≠ []) (hl : p.length ≤ 57) : codedWord p = 61 :: 63 :: (nU ++ 63 :: ([66] ++ 63 :: (Cd.b64line p ++ [63, 61]))) := by
  unfold codedWord
  rw [base_one h hl]
  simp [start, nU]
theorem coded_sound {p : List UInt8} (h : p ≠ []) (hl : p.length ≤ 57) (hv : validD p = true) (rest : List UInt8) : sound (codedWord p ++ rest) = some (p, rest) := by
  rw [coded_is h hl]
  have hc := line_chars p
  have f1 := front_name (t := [66] ++ 63 :: (Cd.b64line p ++ 63 :: (61 :: rest))) nU (by decide)
  have f2 := front_name (t := Cd.b64line p ++ 63 :: (61 :: rest)) [66] (by decide)
  have f3 := front_name (t := 61 :: rest) (Cd.b64line p) (fun c h => (dig_ok (hc c h)).2.1)
  have e : (61 :: 63 :: (nU ++ 63 :: ([66] ++ 63 :: (Cd.b64line p ++ [63, 61])))) ++ rest = 61 :: 63 :: (nU ++ 63 :: ([66] ++ 63 :: (Cd.b64line p ++ 63 :: (61 :: rest)))) := by simp
  rw [e]
  show meant (front _) (front (back _)) (front (back (back _))) (back (back (back _))) = _
  rw [f1.1, f1.2, f2.1, f2.2, f3.1, f3.2]
  unfold meant
  simp only []
  have i1 : isContent (Cd.b64line p) = true := by
    unfold isContent
    rw [List.all_eq_true]
    intro c h
    exact (dig_ok (hc c h)).1
  have d1 : decode [66] (Cd.b64line p) = some p := by
    unfold decode
    rw [if_pos (.inl rfl), Cd.unb_base p _ (line_bare p)]
    rfl
  have k1 : known (Tx.lowL nU) = true := by decide
  have t1 : textIn (Tx.lowL nU) p = p := by
    rw [show Tx.lowL nU = nU by decide]
    unfold textIn
    rw [if_pos rfl, repair_same p hv]
  rw [if_pos i1, d1]
  simp only []
  rw [if_pos k1, t1]
theorem coded_len72 {p : List UInt8} (h : p ≠ []) (hl : p.length ≤ 45) : (codedWord p).length ≤ 75 ∧ p.length < (codedWord p).length := by
  rw [coded_is h (by omega)]
  have h1 := Cd.b64line_len p
  have h2 : Cd.cnt 3 p.length = (p.length + 2) / 3 := rfl
  simp only [List.length_cons, List.length_append, List.length_nil, nU]
  omega
theorem coded_chars {p : List UInt8} (h : p ≠ []) (hl : p.length ≤ 57) : ∀ c ∈ codedWord p, (decide (32 ≤ c) && decide (c ≤ 126)) = true ∧ Tx.isW c = false := by
  rw [coded_is h hl]
  have H : ∀ c : UInt8, (decide (33 ≤ c) && decide (c ≤ 126)) = true → (decide (32 ≤ c) && decide (c ≤ 126)) = true := by
    have H2 : ∀ k : Fin 256, (decide (33 ≤ UInt8.ofNat k.val) && decide (UInt8.ofNat k.val ≤ 126)) = true → (decide (32 ≤ UInt8.ofNat k.val) && decide (UInt8.ofNat k.val ≤ 126)) = true := by decide +kernel
    intro c hc
    have := H2 ⟨c.toNat, UInt8.toNat_lt c⟩
    simp only [UInt8.ofNat_toNat] at this
    exact this hc
  intro c hc
  have hs : ∀ x ∈ ([61, 63] ++ nU ++ [63] ++ [66] ++ [63] ++ [63, 61] : List UInt8), (decide (32 ≤ x) && decide (x ≤ 126)) = true ∧ Tx.isW x = false := by decide
  have e : (61 :: 63 :: (nU ++ 63 :: ([66] ++ 63 :: (Cd.b64line p ++ [63, 61])))) = ([61, 63] ++ nU ++ [63] ++ [66] ++ [63]) ++ (Cd.b64line p ++ [63, 61]) := by simp
  rw [e] at hc
  rcases List.mem_append.1 hc with h | h
  · exact hs c (List.mem_append_left _ h)
  · rcases List.mem_append.1 h with h | h
    · have := dig_ok (line_chars p c h)
      exact ⟨H c this.1, this.2.2⟩
    · exact hs c (List.mem_append_right _ h)

/-! ### the words in a row -/
def GoodPart (p : List UInt8) : Prop := p ≠ [] ∧ p.length ≤ 45 ∧ validD p = true
theorem words_coded {p : List UInt8} (h : GoodPart p) (rest : List UInt8) (b : Bool) : wordsG [] b (codedWord p ++ rest) = p ++ wordsG [] true rest := by
  rw [wordsG_yes (coded_sound h.1 (by have := h.2.1; omega) h.2.2 rest)]
  cases b <;> rfl
theorem words_sp {p : List UInt8} (h : GoodPart p) (rest : List UInt8) : wordsG [] true (32 :: (codedWord p ++ rest)) = p ++ wordsG [] true rest := by
  rw [wordsG_no (sound_61 (by decide)), wordsG_yes (coded_sound h.1 (by have := h.2.1; omega) h.2.2 rest)]
  rfl
theorem words_tail : ∀ X : List (List UInt8), (∀ p ∈ X, GoodPart p) → wordsG [] true ((X.map fun p => 32 :: codedWord p).flatten) = X.flatten
  | [], _ => rfl
  | p :: r, h => by
    simp only [List.map_cons, List.flatten_cons, List.cons_append]
    rw [words_sp (h p (by simp)), words_tail r fun q hq => h q (by simp [hq])]
theorem words_row (X : List (List UInt8)) (h : ∀ p ∈ X, GoodPart p) : words (Tx.joinSp (X.map codedWord)) = X.flatten := by
  cases X with
  | nil => rfl
  | cons p r =>
    show wordsG [] false (codedWord p ++ ((r.map codedWord).map fun x => 32 :: x).flatten) = _
    rw [words_coded (h p (by simp)), List.map_map]
    have := words_tail r fun q hq => h q (by simp [hq])
    simp only [List.flatten_cons]
    rw [← this]; rfl

/-! ### the parts -/
theorem valid_append (a : List UInt8) : ∀ b, validD a = true → validD (a ++ b) = validD b := by
  refine by_chars (P := fun a => ∀ b, validD a = true → validD (a ++ b) = validD b) (fun _ _ => rfl) (fun l hne ih b h => ?_) a
  rw [validD_step l hne] at h
  by_cases hb : (decodeL l).1 = 65533 ∧ (decodeL l).2 = 1
  · rw [if_pos hb] at h; cases h
  · rw [if_neg hb] at h
    have e := encode_decode l hne hb
    have : l ++ b = encodeRune ((decodeL l).1 : Int) ++ (l.drop (decodeL l).2 ++ b) := by rw [e, ← List.append_assoc, List.take_append_drop]
    rw [this, valid_enc (rune_ok l), ih b h]
theorem valid_char {l : List UInt8} (hne : l ≠ []) (hv : validD l = true) : encodeRune ((decodeL l).1 : Int) = l.take (decodeL l).2 ∧ validD (l.drop (decodeL l).2) = true ∧ validD (l.take (decodeL l).2) = true ∧
    (l.take (decodeL l).2).length = (encodeRune ((decodeL l).1 : Int)).length ∧ l.take (decodeL l).2 ≠ [] := by
  rw [validD_step l hne] at hv
  by_cases hb : (decodeL l).1 = 65533 ∧ (decodeL l).2 = 1
  · rw [if_pos hb] at hv; cases hv
  · rw [if_neg hb] at hv
    have e := encode_decode l hne hb
    refine ⟨e, hv, ?_, by rw [e], ?_⟩
    · rw [← e]
      have := valid_enc (rune_ok l) []
      rw [List.append_nil] at this
      rw [this]; rfl
    · rw [← e]
      have := enc_ne ((decodeL l).1 : Int) []
      rwa [List.append_nil] at this
theorem parts_good (rest : List UInt8) : ∀ cur, validD rest = true → validD cur = true → cur.length ≤ 45 → (cur ≠ [] ∨ rest ≠ []) → (partsG cur rest).flatten = cur ++ rest ∧ ∀ p ∈ partsG cur rest, GoodPart p := by
  refine by_chars (P := fun rest => ∀ cur, validD rest = true → validD cur = true → cur.length ≤ 45 → (cur ≠ [] ∨ rest ≠ []) → (partsG cur rest).flatten = cur ++ rest ∧ ∀ p ∈ partsG cur rest, GoodPart p) ?_ (fun l hne ih cur hv hc hl h0 => ?_) rest
  · intro cur _ hc hl h0
    rw [partsG_nil]
    have hne : cur ≠ [] := h0.elim id fun h => absurd rfl h
    exact ⟨by simp, fun p hp => by obtain rfl := List.mem_singleton.1 hp; exact ⟨hne, hl, hc⟩⟩
  · obtain ⟨e, hv2, hv3, hle, hne2⟩ := valid_char hne hv
    have h4 := rune_le4 ((decodeL l).1 : Int)
    rw [partsG_step cur l hne]
    split
    · rename_i hgt
      have hcn : cur ≠ [] := by rintro rfl; simp at hgt; omega
      obtain ⟨i1, i2⟩ := ih (l.take (decodeL l).2) hv2 hv3 (by rw [hle]; omega) (.inl hne2)
      refine ⟨by rw [List.flatten_cons, i1, List.take_append_drop], fun p hp => ?_⟩
      rcases List.mem_cons.1 hp with rfl | hp
      · exact ⟨hcn, hl, hc⟩
      · exact i2 p hp
    · rename_i hgt
      obtain ⟨i1, i2⟩ := ih (cur ++ l.take (decodeL l).2) hv2 (by rw [valid_append cur _ hc]; exact hv3) (by rw [List.length_append, hle]; omega) (.inl (by simp [hne2]))
      exact ⟨by rw [i1, List.append_assoc, List.take_append_drop], i2⟩
theorem parts_all {l : List UInt8} (hne : l ≠ []) (hv : validD l = true) : (parts l).flatten = l ∧ ∀ p ∈ parts l, GoodPart p := by
  have := parts_good l [] hv rfl (by simp) (.inr hne)
  rw [List.nil_append] at this
  exact this

/-! ### what Encode gives -/
theorem ascii_valid : ∀ l : List UInt8, (∀ c ∈ l, c.toNat < 128) → validD l = true
  | [], _ => rfl
  | c :: r, h => by rw [validD_cons c r (h c (by simp))]; exact ascii_valid r fun x hx => h x (by simp [hx])
theorem plain_ascii {l : List UInt8} (h : plain l = true) : (∀ c ∈ l, (decide (32 ≤ c) && decide (c ≤ 126)) = true) ∧ hasStart l = false := by
  unfold plain at h
  rw [Bool.and_eq_true, Bool.not_eq_true'] at h
  exact ⟨List.all_eq_true.1 h.1, h.2⟩
theorem lt_128 {c : UInt8} (h : (decide (32 ≤ c) && decide (c ≤ 126)) = true) : c.toNat < 128 := by
  rw [Bool.and_eq_true, decide_eq_true_eq, decide_eq_true_eq] at h
  have := UInt8.le_iff_toNat_le.1 h.2
  simp at this; omega
theorem repair_ne {l : List UInt8} (h : l ≠ []) : repair l ≠ [] := by
  rw [repair_step l h]; exact enc_ne _ _
/-- Either it stays, or it consists of words. -/
theorem encode_cases (l : List UInt8) : (plain l = true ∧ encode l = l ∧ repair l = l) ∨
    (plain l = false ∧ encode l = Tx.joinSp ((parts (repair l)).map codedWord) ∧ (parts (repair l)).flatten = repair l ∧ ∀ p ∈ parts (repair l), GoodPart p) := by
  cases h : plain l with
  | true =>
    left
    refine ⟨rfl, by unfold encode; rw [if_pos h], repair_same l (ascii_valid l fun c hc => lt_128 ((plain_ascii h).1 c hc))⟩
  | false =>
    right
    have hne : l ≠ [] := by rintro rfl; cases h
    obtain ⟨h1, h2⟩ := parts_all (repair_ne hne) (repair_valid l)
    exact ⟨rfl, by unfold encode; rw [if_neg (by rw [h]; decide)], h1, h2⟩
theorem words_encode (l : List UInt8) : words (encode l) = repair l := by
  rcases encode_cases l with ⟨h1, h2, h3⟩ | ⟨_, h2, h3, h4⟩
  · rw [h2, h3]; exact (deaf_start l (plain_ascii h1).2).same
  · rw [h2, words_row _ h4, h3]
theorem join_chars {P : UInt8 → Prop} (h32 : P 32) : ∀ X : List (List UInt8), (∀ x ∈ X, ∀ c ∈ x, P c) → ∀ c ∈ Tx.joinSp X, P c
  | [], _, c, hc => by cases hc
  | x :: r, h, c, hc => by
    have hc2 : c ∈ x ++ (r.map fun x => 32 :: x).flatten := hc
    rcases List.mem_append.1 hc2 with hx | hx
    · exact h x (by simp) c hx
    · obtain ⟨y, hy, hcy⟩ := List.mem_flatten.1 hx
      obtain ⟨z, hz, rfl⟩ := List.mem_map.1 hy
      rcases List.mem_cons.1 hcy with rfl | hcz
      · exact h32
      · exact h z (by simp [hz]) c hcz
theorem encode_chars (l : List UInt8) : ∀ c ∈ encode l, (decide (32 ≤ c) && decide (c ≤ 126)) = true := by
  rcases encode_cases l with ⟨h1, h2, _⟩ | ⟨_, h2, _, h4⟩
  · rw [h2]; exact (plain_ascii h1).1
  · rw [h2]
    refine join_chars (P := fun c => (decide (32 ≤ c) && decide (c ≤ 126)) = true) (by decide) _ fun x hx c hc => ?_
    obtain ⟨p, hp, rfl⟩ := List.mem_map.1 hx
    exact (coded_chars (h4 p hp).1 (by have := (h4 p hp).2.1; omega) c hc).1
theorem encode_fields {X : List (List UInt8)} (h : ∀ p ∈ X, GoodPart p) : Tx.words (Tx.joinSp (X.map codedWord)) = X.map codedWord := by
  refine Tx.words_join _ fun y hy => ?_
  obtain ⟨p, hp, rfl⟩ := List.mem_map.1 hy
  refine ⟨?_, fun c hc => (coded_chars (h p hp).1 (by have := (h p hp).2.1; omega) c hc).2⟩
  rw [coded_is (h p hp).1 (by have := (h p hp).2.1; omega)]; simp
theorem words_one {p : List UInt8} (h : GoodPart p) : words (codedWord p) = p := by
  have := words_coded h [] false
  rw [List.append_nil, wordsG_nil, List.append_nil] at this
  exact this
end Ch
end Go.Proofs.YtdkocjdhekomoaaGreatDoor
