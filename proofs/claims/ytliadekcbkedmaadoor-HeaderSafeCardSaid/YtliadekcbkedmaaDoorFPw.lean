/-
  What Write makes, read by Parse, plainly.
-/
import Derived.Test.YtliadekcbkedmaaDoorFRp
namespace Go.Proofs.YtliadekcbkedmaaDoor
open Go
namespace Hd
theorem after_lt {l : List UInt8} (h : l ≠ []) : (after l).length < l.length := by
  unfold after
  have hp := List.length_pos_iff.2 h
  rcases cut_or 10 l with ⟨a, b, rfl, _, e⟩ | ⟨_, e⟩ <;> rw [e] <;> simp
  · omega
  · omega
theorem parse_fuel : ∀ (n m : Nat) (fs : List Fd) (l : List UInt8), l.length ≤ n → l.length ≤ m → parseF n fs l = parseF m fs l := by
  intro n
  induction n with
  | zero =>
    intro m fs l h1 h2
    have : l = [] := List.eq_nil_of_length_eq_zero (by omega)
    subst this
    cases m <;> simp [parseF]
  | succ n ih =>
    intro m fs l h1 h2
    by_cases hne : l = []
    · subst hne; cases m <;> simp [parseF]
    · have hl := after_lt hne
      obtain ⟨m, rfl⟩ : ∃ k, m = k + 1 := ⟨m - 1, by have := List.length_pos_iff.2 hne; omega⟩
      unfold parseF
      rw [if_neg hne, if_neg hne]
      split
      · rfl
      · split
        · exact ih m _ (after l) (by omega) (by omega)
        · rfl
def parseG (fs : List Fd) (l : List UInt8) : List Fd × List UInt8 := parseF l.length fs l
theorem parse_G (raw : List UInt8) : parse raw = parseG [] raw := rfl
theorem parseG_nil (fs : List Fd) : parseG fs [] = (fs, []) := rfl
theorem parseG_step (fs : List Fd) {l : List UInt8} (h : l ≠ []) : parseG fs l = if content l = [] then (fs, after l) else
    match step fs (content l) with
    | some fs' => parseG fs' (after l)
    | none => (fs, l) := by
  obtain ⟨n, hn⟩ : ∃ n, l.length = n + 1 := ⟨l.length - 1, by have := List.length_pos_iff.2 h; omega⟩
  have ha := after_lt h
  unfold parseG
  rw [hn]
  conv => lhs; unfold parseF
  rw [if_neg h]
  split
  · rfl
  · cases step fs (content l) with
    | some fs' => exact parse_fuel n _ fs' (after l) (by omega) (Nat.le_refl _)
    | none => rfl
/-! ### names -/
theorem visB_of {w : List UInt8} {c : UInt8} (h : visB w c = true) : 33 ≤ c.toNat ∧ c.toNat ≤ 126 ∧ c ∉ w := by
  unfold visB at h
  simp only [Bool.and_eq_true, decide_eq_true_eq, Bool.not_eq_true', List.contains_eq_mem] at h
  exact ⟨h.1.1, h.1.2, by simpa using h.2⟩
theorem vis_of {w s : List UInt8} (h : vis w s = true) : s ≠ [] ∧ ∀ c ∈ s, 33 ≤ c.toNat ∧ c.toNat ≤ 126 ∧ c ∉ w := by
  unfold vis at h
  simp only [Bool.and_eq_true, List.all_eq_true, Bool.not_eq_true'] at h
  refine ⟨?_, fun c hc => visB_of (h.1 c hc)⟩
  rintro rfl
  exact absurd h.2 (by decide)
theorem named_of {s : List UInt8} (h : named s = true) : s.length ≤ 200 ∧ s ≠ [] ∧ ∀ c ∈ s, 33 ≤ c.toNat ∧ c.toNat ≤ 126 ∧ c ≠ 58 := by
  unfold named at h
  simp only [Bool.and_eq_true, decide_eq_true_eq] at h
  obtain ⟨h1, h2⟩ := vis_of h.2
  exact ⟨h.1, h1, fun c hc => ⟨(h2 c hc).1, (h2 c hc).2.1, fun e => (h2 c hc).2.2 (by simp [e])⟩⟩
theorem field_line {n r : List UInt8} (h : named n = true) : field (n ++ 58 :: r) = some (n, r) := by
  obtain ⟨_, _, h2⟩ := named_of h
  unfold field
  rw [cut_at 58 n r fun hm => (h2 58 hm).2.2 rfl]
  simp only [h, if_true]
theorem field_some {c n r : List UInt8} (h : field c = some (n, r)) : c = n ++ 58 :: r ∧ named n = true := by
  unfold field at h
  rcases cut_or 58 c with ⟨a, b, rfl, _, e⟩ | ⟨_, e⟩ <;> rw [e] at h
  · simp only at h
    by_cases hn : named a = true
    · rw [if_pos hn] at h
      cases h
      exact ⟨rfl, hn⟩
    · rw [if_neg hn] at h; cases h
  · cases h
theorem field_blank {c : List UInt8} (h : blankHead c = true) : field c = none := by
  cases hf : field c with
  | none => rfl
  | some p =>
    obtain ⟨n, r⟩ := p
    obtain ⟨rfl, hn⟩ := field_some hf
    obtain ⟨_, h1, h2⟩ := named_of hn
    cases n with
    | nil => exact absurd rfl h1
    | cons a t =>
      have := h2 a (by simp)
      simp only [List.cons_append, blankHead, blank, Bool.or_eq_true, beq_iff_eq] at h
      rcases h with rfl | rfl
      · exact absurd this.1 (by decide)
      · exact absurd this.1 (by decide)
/-! ### lines without line ends -/
def Pure (x : List UInt8) : Prop := ∀ c ∈ x, c ≠ 10 ∧ c ≠ 13
theorem chop_pure {x : List UInt8} (h : Pure x) : Tx.chop x = x := by
  unfold Tx.chop Lib.trimSuffix
  rw [if_neg]
  intro hs
  have hs' : [13] <:+ x := by simpa [Lib.hasSuffix] using hs
  obtain ⟨t, ht⟩ := hs'
  exact (h 13 (by rw [← ht]; simp)).2 rfl
theorem content_line {x t : List UInt8} (h : Pure x) : content (x ++ 10 :: t) = x ∧ after (x ++ 10 :: t) = t := by
  unfold content after
  rw [cut_at 10 x t fun hm => (h 10 hm).1 rfl]
  exact ⟨chop_pure h, rfl⟩
theorem parse_field (fs : List Fd) {n r t : List UInt8} (hn : named n = true) (hx : Pure (n ++ 58 :: r)) (hl : fs.length < 400) : parseG fs ((n ++ 58 :: r) ++ 10 :: t) = parseG (fs ++ [(n, Tx.trim r)]) t := by
  rw [parseG_step fs (by simp), (content_line hx).1, (content_line hx).2, if_neg (by simp)]
  unfold step
  rw [field_line hn]
  simp only [hl, if_true]
theorem addLast_snoc (fs : List Fd) (f : Fd) (p : List UInt8) : addLast (fs ++ [f]) p = fs ++ [(f.1, addPart f.2 p)] := by
  unfold addLast
  simp
theorem parse_cont (fs : List Fd) (f : Fd) {x t : List UInt8} (hb : blankHead x = true) (hx : Pure x) : parseG (fs ++ [f]) (x ++ 10 :: t) = parseG (fs ++ [(f.1, addPart f.2 (Tx.trim x))]) t := by
  have hne : x ≠ [] := by rintro rfl; cases hb
  rw [parseG_step _ (by simp), (content_line hx).1, (content_line hx).2, if_neg hne]
  unfold step
  rw [field_blank hb]
  simp only [hb, true_and]
  rw [if_pos (by simp), addLast_snoc]
/-- The value that a field's further lines make. -/
def conts (v : List UInt8) (xs : List (List UInt8)) : List UInt8 := xs.foldl (fun v x => addPart v (Tx.trim x)) v
theorem parse_conts (fs : List Fd) (t : List UInt8) : ∀ (xs : List (List UInt8)) (f : Fd), (∀ x ∈ xs, blankHead x = true ∧ Pure x) → parseG (fs ++ [f]) (ended xs ++ t) = parseG (fs ++ [(f.1, conts f.2 xs)]) t
  | [], f, _ => rfl
  | x :: xs, f, h => by
    have hx := h x (by simp)
    have e : ended (x :: xs) ++ t = x ++ 10 :: (ended xs ++ t) := by simp [ended]
    rw [e, parse_cont fs f hx.1 hx.2, parse_conts fs t xs _ fun y hy => h y (by simp [hy])]
    rfl
/-! ### the lines of a field -/
theorem isFold_lt {s : List UInt8} {i : Nat} (h : isFold s i = true) : 1 ≤ i ∧ i + 1 < s.length ∧ s[i]? = some 32 ∧ blank (s.getD (i - 1) 0) = false ∧ blank (s.getD (i + 1) 0) = false := by
  unfold isFold at h
  simp only [Bool.and_eq_true, decide_eq_true_eq, Bool.not_eq_true', beq_iff_eq] at h
  obtain ⟨⟨⟨⟨h1, h2⟩, h3⟩, h4⟩, h5⟩ := h
  refine ⟨h1, h2, ?_, h4, h5⟩
  rw [List.getD_eq_getElem?_getD, List.getElem?_eq_getElem (by omega)] at h3
  rw [List.getElem?_eq_getElem (by omega)]
  simpa using h3
/-- What a place is. -/
def IsPlace (s : List UInt8) (least r : Nat) : Prop :=
  (r = 0 ∧ ∀ i, least ≤ i → i ≤ 998 → isFold s i = false) ∨
  (0 < r ∧ isFold s r = true ∧ least ≤ r ∧ r ≤ 998 ∧ ((r ≤ 78 ∧ ∀ i, r < i → i ≤ 78 → isFold s i = false) ∨ (78 < r ∧ ∀ i, least ≤ i → i < r → isFold s i = false)))
theorem isFold_end {s : List UInt8} {i : Nat} (h : s.length ≤ i + 1) : isFold s i = false := by
  unfold isFold
  rw [show decide (i + 1 < s.length) = false from by simp; omega]
  simp
theorem placeF_is (s : List UInt8) (least : Nat) : ∀ (n i f : Nat), 999 - i ≤ n → least ≤ i → 1 ≤ least →
    ((f = 0 ∧ ∀ j, least ≤ j → j < i → isFold s j = false) ∨ (0 < f ∧ isFold s f = true ∧ least ≤ f ∧ f < i ∧ f ≤ 998 ∧ ((f ≤ 78 ∧ ∀ j, f < j → j < i → j ≤ 78 → isFold s j = false) ∨ (78 < f ∧ ∀ j, least ≤ j → j < f → isFold s j = false)))) →
    IsPlace s least (placeF s n i f) := by
  intro n
  induction n with
  | zero =>
    intro i f hn hi hl h
    unfold placeF
    rcases h with ⟨rfl, h⟩ | ⟨h0, h1, h2, h3, h4, h5⟩
    · exact .inl ⟨rfl, fun j h1 h2 => h j h1 (by omega)⟩
    · refine .inr ⟨h0, h1, h2, h4, ?_⟩
      rcases h5 with ⟨a, b⟩ | h5
      · exact .inl ⟨a, fun j hj hj2 => b j hj (by omega) hj2⟩
      · exact .inr h5
  | succ n ih =>
    intro i f hn hi hl h
    unfold placeF
    by_cases hc : i ≤ 998 ∧ i + 1 < s.length
    · rw [if_pos hc]
      by_cases hd : 78 < i ∧ 0 < f
      · rw [if_pos hd]
        rcases h with ⟨rfl, h⟩ | ⟨h0, h1, h2, h3, h4, h5⟩
        · omega
        · refine .inr ⟨h0, h1, h2, h4, ?_⟩
          rcases h5 with ⟨a, b⟩ | h5
          · exact .inl ⟨a, fun j hj hj2 => b j hj (by omega) hj2⟩
          · exact .inr h5
      · rw [if_neg hd]
        by_cases hf : isFold s i = true
        · rw [if_pos hf]
          refine ih (i + 1) i (by omega) (by omega) hl (.inr ⟨by omega, hf, hi, by omega, hc.1, ?_⟩)
          by_cases h78 : i ≤ 78
          · exact .inl ⟨h78, fun j a b => by omega⟩
          · refine .inr ⟨by omega, fun j a b => ?_⟩
            rcases h with ⟨rfl, h⟩ | ⟨h0, _⟩
            · exact h j a b
            · omega
        · rw [if_neg hf]
          have hf' : isFold s i = false := by simpa using hf
          refine ih (i + 1) f (by omega) (by omega) hl ?_
          rcases h with ⟨rfl, h⟩ | ⟨h0, h1, h2, h3, h4, h5⟩
          · refine .inl ⟨rfl, fun j a b => ?_⟩
            by_cases e : j = i
            · rw [e]; exact hf'
            · exact h j a (by omega)
          · refine .inr ⟨h0, h1, h2, by omega, h4, ?_⟩
            rcases h5 with ⟨a, b⟩ | h5
            · refine .inl ⟨a, fun j hj hj2 hj3 => ?_⟩
              by_cases e : j = i
              · rw [e]; exact hf'
              · exact b j hj (by omega) hj3
            · exact .inr h5
    · rw [if_neg hc]
      rcases h with ⟨rfl, h⟩ | ⟨h0, h1, h2, h3, h4, h5⟩
      · refine .inl ⟨rfl, fun j a b => ?_⟩
        by_cases e : j < i
        · exact h j a e
        · exact isFold_end (by omega)
      · refine .inr ⟨h0, h1, h2, h4, ?_⟩
        rcases h5 with ⟨a, b⟩ | h5
        · refine .inl ⟨a, fun j hj hj2 => ?_⟩
          by_cases e : j < i
          · exact b j hj e hj2
          · exact isFold_end (by omega)
        · exact .inr h5
theorem place_is (s : List UInt8) (least : Nat) (h : 1 ≤ least) : IsPlace s least (place s least) :=
  placeF_is s least _ least 0 (Nat.le_refl _) (Nat.le_refl _) h (.inl ⟨rfl, fun j a b => by omega⟩)
theorem place_unique {s : List UInt8} {least a b : Nat} (ha : IsPlace s least a) (hb : IsPlace s least b) : a = b := by
  rcases ha with ⟨rfl, ha⟩ | ⟨a0, a1, a2, a3, a4⟩
  · rcases hb with ⟨rfl, _⟩ | ⟨b0, b1, b2, b3, b4⟩
    · rfl
    · rw [ha b b2 b3] at b1; cases b1
  · rcases hb with ⟨rfl, hb⟩ | ⟨b0, b1, b2, b3, b4⟩
    · rw [hb a a2 a3] at a1; cases a1
    · rcases Nat.lt_trichotomy a b with h | h | h
      · exfalso
        rcases a4 with ⟨x, y⟩ | ⟨x, y⟩
        · rcases b4 with ⟨z, _⟩ | ⟨z, u⟩
          · rw [y b h z] at b1; cases b1
          · rw [u a a2 h] at a1; cases a1
        · rcases b4 with ⟨z, _⟩ | ⟨z, u⟩
          · omega
          · rw [u a a2 h] at a1; cases a1
      · exact h
      · exfalso
        rcases b4 with ⟨x, y⟩ | ⟨x, y⟩
        · rcases a4 with ⟨z, _⟩ | ⟨z, u⟩
          · rw [y a h z] at a1; cases a1
          · rw [u b b2 h] at b1; cases b1
        · rcases a4 with ⟨z, _⟩ | ⟨z, u⟩
          · omega
          · rw [u b b2 h] at b1; cases b1
theorem lines_fuel : ∀ (n m least : Nat) (s : List UInt8), 1 ≤ least → s.length ≤ n → s.length ≤ m → linesF n least s = linesF m least s := by
  intro n
  induction n with
  | zero =>
    intro m least s hl h1 h2
    cases m with
    | zero => rfl
    | succ m => unfold linesF; rw [if_pos (by omega)]
  | succ n ih =>
    intro m least s hl h1 h2
    cases m with
    | zero => unfold linesF; rw [if_pos (by omega)]
    | succ m =>
      unfold linesF
      split
      · rfl
      · split
        · rename_i hp
          rw [ih m 1 (s.drop (place s least)) (by omega) (by rw [List.length_drop]; omega) (by rw [List.length_drop]; omega)]
        · split
          · rfl
          · rw [ih m 1 (32 :: s.drop 998) (by omega) (by rw [List.length_cons, List.length_drop]; omega) (by rw [List.length_cons, List.length_drop]; omega)]
def linesG (least : Nat) (s : List UInt8) : List (List UInt8) := linesF s.length least s
theorem linesG_step {least : Nat} {s : List UInt8} (_ : 1 ≤ least) : linesG least s = if s.length ≤ 78 then [s] else
    if 0 < place s least then s.take (place s least) :: linesG 1 (s.drop (place s least))
    else if s.length ≤ 998 then [s]
    else s.take 998 :: linesG 1 (32 :: s.drop 998) := by
  unfold linesG
  cases hn : s.length with
  | zero => unfold linesF; rw [if_pos (by omega)]
  | succ n =>
    conv => lhs; unfold linesF
    rw [hn]
    split
    · rfl
    · split
      · rw [lines_fuel n _ 1 (s.drop (place s least)) (by omega) (by rw [List.length_drop]; omega) (Nat.le_refl _)]
      · split
        · rfl
        · rw [lines_fuel n _ 1 (32 :: s.drop 998) (by omega) (by rw [List.length_cons, List.length_drop]; omega) (Nat.le_refl _)]
theorem flines_G (f : Fd) : flines f = linesG (f.1.length + 2) (head f) := rfl
end Hd
end Go.Proofs.YtliadekcbkedmaaDoor
