/-
  The plain laws of Words: the content with Q, what is in front of and behind a question mark, the step of Words.
-/
import Derived.Test.YtdkocjdhekomoaaGreatDoorHPl
import Derived.Lib.IndexMore
namespace Go.Proofs.YtdkocjdhekomoaaGreatDoor
namespace Ch
open Go.Lib
/-! ### the content with Q -/
theorem unq_fuel : ∀ (n m : Nat) (l : List UInt8), l.length ≤ n → l.length ≤ m → unqF n l = unqF m l := by
  intro n
  induction n with
  | zero =>
    intro m l h1 h2
    have : l = [] := List.eq_nil_of_length_eq_zero (by omega)
    subst this
    cases m <;> rfl
  | succ n ih =>
    intro m l h1 h2
    cases l with
    | nil => cases m <;> rfl
    | cons c r =>
      simp only [List.length_cons] at h1 h2
      obtain ⟨m, rfl⟩ : ∃ k, m = k + 1 := ⟨m - 1, by omega⟩
      unfold unqF
      rw [ih m r (by omega) (by omega), ih m (r.drop 2) (by rw [List.length_drop]; omega) (by rw [List.length_drop]; omega)]
theorem unq_cons (c : UInt8) (r : List UInt8) : unq (c :: r) =
    if c = 95 then pre [32] (unq r)
    else if c = 61 then
      match Cd.hex2 r with
      | some x => pre [x] (unq (r.drop 2))
      | none => none
    else pre [c] (unq r) := by
  show unqF (r.length + 1) (c :: r) = _
  unfold unqF
  rw [unq_fuel r.length (r.drop 2).length (r.drop 2) (by rw [List.length_drop]; omega) (Nat.le_refl _)]
  rfl
theorem pre_pre (a b : List UInt8) (x : Option (List UInt8)) : pre a (pre b x) = pre (a ++ b) x := by cases x <;> simp [pre]
/-- What has been written, and what is still to be read. -/
def Uq (l out rest : List UInt8) : Prop := pre out (unq rest) = unq l
theorem Uq.start (l : List UInt8) : Uq l [] l := by unfold Uq; cases unq l <;> simp [pre]
theorem Uq.end_ {l out : List UInt8} (h : Uq l out []) : unq l = some out := by
  unfold Uq at h
  rw [← h]
  simp [pre, unq, unqF]
theorem Uq.us {l out r : List UInt8} (h : Uq l out (95 :: r)) : Uq l (out ++ [32]) r := by
  unfold Uq at h ⊢
  rw [unq_cons, if_pos rfl, pre_pre] at h
  exact h
theorem Uq.hex {l out r : List UInt8} {x : UInt8} (h : Uq l out (61 :: r)) (hx : Cd.hex2 r = some x) : Uq l (out ++ [x]) (r.drop 2) := by
  unfold Uq at h ⊢
  rw [unq_cons, if_neg (by decide), if_pos rfl, hx] at h
  simp only [pre_pre] at h
  exact h
theorem Uq.bad {l out r : List UInt8} (h : Uq l out (61 :: r)) (hx : Cd.hex2 r = none) : unq l = none := by
  unfold Uq at h
  rw [unq_cons, if_neg (by decide), if_pos rfl, hx] at h
  exact h.symm
theorem Uq.other {l out r : List UInt8} {c : UInt8} (h : Uq l out (c :: r)) (h1 : c ≠ 95) (h2 : c ≠ 61) : Uq l (out ++ [c]) r := by
  unfold Uq at h ⊢
  rw [unq_cons, if_neg h1, if_neg h2, pre_pre] at h
  exact h
theorem unq_len : ∀ (n : Nat) (l d : List UInt8), l.length ≤ n → unq l = some d → d.length ≤ l.length := by
  intro n
  induction n with
  | zero =>
    intro l d hl h
    have : l = [] := List.eq_nil_of_length_eq_zero (by omega)
    subst this
    have : some [] = some d := h
    cases this; simp
  | succ n ih =>
    intro l d hl h
    cases l with
    | nil => have : some [] = some d := h; cases this; simp
    | cons c r =>
      simp only [List.length_cons] at hl ⊢
      rw [unq_cons] at h
      have H : ∀ (x : UInt8) (q : List UInt8), q.length ≤ r.length → pre [x] (unq q) = some d → d.length ≤ r.length + 1 := by
        intro x q hq h
        cases e : unq q with
        | none => rw [e] at h; cases h
        | some y =>
          rw [e] at h
          have : some ([x] ++ y) = some d := h
          cases this
          have := ih q y (by omega) e
          simp; omega
      split at h
      · exact H _ _ (Nat.le_refl _) h
      · split at h
        · split at h
          · exact H _ _ (by rw [List.length_drop]; omega) h
          · cases h
        · exact H _ _ (Nat.le_refl _) h

/-! ### a question mark -/
theorem front_nil : front [] = [] := rfl
theorem back_nil : back [] = [] := rfl
theorem front_hit (r : List UInt8) : front (63 :: r) = [] := by simp [front]
theorem back_hit (r : List UInt8) : back (63 :: r) = r := by simp [back]
theorem front_no {c : UInt8} (r : List UInt8) (h : c ≠ 63) : front (c :: r) = c :: front r := by simp [front, h]
theorem back_no {c : UInt8} (r : List UInt8) (h : c ≠ 63) : back (c :: r) = back r := by simp [back, h]
theorem cut_q : ∀ l : List UInt8, (Lib.cut l [63]).1 = front l ∧ (Lib.cut l [63]).2.1 = back l
  | [] => ⟨rfl, rfl⟩
  | c :: r => by
    obtain ⟨h1, h2⟩ := cut_q r
    by_cases hc : c = 63
    · subst hc
      have e : Lib.index (63 :: r) [63] = 0 := by simp [Lib.index]
      rw [front_hit, back_hit]
      unfold Lib.cut
      rw [e]
      exact ⟨rfl, rfl⟩
    · rw [front_no r hc, back_no r hc]
      have e : Lib.index (c :: r) [63] = if Lib.index r [63] == -1 then -1 else Lib.index r [63] + 1 := by
        have hp : ([63] : List UInt8).isPrefixOf (c :: r) = false := by simp [List.isPrefixOf]; exact fun h => hc h.symm
        conv => lhs; unfold Lib.index
        rw [hp]; rfl
      unfold Lib.cut at h1 h2 ⊢
      rcases Lib.index_spec r [63] with ⟨hi, _⟩ | ⟨i, hi, _⟩
      · rw [hi] at e h1 h2
        rw [e]
        have n1 : ¬ ((0 : Int) ≤ -1) := by omega
        rw [if_neg n1] at h1 h2
        simp only [beq_self_eq_true, if_true]
        rw [if_neg n1]
        exact ⟨by simp only at h1 ⊢; rw [← h1], by simp only at h2 ⊢; exact h2⟩
      · rw [hi] at e h1 h2
        have n1 : ((i : Int) == -1) = false := by rw [beq_eq_false_iff_ne]; omega
        rw [n1] at e
        rw [e]
        rw [if_pos (by omega)] at h1 h2
        simp only [Bool.false_eq_true, if_false]
        rw [if_pos (by omega)]
        have t1 : ((i : Int) + 1).toNat = i + 1 := by omega
        have t2 : (i : Int).toNat = i := by omega
        rw [t1]
        rw [t2] at h1 h2
        simp only at h1 h2 ⊢
        exact ⟨by rw [List.take_succ_cons, h1], by show (c :: r).drop (i + 1 + 1) = _; rw [List.drop_succ_cons, ← h2]; rfl⟩
theorem back_suffix (l : List UInt8) : back l <:+ l := (List.drop_suffix _ _).trans (List.dropWhile_suffix _)
theorem back_len (l : List UInt8) : (back l).length ≤ l.length := (back_suffix l).length_le
theorem front_len (l : List UInt8) : (front l).length ≤ l.length := (List.takeWhile_sublist _).length_le

/-! ### a sound word -/
theorem meant_some {n le c r t rest : List UInt8} (h : meant n le c r = some (t, rest)) :
    ∃ d, r = 61 :: rest ∧ isContent c = true ∧ decode le c = some d ∧ known (Tx.lowL n) = true ∧ t = textIn (Tx.lowL n) d := by
  unfold meant at h
  split at h
  · split at h
    · split at h
      · split at h
        · cases h
          exact ⟨_, rfl, by assumption, by assumption, by assumption, rfl⟩
        · cases h
      · cases h
    · cases h
  · cases h
theorem sound_some {l t rest : List UInt8} (h : sound l = some (t, rest)) : ∃ r, l = 61 :: 63 :: r ∧ meant (front r) (front (back r)) (front (back (back r))) (back (back (back r))) = some (t, rest) := by
  unfold sound at h
  split at h
  · exact ⟨_, rfl, h⟩
  · cases h
theorem sound_rest {l t rest : List UInt8} (h : sound l = some (t, rest)) : rest <:+ l ∧ rest.length + 3 ≤ l.length := by
  obtain ⟨r, rfl, hm⟩ := sound_some h
  obtain ⟨d, hr, _⟩ := meant_some hm
  have h1 : back (back (back r)) <:+ r := ((back_suffix _).trans (back_suffix _)).trans (back_suffix _)
  rw [hr] at h1
  have h2 := h1.length_le
  simp only [List.length_cons] at h2 ⊢
  exact ⟨((List.suffix_cons _ _).trans h1).trans ((List.suffix_cons _ _).trans (List.suffix_cons _ _)), by omega⟩
theorem sound_drop {l t rest : List UInt8} (h : sound l = some (t, rest)) : rest = l.drop (l.length - rest.length) := List.suffix_iff_eq_drop.1 (sound_rest h).1

/-! ### the step of Words -/
theorem words_fuel : ∀ (n m : Nat) (g : List UInt8) (b : Bool) (l : List UInt8), l.length ≤ n → l.length ≤ m → wordsF n g b l = wordsF m g b l := by
  intro n
  induction n with
  | zero =>
    intro m g b l h1 h2
    have : l = [] := List.eq_nil_of_length_eq_zero (by omega)
    subst this
    cases m <;> rfl
  | succ n ih =>
    intro m g b l h1 h2
    cases l with
    | nil => cases m <;> rfl
    | cons c r =>
      simp only [List.length_cons] at h1 h2
      obtain ⟨m, rfl⟩ : ∃ k, m = k + 1 := ⟨m - 1, by omega⟩
      unfold wordsF
      cases e : sound (c :: r) with
      | none => exact ih m _ _ r (by omega) (by omega)
      | some x =>
        obtain ⟨t, rest⟩ := x
        have := (sound_rest e).2
        simp only [List.length_cons] at this
        show _ ++ (t ++ wordsF n [] true rest) = _ ++ (t ++ wordsF m [] true rest)
        rw [ih m _ _ rest (by omega) (by omega)]
def wordsG (g : List UInt8) (b : Bool) (l : List UInt8) : List UInt8 := wordsF l.length g b l
theorem wordsF_cons (n : Nat) (g : List UInt8) (b : Bool) (c : UInt8) (r : List UInt8) : wordsF (n + 1) g b (c :: r) =
    match sound (c :: r) with
    | none => wordsF n (g ++ [c]) b r
    | some (t, rest) => (if b && g.all Tx.isW then [] else g) ++ (t ++ wordsF n [] true rest) := rfl
theorem wordsG_nil (g : List UInt8) (b : Bool) : wordsG g b [] = g := rfl
theorem wordsG_no {c : UInt8} {r : List UInt8} (h : sound (c :: r) = none) (g : List UInt8) (b : Bool) : wordsG g b (c :: r) = wordsG (g ++ [c]) b r := by
  unfold wordsG
  show wordsF (r.length + 1) g b (c :: r) = _
  rw [wordsF_cons, h]
theorem wordsG_yes {l t rest : List UInt8} (h : sound l = some (t, rest)) (g : List UInt8) (b : Bool) :
    wordsG g b l = (if b && g.all Tx.isW then [] else g) ++ (t ++ wordsG [] true rest) := by
  obtain ⟨r, hl, _⟩ := sound_some h
  have hr := (sound_rest h).2
  obtain ⟨r, hl⟩ : ∃ r, l = 61 :: r := ⟨_, hl⟩
  subst hl
  unfold wordsG
  show wordsF (r.length + 1) g b (61 :: r) = _
  rw [wordsF_cons, h]
  show _ ++ (t ++ wordsF r.length [] true rest) = _
  rw [words_fuel r.length rest.length _ _ rest (by simp at hr; omega) (Nat.le_refl _)]
end Ch
end Go.Proofs.YtdkocjdhekomoaaGreatDoor
