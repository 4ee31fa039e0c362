/-
  The encodings are decoded to what went in, plainly.
-/
import Derived.Test.YtehnjoggilomfaaDoorCDecP
import Derived.Test.YtehnjoggilomfaaDoorCLine
namespace Go.Proofs.YtehnjoggilomfaaDoor
open Go
namespace Cd
theorem hexF_hexD (n : Nat) (h : n < 16) : hexF (hexD n) = some (UInt8.ofNat n) := by
  have H : ∀ k : Fin 16, hexF (hexD k.val) = some (UInt8.ofNat k.val) := by decide +kernel
  exact H ⟨n, h⟩
theorem hex2_cons (a b : UInt8) (r : List UInt8) : hex2 (a :: b :: r) = match hexF a, hexF b with
    | some x, some y => some (UInt8.ofNat (x.toNat * 16 + y.toNat))
    | _, _ => none := rfl
theorem endsB_cons (c : UInt8) (r : List UInt8) : endsB (c :: r) = (c == 10 || (c == 13 && r.head? == some 10)) := rfl
theorem hex2_of (c : UInt8) (r : List UInt8) : hex2 (hexD (c.toNat / 16) :: hexD (c.toNat % 16) :: r) = some c := by
  have hc := c.toNat_lt
  rw [hex2_cons, hexF_hexD _ (by omega), hexF_hexD _ (by omega)]
  simp only
  congr 1
  apply UInt8.toNat_inj.1
  simp
  omega
theorem unp_per : ∀ l : List UInt8, unpercent (percent l) = (l, true)
  | [] => rfl
  | c :: r => by
    have ih := unp_per r
    have e : percent (c :: r) = perB c ++ percent r := by simp [percent]
    rw [e]
    unfold perB
    split
    · rename_i hf
      have h1 : c ≠ 43 := by rintro rfl; revert hf; decide
      have h2 : c ≠ 37 := by rintro rfl; revert hf; decide
      rw [List.singleton_append, unp_cons, if_neg h1, if_neg h2, ih]; rfl
    · split
      · rename_i h32
        rw [List.singleton_append, unp_cons, if_pos rfl, ih, h32]; rfl
      · rw [List.cons_append, List.cons_append, List.singleton_append, unp_cons, if_neg (by decide), if_pos rfl, hex2_of]
        simp only [List.drop_succ_cons, List.drop_zero]
        rw [ih]; rfl

theorem trimB_nb {c : UInt8} (h : blank c = false) (r : List UInt8) : trimB (c :: r) = c :: r := by simp [trimB, h]
theorem vis_range {c : UInt8} (h : vis c = true) : 33 ≤ c.toNat ∧ c.toNat ≤ 126 ∧ c ≠ 61 := by
  rw [vis_eq] at h
  simp only [Bool.and_eq_true, decide_eq_true_eq, bne_iff_ne, ne_eq] at h
  refine ⟨by omega, by omega, ?_⟩
  rintro rfl
  exact h.2 rfl
theorem vis_nb {c : UInt8} (h : vis c = true) : blank c = false := by
  have := vis_range h
  unfold blank
  have h1 : c ≠ 32 := by rintro rfl; revert h; decide
  have h2 : c ≠ 9 := by rintro rfl; revert h; decide
  rw [beq_eq_false_iff_ne.2 h1, beq_eq_false_iff_ne.2 h2]; rfl
theorem plain_cases {c : UInt8} {last : Bool} (h : plainB c last = true) : vis c = true ∨ (blank c = true ∧ last = false) := by
  rw [plain_eq] at h
  unfold blank
  cases hv : vis c with
  | true => exact .inl rfl
  | false =>
    rw [hv, Bool.false_or, Bool.and_eq_true] at h
    exact .inr ⟨h.1, by simpa using h.2⟩
theorem form_cases (c : UInt8) (last : Bool) : (plainB c last = true ∧ form c last = [c]) ∨ form c last = [61, hexD (c.toNat / 16), hexD (c.toNat % 16)] := by
  unfold form
  cases h : plainB c last with
  | true => exact .inl ⟨rfl, rfl⟩
  | false => exact .inr rfl
/-- How a line goes on. -/
theorem quo_cons {c : UInt8} (h : c ≠ 10) (w : Nat) (r : List UInt8) : (∃ w', quo w (c :: r) = 61 :: 10 :: (form c (lastB r) ++ quo w' r)) ∨ (∃ w', quo w (c :: r) = form c (lastB r) ++ quo w' r) := by
  rw [quo, if_neg h]
  split
  · exact .inl ⟨_, rfl⟩
  · exact .inr ⟨_, rfl⟩
theorem ends_quo : ∀ (r : List UInt8) (w : Nat), lastB r = false → endsB (trimB (quo w r)) = false
  | [], _, h => by cases h
  | d :: r, w, h => by
    have hd : d ≠ 10 := by rintro rfl; simp [lastB] at h
    have h61 : blank 61 = false := by decide
    rcases quo_cons hd w r with ⟨w', e⟩ | ⟨w', e⟩
    · rw [e, trimB_nb h61]; rfl
    · rw [e]
      rcases form_cases d (lastB r) with ⟨hp, hf⟩ | hf
      · rw [hf, List.singleton_append]
        rcases plain_cases hp with hv | ⟨hb, hl⟩
        · rw [trimB_nb (vis_nb hv)]
          have h1 := vis_range hv
          have h13 : d ≠ 13 := by rintro rfl; revert hv; decide
          rw [endsB_cons, beq_eq_false_iff_ne.2 hd, beq_eq_false_iff_ne.2 h13]; rfl
        · rw [trimB_cons hb]
          exact ends_quo r w' hl
      · rw [hf]
        show endsB (trimB (61 :: _)) = false
        rw [trimB_nb h61]; rfl
theorem unq_blank {c : UInt8} (hb : blank c = true) (X : List UInt8) (he : endsB (trimB X) = false) : unquoted (c :: X) = pre [c] true (unquoted X) := by
  have h1 : c ≠ 61 := by rintro rfl; revert hb; decide
  rw [unq_cons, if_neg h1, if_pos hb, trimB_cons hb, he, if_neg (by decide)]
  cases X with
  | nil => cases he
  | cons d Y =>
    cases hd : blank d with
    | true =>
      have h2 : d ≠ 61 := by rintro rfl; revert hd; decide
      rw [unq_cons d Y, if_neg h2, if_pos hd, he, if_neg (by decide), pre_pre]
      have hle : (trimB (d :: Y)).length ≤ (d :: Y).length := trimB_le _
      have e : (c :: d :: Y).length - (trimB (d :: Y)).length = ((d :: Y).length - (trimB (d :: Y)).length) + 1 := by simp only [List.length_cons] at hle ⊢; omega
      rw [e, List.take_succ_cons]; rfl
    | false =>
      rw [trimB_nb hd]
      have e : (c :: d :: Y).length - (d :: Y).length = 1 := by simp
      rw [e]; rfl
theorem unq_quo : ∀ (l : List UInt8) (w : Nat), unquoted (quo w l) = (l, true)
  | [], _ => rfl
  | c :: r, w => by
    by_cases h10 : c = 10
    · subst h10
      rw [quo, if_pos rfl, unq_cons, if_neg (by decide), if_neg (by decide), unq_quo r 0]; rfl
    · have key : ∀ w', unquoted (form c (lastB r) ++ quo w' r) = (c :: r, true) := by
        intro w'
        rcases form_cases c (lastB r) with ⟨hp, hf⟩ | hf
        · rw [hf, List.singleton_append]
          rcases plain_cases hp with hv | ⟨hb, hl⟩
          · obtain ⟨a1, a2, a3⟩ := vis_range hv
            have hok : okB c = true := by rw [okB_ge, decide_eq_true (by omega), decide_eq_true (by omega)]; rfl
            rw [unq_cons, if_neg a3, if_neg (by rw [vis_nb hv]; decide), unq_quo r w', hok]; rfl
          · rw [unq_blank hb _ (ends_quo r w' hl), unq_quo r w']; rfl
        · rw [hf, List.cons_append, List.cons_append, List.singleton_append, unq_cons, if_pos rfl, hex2_of]
          simp only [List.drop_succ_cons, List.drop_zero]
          rw [unq_quo r w']; rfl
      rcases quo_cons h10 w r with ⟨w', e⟩ | ⟨w', e⟩
      · rw [e, unq_cons, if_pos rfl]
        have hx : hex2 (10 :: (form c (lastB r) ++ quo w' r)) = none := by
          have h10 : hexF 10 = none := by decide +kernel
          cases hY : (form c (lastB r) ++ quo w' r) with
          | nil => rfl
          | cons d Y => rw [hex2_cons, h10]
        rw [hx]
        simp only
        have ht : trimB (10 :: (form c (lastB r) ++ quo w' r)) = 10 :: (form c (lastB r) ++ quo w' r) := trimB_nb (by decide) _
        rw [ht, if_pos (show endsB (10 :: (form c (lastB r) ++ quo w' r)) = true from rfl)]
        exact key w'
      · rw [e]; exact key w'
theorem unq_quoted (l : List UInt8) : unquoted (quoted l) = (l, true) := unq_quo l 0
end Cd
end Go.Proofs.YtehnjoggilomfaaDoor
