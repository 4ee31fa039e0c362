/-
  The lines of base64 and quoted-printable are short and printable, plainly.
-/
import Derived.Test.YtehnjoggilomfaaDoorCBack
namespace Go.Proofs.YtehnjoggilomfaaDoor
open Go
namespace Cd
def good (tabs : Bool) (c : UInt8) : Bool := (decide (32 ≤ c) && decide (c ≤ 126)) || (tabs && c == 9)
def fit (tabs : Bool) : Nat → List UInt8 → Bool
  | _, [] => true
  | n, c :: r => if c = 10 then fit tabs 0 r else decide (n + 1 ≤ 76) && good tabs c && !((c == 32 || c == 9) && lastB r) && fit tabs (n + 1) r
/-- Bytes that may stand anywhere in a line. -/
def solid (c : UInt8) : Bool := decide (33 ≤ c) && decide (c ≤ 126)
theorem solid_good {c : UInt8} (h : solid c = true) (tabs : Bool) : good tabs c = true ∧ c ≠ 10 ∧ (c == 32 || c == 9) = false := by
  have H : ∀ k : Fin 256, solid (UInt8.ofNat k.val) = true → (good false (UInt8.ofNat k.val) = true ∧ UInt8.ofNat k.val ≠ 10 ∧ (UInt8.ofNat k.val == 32 || UInt8.ofNat k.val == 9) = false) := by decide +kernel
  have := H ⟨c.toNat, UInt8.toNat_lt c⟩
  simp only [UInt8.ofNat_toNat] at this
  obtain ⟨h1, h2, h3⟩ := this h
  refine ⟨?_, h2, h3⟩
  cases tabs with
  | false => exact h1
  | true => unfold good at h1 ⊢; simp only [Bool.false_and, Bool.or_false] at h1; rw [h1]; rfl
theorem fit_solid (tabs : Bool) : ∀ (A B : List UInt8) (n : Nat), (∀ c ∈ A, solid c = true) → n + A.length ≤ 76 → fit tabs n (A ++ B) = fit tabs (n + A.length) B
  | [], _, _, _, _ => rfl
  | c :: A, B, n, h, hl => by
    obtain ⟨h1, h2, h3⟩ := solid_good (h c (by simp)) tabs
    simp only [List.length_cons] at hl
    rw [List.cons_append, fit, if_neg h2, decide_eq_true (by omega), h1, h3, fit_solid tabs A B (n + 1) (fun d hd => h d (by simp [hd])) (by omega)]
    simp only [List.length_cons, Bool.false_and, Bool.not_false, Bool.and_self, Bool.true_and]
    rw [show n + 1 + A.length = n + (A.length + 1) by omega]
theorem dig64_solid (n : Nat) : solid (dig64 n) = true := by
  have H : ∀ k : Fin 64, solid ((digF digs 64 (UInt8.ofNat k.val)).getD 0) = true := by decide +kernel
  exact H ⟨n % 64, Nat.mod_lt _ (by decide)⟩
theorem hexD_solid (n : Nat) (h : n < 16) : solid (hexD n) = true := by
  have H : ∀ k : Fin 16, solid (hexD k.val) = true := by decide +kernel
  exact H ⟨n, h⟩
theorem line_solid (l : List UInt8) : ∀ c ∈ b64line l, solid c = true := by
  have hg : ∀ x : List UInt8, ∀ c ∈ grp x, solid c = true := by
    intro x c hc
    have h4 : ∀ i, solid (chr4 x i) = true := by
      intro i; unfold chr4; split
      · exact dig64_solid _
      · decide
    simp only [grp, List.mem_cons, List.not_mem_nil, or_false] at hc
    rcases hc with rfl | rfl | rfl | rfl <;> exact h4 _
  intro c hc
  unfold b64line at hc
  obtain ⟨x, hx, hc⟩ := List.mem_flatten.1 hc
  obtain ⟨y, _, rfl⟩ := List.mem_map.1 hx
  exact hg _ c hc
theorem line_short (l : List UInt8) (h : l.length ≤ 57) : (b64line l).length ≤ 76 := by
  rw [b64line_len]
  have : cnt 3 l.length ≤ 19 := by unfold cnt; omega
  omega
theorem fit_base : ∀ (n : Nat) (l : List UInt8), l.length ≤ n → fit false 0 (base64 l) = true := by
  intro n
  induction n using Nat.strongRecOn with
  | ind n ih =>
    intro l hl
    by_cases h0 : l = []
    · subst h0; rfl
    · have hp : 0 < l.length := List.length_pos_iff.2 h0
      have h57 := line_short (l.take 57) (by rw [List.length_take]; omega)
      rw [base_step l h0, List.append_assoc, fit_solid false _ _ 0 (line_solid _) (by omega), List.singleton_append, fit, if_pos rfl]
      by_cases hs : l.length ≤ 57
      · rw [List.drop_eq_nil_of_le hs]; rfl
      · exact ih (n - 57) (by omega) _ (by rw [List.length_drop]; omega)
theorem last_quo {r : List UInt8} (h : lastB r = false) (w : Nat) : lastB (quo w r) = false := by
  match r, h with
  | d :: r, h =>
    have hd : d ≠ 10 := by rintro rfl; simp [lastB] at h
    rcases quo_cons hd w r with ⟨w', e⟩ | ⟨w', e⟩
    · rw [e]; rfl
    · rw [e]
      rcases form_cases d (lastB r) with ⟨_, hf⟩ | hf
      · rw [hf]; exact beq_eq_false_iff_ne.2 hd
      · rw [hf]; rfl
theorem fit_quo : ∀ (l : List UInt8) (w : Nat), w ≤ 76 → (lastB l = false → w ≤ 75) → fit true w (quo w l) = true
  | [], _, _, _ => rfl
  | c :: r, w, hw, hl => by
    by_cases h10 : c = 10
    · subst h10
      rw [quo, if_pos rfl, fit, if_pos rfl]
      exact fit_quo r 0 (by omega) (by omega)
    · have hw5 : w ≤ 75 := hl (beq_eq_false_iff_ne.2 h10)
      have hc := c.toNat_lt
      have key : ∀ w1, w1 + (form c (lastB r)).length ≤ limit (lastB r) → fit true w1 (form c (lastB r) ++ quo (w1 + (form c (lastB r)).length) r) = true := by
        intro w1 hle
        have hlim : limit (lastB r) ≤ 76 := by unfold limit; split <;> omega
        have hnext : lastB r = false → w1 + (form c (lastB r)).length ≤ 75 := by intro h; unfold limit at hle; rw [h] at hle ⊢; simpa using hle
        have ih := fit_quo r (w1 + (form c (lastB r)).length) (by omega) hnext
        rcases form_cases c (lastB r) with ⟨hp, hf⟩ | hf
        · rw [hf] at hle ih ⊢
          simp only [List.length_cons, List.length_nil, Nat.zero_add] at hle ih ⊢
          rcases plain_cases hp with hv | ⟨hb, hlast⟩
          · have hv2 := vis_range hv
            have hso : solid c = true := by
              unfold solid
              rw [decide_eq_true (by rw [UInt8.le_iff_toNat_le]; simpa using hv2.1), decide_eq_true (by rw [UInt8.le_iff_toNat_le]; simpa using hv2.2.1)]; rfl
            rw [fit_solid true [c] _ w1 (by intro d hd; rw [List.mem_singleton] at hd; subst hd; exact hso) (by simp; omega)]
            exact ih
          · have hg : good true c = true := by
              unfold blank at hb
              rw [Bool.or_eq_true, beq_iff_eq, beq_iff_eq] at hb
              rcases hb with rfl | rfl <;> decide
            rw [List.singleton_append, fit, if_neg h10, decide_eq_true (by omega), hg, last_quo hlast, ih]
            simp
        · have hso : ∀ d ∈ form c (lastB r), solid d = true := by
            rw [hf]
            intro d hd
            simp only [List.mem_cons, List.not_mem_nil, or_false] at hd
            rcases hd with rfl | rfl | rfl
            · decide
            · exact hexD_solid _ (by omega)
            · exact hexD_solid _ (by omega)
          rw [fit_solid true _ _ w1 hso (by omega)]
          exact ih
      have hform := form_len c (lastB r)
      rw [quo, if_neg h10]
      split
      · rw [fit, if_neg (by decide), decide_eq_true (by omega), show good true 61 = true by decide, fit, if_pos rfl]
        have := key 0 (by unfold limit; split <;> omega)
        rw [Nat.zero_add] at this
        rw [this]
        simp
      · exact key w (by omega)
theorem fit_quoted (l : List UInt8) : fit true 0 (quoted l) = true := fit_quo l 0 (by omega) (by omega)
theorem perB_solid (c : UInt8) : ∀ d ∈ perB c, solid d = true := by
  have hc := c.toNat_lt
  intro d hd
  unfold perB at hd
  split at hd
  · rename_i hf
    rw [List.mem_singleton] at hd; subst hd
    have H : ∀ k : Fin 256, freeB (UInt8.ofNat k.val) = true → solid (UInt8.ofNat k.val) = true := by decide +kernel
    have := H ⟨d.toNat, UInt8.toNat_lt d⟩
    simp only [UInt8.ofNat_toNat] at this
    exact this hf
  · split at hd
    · rw [List.mem_singleton] at hd; subst hd; decide
    · simp only [List.mem_cons, List.not_mem_nil, or_false] at hd
      rcases hd with rfl | rfl | rfl
      · decide
      · exact hexD_solid _ (by omega)
      · exact hexD_solid _ (by omega)
theorem percent_solid (l : List UInt8) : ∀ d ∈ percent l, solid d = true := by
  intro d hd
  obtain ⟨x, hx, hd⟩ := List.mem_flatten.1 hd
  obtain ⟨c, _, rfl⟩ := List.mem_map.1 hx
  exact perB_solid c d hd
theorem base_end (l : List UInt8) (h : l ≠ []) : base64 l ≠ [] ∧ (base64 l).getLast? = some 10 := by
  have key : ∀ n (l : List UInt8), l.length ≤ n → l ≠ [] → (base64 l).getLast? = some 10 := by
    intro n
    induction n using Nat.strongRecOn with
    | ind n ih =>
      intro l hl h0
      have hp : 0 < l.length := List.length_pos_iff.2 h0
      rw [base_step l h0]
      by_cases hs : l.length ≤ 57
      · rw [List.drop_eq_nil_of_le hs, base_nil, List.append_nil, List.getLast?_append]; rfl
      · have hd : l.drop 57 ≠ [] := by intro e; have := congrArg List.length e; rw [List.length_drop] at this; simp at this; omega
        rw [List.getLast?_append, ih (n - 57) (by omega) _ (by rw [List.length_drop]; omega) hd]; rfl
  have h1 := key _ l (Nat.le_refl _) h
  exact ⟨(by intro e; rw [e] at h1; cases h1), h1⟩
end Cd
end Go.Proofs.YtehnjoggilomfaaDoor
