/-
  What is decoded is not longer than the text; text without marks stays, plainly.
-/
import Derived.Test.YtehnjoggilomfaaDoorCBack
namespace Go.Proofs.YtehnjoggilomfaaDoor
open Go
namespace Cd
theorem unqF_len : ∀ (n : Nat) (l : List UInt8), (unqF n l).1.length ≤ l.length
  | 0, _ => Nat.zero_le _
  | _ + 1, [] => Nat.zero_le _
  | n + 1, c :: r => by
    have t1 := trimB_le r
    have t2 := skipB_le (trimB r)
    have t3 := trimB_le (c :: r)
    have i1 := unqF_len n r
    have i2 := unqF_len n (r.drop 2)
    have i3 := unqF_len n (skipB (trimB r))
    have i4 := unqF_len n (trimB (c :: r))
    rw [List.length_drop] at i2
    have hp : ∀ (a : List UInt8) (o : Bool) (x : List UInt8 × Bool), (pre a o x).1.length = a.length + x.1.length := fun a o x => by simp [pre]
    unfold unqF
    simp only [List.length_cons] at t3 ⊢
    split
    · rename_i h61
      cases hx : hex2 r with
      | some x =>
        have := hex2_len hx
        simp only [hp, List.length_cons, List.length_nil]; omega
      | none =>
        simp only
        split
        · omega
        · simp only [hp, List.length_cons, List.length_nil]; omega
    · split
      · split
        · omega
        · rw [hp, List.length_take]; simp only [List.length_cons]; omega
      · simp only [hp, List.length_cons, List.length_nil]; omega
theorem unq_len (l : List UInt8) : (unquoted l).1.length ≤ l.length := unqF_len _ l
theorem unpF_len : ∀ (n : Nat) (l : List UInt8), (unpF n l).1.length ≤ l.length
  | 0, _ => Nat.zero_le _
  | _ + 1, [] => Nat.zero_le _
  | n + 1, c :: r => by
    have i1 := unpF_len n r
    have i2 := unpF_len n (r.drop 2)
    rw [List.length_drop] at i2
    have hp : ∀ (a : List UInt8) (o : Bool) (x : List UInt8 × Bool), (pre a o x).1.length = a.length + x.1.length := fun a o x => by simp [pre]
    unfold unpF
    split
    · simp only [hp, List.length_cons, List.length_nil]; omega
    · split
      · cases hx : hex2 r with
        | some x =>
          have := hex2_len hx
          simp only [hp, List.length_cons, List.length_nil]; omega
        | none => simp only [hp, List.length_cons, List.length_nil]; omega
      · simp only [hp, List.length_cons, List.length_nil]; omega
theorem unp_len (l : List UInt8) : (unpercent l).1.length ≤ l.length := unpF_len _ l
theorem from_ok : ∀ (ds : List UInt8) (st : St) (n : Nat), st.Ok n → (from_ st ds).Ok (n + ds.length)
  | [], _, _, h => h
  | c :: ds, st, n, h => by
    have := from_ok ds _ _ (h.step ((val64 c).getD 0))
    rw [List.length_cons, show n + (ds.length + 1) = n + 1 + ds.length by omega]
    exact this
theorem unb_len (l : List UInt8) : (unbase64 l).1.length ≤ l.length := by
  have h1 := (from_ok ((bare l).takeWhile isDig64) _ 0 St.Ok.start).out
  have h2 := (List.takeWhile_sublist (p := isDig64) (l := bare l)).length_le
  have h3 := bare_le l
  show (from_ ⟨0, 0, []⟩ ((bare l).takeWhile isDig64)).out.length ≤ _
  omega

/-- Text without marks and without blanks at the end of a line. -/
def ends2 : List UInt8 → Bool
  | [] => true
  | d :: _ => d == 10 || d == 13
def bad (c : UInt8) (r : List UInt8) : Bool := c == 61 || c == 43 || c == 37 || (blank c && ends2 r)
def cleanL : List UInt8 → Bool
  | [] => true
  | c :: r => !bad c r && cleanL r
def ok9 (c : UInt8) : Bool := (decide (32 ≤ c) && decide (c < 127)) || c == 9 || c == 10 || c == 13
theorem clean_cons {c : UInt8} {r : List UInt8} (h : cleanL (c :: r) = true) : c ≠ 61 ∧ c ≠ 43 ∧ c ≠ 37 ∧ (blank c = true → ends2 r = false) ∧ cleanL r = true := by
  unfold cleanL bad at h
  simp only [Bool.and_eq_true, Bool.not_eq_true', Bool.or_eq_false_iff, beq_eq_false_iff_ne] at h
  obtain ⟨⟨⟨⟨h1, h2⟩, h3⟩, h4⟩, h5⟩ := h
  refine ⟨h1, h2, h3, fun hb => ?_, h5⟩
  rw [hb, Bool.true_and] at h4
  exact h4
theorem unp_clean : ∀ l : List UInt8, cleanL l = true → unpercent l = (l, true)
  | [], _ => rfl
  | c :: r, h => by
    obtain ⟨_, h2, h3, _, h5⟩ := clean_cons h
    rw [unp_cons, if_neg h2, if_neg h3, unp_clean r h5]; rfl
theorem ends_clean : ∀ r : List UInt8, cleanL r = true → ends2 r = false → endsB (trimB r) = false
  | [], _, h => by cases h
  | d :: r, hc, h => by
    obtain ⟨_, _, _, h4, h5⟩ := clean_cons hc
    cases hb : blank d with
    | true => rw [trimB_cons hb]; exact ends_clean r h5 (h4 hb)
    | false =>
      rw [trimB_nb hb, endsB_cons]
      have h : (d == 10 || d == 13) = false := h
      rw [Bool.or_eq_false_iff] at h
      rw [h.1, h.2]; rfl
theorem ok9_okB {c : UInt8} (h : blank c = false) : okB c = ok9 c := by
  have H : ∀ k : Fin 256, blank (UInt8.ofNat k.val) = false → okB (UInt8.ofNat k.val) = ok9 (UInt8.ofNat k.val) := by decide +kernel
  have := H ⟨c.toNat, UInt8.toNat_lt c⟩
  simp only [UInt8.ofNat_toNat] at this
  exact this h
theorem ok9_blank {c : UInt8} (h : blank c = true) : ok9 c = true := by
  unfold blank at h
  rw [Bool.or_eq_true, beq_iff_eq, beq_iff_eq] at h
  rcases h with rfl | rfl <;> decide
theorem unq_clean : ∀ l : List UInt8, cleanL l = true → unquoted l = (l, l.all ok9)
  | [], _ => rfl
  | c :: r, h => by
    obtain ⟨h1, _, _, h4, h5⟩ := clean_cons h
    have ih := unq_clean r h5
    cases hb : blank c with
    | true => rw [unq_blank hb r (ends_clean r h5 (h4 hb)), ih, List.all_cons, ok9_blank hb]; rfl
    | false => rw [unq_cons, if_neg h1, if_neg (by rw [hb]; decide), ih, ok9_okB hb, List.all_cons]; rfl
/-- The kinds of bytes in such text. -/
theorem ok9_eq (c : UInt8) : ok9 c = ((decide (32 ≤ (c.toNat : Int)) && decide ((c.toNat : Int) < 127)) || ((c.toNat : Int) == 9) || ((c.toNat : Int) == 10) || ((c.toNat : Int) == 13)) := by
  have H : ∀ k : Fin 256, ok9 (UInt8.ofNat k.val) = ((decide (32 ≤ (k.val : Int)) && decide ((k.val : Int) < 127)) || ((k.val : Int) == 9) || ((k.val : Int) == 10) || ((k.val : Int) == 13)) := by decide +kernel
  have := H ⟨c.toNat, UInt8.toNat_lt c⟩
  simpa only [UInt8.ofNat_toNat] using this
theorem ok9_cases {c : UInt8} (h9 : c ≠ 9) : (32 ≤ (c.toNat : Int) ∧ (c.toNat : Int) < 127 ∧ ok9 c = true) ∨ (c = 10 ∧ ok9 10 = true) ∨ (c = 13 ∧ ok9 13 = true) ∨
    ((c.toNat : Int) < 32 ∧ decide (32 ≤ (c.toNat : Int)) = false ∧ ((c.toNat : Int) == 10) = false ∧ ((c.toNat : Int) == 13) = false ∧ ok9 c = false) ∨ (32 ≤ (c.toNat : Int) ∧ 127 ≤ (c.toNat : Int) ∧ decide ((c.toNat : Int) < 127) = false ∧ ((c.toNat : Int) == 10) = false ∧ ((c.toNat : Int) == 13) = false ∧ ok9 c = false) := by
  by_cases h10 : c = 10
  · exact .inr (.inl ⟨h10, by decide⟩)
  by_cases h13 : c = 13
  · exact .inr (.inr (.inl ⟨h13, by decide⟩))
  have q1 : ((c.toNat : Int) == 10) = false := byte_ne (n := 10) (by decide) h10
  have q2 : ((c.toNat : Int) == 13) = false := byte_ne (n := 13) (by decide) h13
  have q3 : ((c.toNat : Int) == 9) = false := byte_ne (n := 9) (by decide) h9
  have h := ok9_eq c
  by_cases a1 : 32 ≤ (c.toNat : Int)
  · by_cases a2 : (c.toNat : Int) < 127
    · exact .inl ⟨a1, a2, by rw [h]; simp [a1, a2]⟩
    · exact .inr (.inr (.inr (.inr ⟨a1, by omega, decide_eq_false a2, q1, q2, by rw [h, decide_eq_false a2, q1, q2, q3]; simp⟩)))
  · exact .inr (.inr (.inr (.inl ⟨by omega, decide_eq_false a1, q1, q2, by rw [h, decide_eq_false a1, q1, q2, q3]; simp⟩)))
end Cd
end Go.Proofs.YtehnjoggilomfaaDoor
