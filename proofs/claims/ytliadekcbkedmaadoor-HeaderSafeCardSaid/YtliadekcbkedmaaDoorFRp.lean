/-
  ReplaceAll of one byte; cut at one byte.
-/
import Derived.Test.YtliadekcbkedmaaDoorFPl
import Derived.Lib.Replace
import Derived.Lib.IndexBytes
import Derived.Lib.SplitLaws
namespace Go.Proofs.YtliadekcbkedmaaDoor
open Go
namespace Hd
/-- Each byte a becomes these bytes. -/
def repl (a : UInt8) (new s : List UInt8) : List UInt8 := s.flatMap fun c => if c = a then new else [c]
theorem repl_no {a : UInt8} {new : List UInt8} : ∀ {s : List UInt8}, (∀ c ∈ s, c ≠ a) → repl a new s = s
  | [], _ => rfl
  | c :: r, h => by
    have ih := repl_no (a := a) (new := new) (s := r) fun x hx => h x (by simp [hx])
    unfold repl at ih ⊢
    rw [List.flatMap_cons, if_neg (h c (by simp)), ih]
    rfl
theorem replaceK_one (a : UInt8) (new : List UInt8) : ∀ (n : Nat) (s : List UInt8), s.length ≤ n → ∀ k, s.count a ≤ k → Lib.replaceK [a] new k s = repl a new s := by
  intro n
  induction n with
  | zero =>
    intro s hs k _
    have : s = [] := List.eq_nil_of_length_eq_zero (by omega)
    subst this
    cases k <;> rfl
  | succ n ih =>
    intro s hs k hk
    cases k with
    | zero =>
      rw [Lib.replaceK]
      refine (repl_no fun c hc => ?_).symm
      rintro rfl
      have := List.count_pos_iff.2 hc
      omega
    | succ k =>
      rw [Lib.replaceK]
      have hge := Lib.indexByte_ge s a
      by_cases hm : Lib.indexByte s a = -1
      · rw [Lib.index_one, hm, if_pos (by decide)]
        have hno := Lib.indexByte_none hm
        refine (repl_no fun c hc => ?_).symm
        rintro rfl
        obtain ⟨j, hj⟩ := List.mem_iff_getElem?.1 hc
        exact hno j hj
      · obtain ⟨o, ho⟩ : ∃ o : Nat, Lib.indexByte s a = o := ⟨(Lib.indexByte s a).toNat, by omega⟩
        obtain ⟨h1, h2⟩ := Lib.indexByte_some ho
        have hol : o < s.length := (List.getElem?_eq_some_iff.1 h1).1
        have hs' : s = s.take o ++ a :: s.drop (o + 1) := by
          have := List.take_append_drop o s
          rw [List.drop_eq_getElem_cons hol] at this
          rw [List.getElem?_eq_getElem hol] at h1
          rw [Option.some.inj h1] at this
          exact this.symm
        have hf : repl a new (s.take o) = s.take o := by
          refine repl_no fun c hc => ?_
          rintro rfl
          obtain ⟨j, hj⟩ := List.mem_iff_getElem?.1 hc
          rw [List.getElem?_take] at hj
          split at hj
          · exact h2 j (by assumption) hj
          · cases hj
        have hcnt : (s.drop (o + 1)).count a ≤ k := by
          have e : s.count a = (s.take o).count a + ((s.drop (o + 1)).count a + 1) := by
            conv => lhs; rw [hs']
            rw [List.count_append, List.count_cons]; simp
          omega
        rw [Lib.index_one, ho, if_neg (by intro h; have := beq_iff_eq.1 h; omega)]
        show (s.take o ++ new) ++ Lib.replaceK [a] new k (s.drop (o + 1)) = _
        rw [ih _ (by rw [List.length_drop]; omega) k hcnt]
        conv => rhs; rw [hs']
        unfold repl at hf ⊢
        rw [List.flatMap_append, hf, List.flatMap_cons, if_pos rfl]
        simp
theorem replaceAll_one (a : UInt8) (new s : List UInt8) (h : ([a] : List UInt8) ≠ new) : Lib.replaceAll s [a] new = repl a new s := by
  unfold Lib.replaceAll Lib.replace Lib.replaceNum
  rw [if_neg (by simpa using h), if_pos (by omega), Lib.count_one]
  exact replaceK_one a new _ s (Nat.le_refl _) _ (Nat.le_refl _)
theorem unbroken_eq (v : List UInt8) : repl 10 [32] (repl 13 [32] v) = unbroken v := by
  induction v with
  | nil => rfl
  | cons c r ih =>
    unfold repl unbroken at ih ⊢
    rw [List.flatMap_cons, List.flatMap_append, ih, List.map_cons]
    by_cases h : c = 13
    · subst h; rfl
    · rw [if_neg h]
      by_cases h2 : c = 10
      · subst h2; rfl
      · rw [if_neg (by simp [h, h2])]
        simp [h2]
theorem esc_eq (v : List UInt8) : repl 34 [92, 34] (repl 92 [92, 92] v) = esc v := by
  induction v with
  | nil => rfl
  | cons c r ih =>
    unfold repl esc at ih ⊢
    rw [List.flatMap_cons, List.flatMap_append, ih, List.flatMap_cons]
    by_cases h : c = 92
    · subst h; rfl
    · rw [if_neg h]
      by_cases h2 : c = 34
      · subst h2; rfl
      · rw [if_neg (by simp [h, h2])]
        simp [h2]
theorem repl_len (a : UInt8) (new : List UInt8) (h : new.length ≤ 2) : ∀ s : List UInt8, (repl a new s).length ≤ 2 * s.length
  | [] => Nat.le_refl _
  | c :: r => by
    have ih := repl_len a new h r
    unfold repl at ih ⊢
    rw [List.flatMap_cons, List.length_append, List.length_cons]
    split
    · omega
    · rw [List.length_singleton]; omega
theorem unbroken_len (v : List UInt8) : (unbroken v).length = v.length := by unfold unbroken; rw [List.length_map]
/-! ### cut at one byte -/
theorem cut_at (d : UInt8) (a b : List UInt8) (h : d ∉ a) : Lib.cut (a ++ d :: b) [d] = (a, b, true) := by
  have hi : Lib.indexByte (a ++ d :: b) d = a.length := by
    induction a with
    | nil => simp [Lib.indexByte]
    | cons c r ih =>
      have hc : c ≠ d := fun e => h (by simp [e])
      have := ih fun e => h (by simp [e])
      simp [Lib.indexByte, hc, this]
  unfold Lib.cut
  rw [Lib.index_one, hi]
  simp
theorem cut_no (d : UInt8) (l : List UInt8) (h : d ∉ l) : Lib.cut l [d] = (l, [], false) := by
  have hi : Lib.indexByte l d = -1 := by
    induction l with
    | nil => rfl
    | cons c r ih =>
      have hc : c ≠ d := fun e => h (by simp [e])
      have := ih fun e => h (by simp [e])
      simp [Lib.indexByte, hc, this]
  unfold Lib.cut
  rw [Lib.index_one, hi]
  simp
/-- A cut is at the first such byte, or there is none. -/
theorem cut_or (d : UInt8) (l : List UInt8) : (∃ a b, l = a ++ d :: b ∧ d ∉ a ∧ Lib.cut l [d] = (a, b, true)) ∨ (d ∉ l ∧ Lib.cut l [d] = (l, [], false)) := by
  by_cases h : d ∈ l
  · obtain ⟨a, b, rfl, ha⟩ := List.eq_append_cons_of_mem h
    exact .inl ⟨a, b, rfl, ha, cut_at d a b ha⟩
  · exact .inr ⟨h, cut_no d l h⟩
theorem cut_len (d : UInt8) (l : List UInt8) : (Lib.cut l [d]).1.length ≤ l.length ∧ (Lib.cut l [d]).2.1.length ≤ l.length := by
  rcases cut_or d l with ⟨a, b, rfl, _, e⟩ | ⟨_, e⟩ <;> rw [e] <;> simp <;> omega
end Hd
end Go.Proofs.YtliadekcbkedmaaDoor
