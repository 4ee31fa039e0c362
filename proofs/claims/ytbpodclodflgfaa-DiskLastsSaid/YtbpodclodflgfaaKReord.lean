/-
  The plain part of layer 5, seventh: DiskReorders.
-/
import Derived.Test.YtbpodclodflgfaaKTurns
namespace Go.Proofs.Ytbpodclodflgfaa
open Go
namespace Dk
def kept (s : B) (k : Int) : B := if k = 1 then s else if k = 2 then s.take 24 else []
theorem pieces_one (f at_ : Nat) (s : B) (hs : s ≠ []) (h : s.length ≤ 64) (h64 : at_ % 64 = 0) : pieces f s.length at_ s = [⟨f, at_, s⟩] := by
  cases s with
  | nil => exact absurd rfl hs
  | cons c t =>
    rw [List.length_cons, pieces]
    · rw [h64, List.take_of_length_le (by simpa using h), List.drop_eq_nil_of_le (by simpa using h), pieces_nil]
    · intro h; cases h
theorem kept_nil {s : B} (hs : s ≠ []) {k : Int} : kept s k = [] ↔ ¬ (k = 1 ∨ k = 2) := by
  unfold kept
  by_cases h1 : k = 1
  · rw [if_pos h1]; simp [h1, hs]
  · rw [if_neg h1]
    by_cases h2 : k = 2
    · rw [if_pos h2]
      cases s with
      | nil => exact absurd rfl hs
      | cons c t => simp [h2]
    · rw [if_neg h2]; simp [h1, h2]
theorem part_kept (f at_ : Nat) (s : B) (k : Int) : part ⟨f, at_, s⟩ (some k) = kept s k := by
  unfold part kept
  simp
theorem put_nil (at_ : Nat) (t : B) : put [] at_ t = List.replicate at_ 0 ++ t := by
  refine List.ext_getElem? fun i => ?_
  rw [put_at]
  by_cases h1 : at_ ≤ i ∧ i < at_ + t.length
  · rw [if_pos h1, List.getElem?_append_right (by simpa using h1.1)]
    simp
  · rw [if_neg h1, if_neg (by simp)]
    by_cases h2 : i < at_
    · rw [if_pos (by omega), List.getElem?_append_left (by simpa using h2), List.getElem?_replicate, if_pos h2]
    · rw [if_neg (by omega), List.getElem?_eq_none (by simp; omega)]
theorem put_gap (s t : B) (at_ : Nat) (h : s.length ≤ at_) : put s at_ t = s ++ List.replicate (at_ - s.length) 0 ++ t := by
  have := put_put [] 0 s (List.replicate (at_ - s.length) 0 ++ t)
  refine List.ext_getElem? fun i => ?_
  rw [put_at, List.append_assoc]
  by_cases h1 : at_ ≤ i ∧ i < at_ + t.length
  · rw [if_pos h1, List.getElem?_append_right (by omega), List.getElem?_append_right (by simp; omega)]
    simp
    congr 1; omega
  · rw [if_neg h1]
    by_cases h2 : i < s.length
    · rw [if_pos h2, List.getElem?_append_left h2]
    · rw [if_neg h2, List.getElem?_append_right (by omega)]
      by_cases h3 : i < at_
      · rw [if_pos (by omega), List.getElem?_append_left (by simp; omega), List.getElem?_replicate, if_pos (by omega)]
      · rw [if_neg (by omega), List.getElem?_eq_none (by simp; omega)]
/-- The three writes, and a crash that keeps what it is told. -/
theorem reorders (a b c : B) (ha : a ≠ []) (hb : b ≠ []) (hc : c ≠ []) (la : a.length ≤ 64) (lb : b.length ≤ 64) (lc : c.length ≤ 64) (k0 k1 k2 : Int) :
    write new 5 0 a = (.ok, add new 5 0 a) ∧ write (add new 5 0 a) 6 128 c = (.ok, add (add new 5 0 a) 6 128 c) ∧ write (add (add new 5 0 a) 6 128 c) 5 64 b = (.ok, add (add (add new 5 0 a) 6 128 c) 5 64 b) ∧
    (crash (add (add (add new 5 0 a) 6 128 c) 5 64 b) [k0, k1, k2]).last 5 = (if kept b k2 = [] then kept a k0 else kept a k0 ++ List.replicate (64 - (kept a k0).length) 0 ++ kept b k2) ∧
    (crash (add (add (add new 5 0 a) 6 128 c) 5 64 b) [k0, k1, k2]).last 6 = (if kept c k1 = [] then [] else List.replicate 128 0 ++ kept c k1) := by
  have hlen : (kept a k0).length ≤ 64 := by unfold kept; split; exact la; split; simp; omega; simp
  have hq : (add (add (add new 5 0 a) 6 128 c) 5 64 b).queue = [⟨5, 0, a⟩, ⟨6, 128, c⟩, ⟨5, 64, b⟩] := by
    unfold add new
    show (([] ++ pieces 5 a.length 0 a) ++ pieces 6 c.length 128 c) ++ pieces 5 b.length 64 b = _
    rw [pieces_one 5 0 a ha la rfl, pieces_one 6 128 c hc lc rfl, pieces_one 5 64 b hb lb rfl]
    rfl
  refine ⟨calm_write (d := new) rfl rfl (f := 5) (at_ := 0) (by omega) (by omega) a (fits_of (by omega) (by omega)),
    calm_write (d := add new 5 0 a) rfl rfl (f := 6) (at_ := 128) (by omega) (by omega) c (fits_of (by omega) (by omega)),
    calm_write (d := add (add new 5 0 a) 6 128 c) rfl rfl (f := 5) (at_ := 64) (by omega) (by omega) b (fits_of (by omega) (by omega)), ?_, ?_⟩
  · show overK 5 [] (add (add (add new 5 0 a) 6 128 c) 5 64 b).queue [k0, k1, k2] = _
    rw [hq]
    simp only [overK, part_kept, true_and]
    have h1 : (if (k0 = 1 ∨ k0 = 2) then put [] 0 (kept a k0) else []) = kept a k0 := by
      by_cases h : k0 = 1 ∨ k0 = 2
      · rw [if_pos h, put_nil]; simp
      · rw [if_neg h]; exact ((kept_nil ha).2 h).symm
    have e1 : ∀ (P : Prop) [Decidable P] (x y : B), (if (6 : Nat) = 5 ∧ P then x else y) = y := fun P _ x y => if_neg (by omega)
    rw [h1]
    simp only [e1]
    by_cases h : k2 = 1 ∨ k2 = 2
    · rw [if_pos h, if_neg (fun x => (kept_nil hb).1 x h), put_gap _ _ _ hlen]
    · rw [if_neg h, if_pos ((kept_nil hb).2 h)]
  · show overK 6 [] (add (add (add new 5 0 a) 6 128 c) 5 64 b).queue [k0, k1, k2] = _
    rw [hq]
    have e1 : ∀ (P : Prop) [Decidable P] (x y : B), (if (5 : Nat) = 6 ∧ P then x else y) = y := fun P _ x y => if_neg (by omega)
    simp only [overK, part_kept, true_and, e1]
    by_cases h : k1 = 1 ∨ k1 = 2
    · rw [if_pos h, if_neg (fun x => (kept_nil hc).1 x h), put_nil]
    · rw [if_neg h, if_pos ((kept_nil hc).2 h)]
end Dk
end Go.Proofs.Ytbpodclodflgfaa
