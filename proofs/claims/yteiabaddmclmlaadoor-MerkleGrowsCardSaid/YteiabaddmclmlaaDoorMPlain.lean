/-
  The plain part of layer 4: splits, roots, paths, growths.
-/
import Derived.Test.YteiabaddmclmlaaDoorDPlain
import Derived.Lib.BitFns
namespace Go.Proofs.YteiabaddmclmlaaDoor
open Go
namespace Mk
abbrev B := List UInt8
def leaf (s : B) : B := Dg.sha (0 :: s)
def join (a b : B) : B := Dg.sha (1 :: (a ++ b))
def split (n : Nat) : Nat := 2 ^ (n - 1).log2
theorem split_pos (n : Nat) : 0 < split n := Nat.pow_pos (by omega)
theorem split_lt {n : Nat} (h : 2 ≤ n) : split n < n := by
  have := Nat.log2_self_le (n := n - 1) (by omega)
  unfold split; omega
theorem split_ge {n : Nat} (h : 2 ≤ n) : n ≤ 2 * split n := by
  have := Nat.lt_log2_self (n := n - 1)
  unfold split
  rw [Nat.pow_succ] at this
  omega
theorem split_eq {n k : Nat} (h1 : 2 ^ k < n) (h2 : n ≤ 2 * 2 ^ k) : split n = 2 ^ k := by
  have h0 := Nat.two_pow_pos k
  have h := (Nat.log2_eq_iff (n := n - 1) (k := k) (by omega)).2 ⟨by omega, by rw [Nat.pow_succ]; omega⟩
  unfold split
  rw [h]
theorem bitLen_log2 : ∀ x : Nat, 0 < x → x < 2 ^ 64 → Lib.bitLen x = x.log2 + 1 := by
  intro x
  induction x using Nat.strongRecOn with
  | _ x ih =>
    intro h0 h1
    rw [Lib.bitLen_half x (by omega) h1]
    by_cases h2 : x < 2
    · obtain rfl : x = 1 := by omega
      decide +kernel
    · rw [ih (x / 2) (by omega) (by omega) (by omega), Nat.log2_def x, if_pos (by omega)]
      omega
theorem log2_lt {n : Nat} (h0 : 2 ≤ n) (h : n < 9223372036854775808) : (n - 1).log2 ≤ 62 := by
  have h1 : (n - 1).log2 < 63 := (Nat.log2_lt (by omega)).2 (by omega)
  omega
def root (X : List B) : B :=
  if X.length = 0 then Dg.sha [] else if _h1 : 2 ≤ X.length then join (root (X.take (split X.length))) (root (X.drop (split X.length))) else X.headD []
termination_by X.length
decreasing_by
  · have := split_lt _h1; simp; omega
  · have := split_pos X.length; simp; omega
theorem root_nil : root [] = Dg.sha [] := by rw [root]; simp
theorem root_one (x : B) : root [x] = x := by rw [root]; simp
theorem root_many {X : List B} (h : 2 ≤ X.length) : root X = join (root (X.take (split X.length))) (root (X.drop (split X.length))) := by
  rw [root, if_neg (by omega), dif_pos h]
theorem root_len {X : List B} (h : ∀ x ∈ X, x.length ≤ 40) : (root X).length ≤ 40 := by
  match X with
  | [] => rw [root_nil]; show (Dg.sha []).length ≤ 40; rw [Dg.sha, Dg.bytes_length]; omega
  | [x] => rw [root_one]; exact h x (by simp)
  | x :: y :: t => rw [root_many (by simp)]; unfold join; rw [Dg.sha, Dg.bytes_length]; omega
theorem root_len32 {X : List B} (h : ∀ x ∈ X, x.length = 32) : (root X).length = 32 := by
  match X with
  | [] => rw [root_nil]; show (Dg.sha []).length = 32; rw [Dg.sha, Dg.bytes_length]
  | [x] => rw [root_one]; exact h x (by simp)
  | x :: y :: t => rw [root_many (by simp)]; unfold join; rw [Dg.sha, Dg.bytes_length]
def path (X : List B) (i : Nat) : List B :=
  if _h : 2 ≤ X.length ∧ i < X.length then
    if i < split X.length then path (X.take (split X.length)) i ++ [root (X.drop (split X.length))]
    else path (X.drop (split X.length)) (i - split X.length) ++ [root (X.take (split X.length))]
  else []
termination_by X.length
decreasing_by
  · have := split_lt _h.1; simp; omega
  · have := split_pos X.length; simp; omega
theorem path_none {X : List B} {i : Nat} (h : ¬ (2 ≤ X.length ∧ i < X.length)) : path X i = [] := by rw [path, dif_neg h]
theorem path_left {X : List B} {i : Nat} (h : 2 ≤ X.length) (hi : i < split X.length) : path X i = path (X.take (split X.length)) i ++ [root (X.drop (split X.length))] := by
  rw [path, dif_pos ⟨h, by have := split_lt h; omega⟩, if_pos hi]
theorem path_right {X : List B} {i : Nat} (h : 2 ≤ X.length) (h2 : i < X.length) (hi : ¬ i < split X.length) : path X i = path (X.drop (split X.length)) (i - split X.length) ++ [root (X.take (split X.length))] := by
  rw [path, dif_pos ⟨h, h2⟩, if_neg hi]
/-- The root by a path, its last hash first. -/
def by_ (leaf : B) : List B → Nat → Nat → Option B
  | [], n, _ => if n = 1 then some leaf else none
  | x :: q, n, i => if n = 1 then none else if i < split n then (by_ leaf q (split n) i).map fun r => join r x else (by_ leaf q (n - split n) (i - split n)).map fun r => join x r
/-- What the reference makes of it. -/
def rby (leaf : B) : List B → Nat → Nat → B
  | [], _, _ => leaf
  | x :: q, n, i => if n = 1 then leaf else if i < split n then join (rby leaf q (split n) i) x else join x (rby leaf q (n - split n) (i - split n))
def okp : List B → Nat → Nat → Bool
  | [], n, _ => decide (n = 1)
  | _ :: q, n, i => if n = 1 then false else if i < split n then okp q (split n) i else okp q (n - split n) (i - split n)
theorem by_eq (leaf : B) : ∀ (q : List B) (n i : Nat), by_ leaf q n i = if okp q n i then some (rby leaf q n i) else none
  | [], n, i => by unfold by_ okp rby; by_cases h : n = 1 <;> simp [h]
  | x :: q, n, i => by
    unfold by_ okp rby
    by_cases h : n = 1
    · simp [h]
    · rw [if_neg h, if_neg h, if_neg h]
      by_cases hi : i < split n
      · rw [if_pos hi, if_pos hi, if_pos hi, by_eq leaf q]
        cases okp q (split n) i <;> rfl
      · rw [if_neg hi, if_neg hi, if_neg hi, by_eq leaf q]
        cases okp q (n - split n) (i - split n) <;> rfl
def growth (X : List B) (m : Nat) (known : Bool) : List B :=
  if m = X.length then (if known then [] else [root X])
  else if _h : 2 ≤ X.length then
    if m ≤ split X.length then growth (X.take (split X.length)) m known ++ [root (X.drop (split X.length))]
    else growth (X.drop (split X.length)) (m - split X.length) false ++ [root (X.take (split X.length))]
  else []
termination_by X.length
decreasing_by
  · have := split_lt _h; simp; omega
  · have := split_pos X.length; simp; omega
theorem growth_all (X : List B) (known : Bool) : growth X X.length known = if known then [] else [root X] := by rw [growth, if_pos rfl]
theorem growth_left {X : List B} {m : Nat} {known : Bool} (h : 2 ≤ X.length) (hm : m ≤ split X.length) : growth X m known = growth (X.take (split X.length)) m known ++ [root (X.drop (split X.length))] := by
  rw [growth, if_neg (by have := split_lt h; omega), dif_pos h, if_pos hm]
theorem growth_right {X : List B} {m : Nat} {known : Bool} (h : 2 ≤ X.length) (hl : m ≠ X.length) (hm : ¬ m ≤ split X.length) : growth X m known = growth (X.drop (split X.length)) (m - split X.length) false ++ [root (X.take (split X.length))] := by
  rw [growth, if_neg hl, dif_pos h, if_neg hm]
/-- Both roots by a growth, its last hash first. -/
def both (old : B) : List B → Nat → Nat → Bool → Option (B × B)
  | [], m, n, known => if m = n ∧ known = true then some (old, old) else none
  | x :: q, m, n, known =>
    if m = n then (if known = false ∧ q = [] then some (x, x) else none)
    else if m ≤ split n then (both old q m (split n) known).map fun r => (r.1, join r.2 x)
    else (both old q (m - split n) (n - split n) false).map fun r => (join x r.1, join x r.2)
/-- What the reference makes of it. -/
def rboth (old : B) : List B → Nat → Nat → Bool → B × B
  | [], m, n, known => if m = n ∧ known = true then (old, old) else ([], [])
  | x :: q, m, n, known =>
    if m = n then (if known = true then (old, old) else (x, x))
    else if m ≤ split n then ((rboth old q m (split n) known).1, join (rboth old q m (split n) known).2 x)
    else (join x (rboth old q (m - split n) (n - split n) false).1, join x (rboth old q (m - split n) (n - split n) false).2)
def okb : List B → Nat → Nat → Bool → Bool
  | [], m, n, known => decide (m = n) && known
  | _ :: q, m, n, known =>
    if m = n then (!known && q.isEmpty)
    else if m ≤ split n then okb q m (split n) known
    else okb q (m - split n) (n - split n) false
theorem both_eq (old : B) : ∀ (q : List B) (m n : Nat) (known : Bool), both old q m n known = if okb q m n known then some (rboth old q m n known) else none
  | [], m, n, known => by unfold both okb rboth; by_cases h : m = n <;> cases known <;> simp [h]
  | x :: q, m, n, known => by
    unfold both okb rboth
    by_cases h : m = n
    · rw [if_pos h, if_pos h, if_pos h]
      cases known <;> cases q <;> simp
    · rw [if_neg h, if_neg h, if_neg h]
      by_cases hi : m ≤ split n
      · rw [if_pos hi, if_pos hi, if_pos hi, both_eq old q]
        cases okb q m (split n) known <;> rfl
      · rw [if_neg hi, if_neg hi, if_neg hi, both_eq old q]
        cases okb q (m - split n) (n - split n) false <;> rfl
end Mk
end Go.Proofs.YteiabaddmclmlaaDoor
