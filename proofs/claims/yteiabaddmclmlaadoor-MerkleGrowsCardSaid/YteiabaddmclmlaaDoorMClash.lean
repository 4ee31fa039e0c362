/-
  The plain part of layer 4, second: what a path and a growth prove, unless two different strings that were hashed have the same digest.
-/
import Derived.Test.YteiabaddmclmlaaDoorMPlain
namespace Go.Proofs.YteiabaddmclmlaaDoor
open Go
namespace Mk
def Clashes (l : List B) : Prop := ∃ a ∈ l, ∃ b ∈ l, a ≠ b ∧ Dg.sha a = Dg.sha b
theorem Clashes.mono {l m : List B} (h : Clashes l) (hs : ∀ x ∈ l, x ∈ m) : Clashes m := by
  obtain ⟨a, ha, b, hb, h1, h2⟩ := h
  exact ⟨a, hs a ha, b, hs b hb, h1, h2⟩
/-- The strings that are hashed for the joins of a list. -/
def inner (X : List B) : List B :=
  if _h : 2 ≤ X.length then inner (X.take (split X.length)) ++ inner (X.drop (split X.length)) ++ [1 :: (root (X.take (split X.length)) ++ root (X.drop (split X.length)))] else []
termination_by X.length
decreasing_by
  · have := split_lt _h; simp; omega
  · have := split_pos X.length; simp; omega
theorem inner_few {X : List B} (h : ¬ 2 ≤ X.length) : inner X = [] := by rw [inner, dif_neg h]
theorem inner_many {X : List B} (h : 2 ≤ X.length) : inner X = inner (X.take (split X.length)) ++ inner (X.drop (split X.length)) ++ [1 :: (root (X.take (split X.length)) ++ root (X.drop (split X.length)))] := by
  rw [inner, dif_pos h]
theorem inner_len : ∀ (N : Nat) (X : List B), X.length ≤ N → (inner X).length ≤ N
  | 0, X, h => by rw [inner_few (by omega)]; simp
  | N + 1, X, h => by
    by_cases h2 : 2 ≤ X.length
    · have h1 := split_lt h2
      have h0 := split_pos X.length
      have a := inner_len (split X.length) (X.take (split X.length)) (by rw [List.length_take]; omega)
      have hd : X.length - split X.length ≤ N := by omega
      have b : (inner (X.drop (split X.length))).length + 1 ≤ X.length - split X.length := by
        have hp : 0 < X.length - split X.length := by omega
        exact inner_len' N (X.drop (split X.length)) (X.length - split X.length) (by rw [List.length_drop]) hp hd
      rw [inner_many h2]
      simp
      omega
    · rw [inner_few h2]; simp
where
  inner_len' (N : Nat) (X : List B) (n : Nat) (hn : X.length = n) (h0 : 0 < n) (hN : n ≤ N) : (inner X).length + 1 ≤ n := by
    match N, n, h0 with
    | 0, n, h0 => omega
    | N + 1, n, h0 =>
      by_cases h2 : 2 ≤ X.length
      · have h1 := split_lt h2
        have h0 := split_pos X.length
        have a := inner_len' N (X.take (split X.length)) (split X.length) (by rw [List.length_take]; omega) h0 (by omega)
        have b := inner_len' N (X.drop (split X.length)) (X.length - split X.length) (by rw [List.length_drop]) (by omega) (by omega)
        rw [inner_many h2]
        simp
        omega
      · rw [inner_few h2]; simp; omega
theorem inner_size {X : List B} (hX : ∀ x ∈ X, x.length ≤ 40) : ∀ y ∈ inner X, y.length ≤ 100 := by
  generalize hn : X.length = n
  induction n using Nat.strongRecOn generalizing X with
  | _ n ih =>
    intro y hy
    by_cases h2 : 2 ≤ X.length
    · have h1 := split_lt h2
      have h0 := split_pos X.length
      have hXt : ∀ x ∈ X.take (split X.length), x.length ≤ 40 := fun x hx => hX x (List.mem_of_mem_take hx)
      have hXd : ∀ x ∈ X.drop (split X.length), x.length ≤ 40 := fun x hx => hX x (List.mem_of_mem_drop hx)
      rw [inner_many h2] at hy
      simp only [List.mem_append, List.mem_singleton] at hy
      rcases hy with (hy | hy) | rfl
      · exact ih (split X.length) (by omega) hXt (by rw [List.length_take]; omega) y hy
      · exact ih (X.length - split X.length) (by omega) hXd (by rw [List.length_drop]) y hy
      · have a := root_len hXt
        have b := root_len hXd
        simp; omega
    · rw [inner_few h2] at hy; cases hy
/-- The strings that are hashed for the root by a path. -/
def along (leaf : B) : List B → Nat → Nat → List B
  | [], _, _ => []
  | x :: q, n, i =>
    if n < 2 ∨ n ≤ i then []
    else if i < split n then along leaf q (split n) i ++ [1 :: (rby leaf q (split n) i ++ x)]
    else along leaf q (n - split n) (i - split n) ++ [1 :: (x ++ rby leaf q (n - split n) (i - split n))]
theorem rby_len {leaf : B} (hl : leaf.length ≤ 40) : ∀ (q : List B) (n i : Nat), (rby leaf q n i).length ≤ 40
  | [], n, i => hl
  | x :: q, n, i => by
    unfold rby
    by_cases h : n = 1
    · rw [if_pos h]; exact hl
    · rw [if_neg h]
      by_cases hi : i < split n
      · rw [if_pos hi]; unfold join; rw [Dg.sha, Dg.bytes_length]; omega
      · rw [if_neg hi]; unfold join; rw [Dg.sha, Dg.bytes_length]; omega
theorem along_len (leaf : B) : ∀ (q : List B) (n i : Nat), (along leaf q n i).length ≤ q.length
  | [], n, i => by simp [along]
  | x :: q, n, i => by
    have a := along_len leaf q (split n) i
    have b := along_len leaf q (n - split n) (i - split n)
    unfold along
    split
    · simp
    · split <;> simp <;> omega
theorem along_size {leaf : B} (hl : leaf.length ≤ 40) : ∀ (q : List B) (n i : Nat), (∀ x ∈ q, x.length ≤ 40) → ∀ y ∈ along leaf q n i, y.length ≤ 100
  | [], n, i, _, y, hy => by simp [along] at hy
  | x :: q, n, i, hq, y, hy => by
    have hx := hq x (by simp)
    have hq' : ∀ x ∈ q, x.length ≤ 40 := fun z hz => hq z (by simp [hz])
    unfold along at hy
    split at hy
    · cases hy
    · split at hy
      · simp only [List.mem_append, List.mem_singleton] at hy
        rcases hy with hy | rfl
        · exact along_size hl q _ _ hq' y hy
        · have := rby_len hl q (split n) i
          simp; omega
      · simp only [List.mem_append, List.mem_singleton] at hy
        rcases hy with hy | rfl
        · exact along_size hl q _ _ hq' y hy
        · have := rby_len hl q (n - split n) (i - split n)
          simp; omega
theorem join_len (a b : B) : (join a b).length = 32 := by unfold join; rw [Dg.sha, Dg.bytes_length]
theorem leaf_len (a : B) : (leaf a).length = 32 := by unfold leaf; rw [Dg.sha, Dg.bytes_length]
theorem by_len {leaf : B} (hl : leaf.length = 32) : ∀ (q : List B) (n i : Nat) (r : B), by_ leaf q n i = some r → r.length = 32
  | [], n, i, r, h => by
    unfold by_ at h
    split at h
    · cases h; exact hl
    · cases h
  | x :: q, n, i, r, h => by
    unfold by_ at h
    split at h
    · cases h
    · split at h
      · obtain ⟨a, _, rfl⟩ := Option.map_eq_some_iff.1 h
        exact join_len _ _
      · obtain ⟨a, _, rfl⟩ := Option.map_eq_some_iff.1 h
        exact join_len _ _
theorem by_rby {leaf : B} {q : List B} {n i : Nat} {r : B} (h : by_ leaf q n i = some r) : rby leaf q n i = r := by
  rw [by_eq] at h
  split at h
  · injection h
  · cases h
/-- Two joins that are equal are joins of the same, or they clash. -/
theorem join_inj {a b c d : B} {l : List B} (h : join a b = join c d) (ha : a.length = c.length) (h1 : 1 :: (a ++ b) ∈ l) (h2 : 1 :: (c ++ d) ∈ l) : (a = c ∧ b = d) ∨ Clashes l := by
  by_cases he : a ++ b = c ++ d
  · exact .inl (List.append_inj he ha)
  · exact .inr ⟨_, h1, _, h2, fun h => he (by injection h), h⟩
/-- What a path proves. -/
theorem sound (leaf : B) (hl : leaf.length = 32) : ∀ (q X : List B) (n i : Nat), X.length = n → i < n → (∀ x ∈ X, x.length = 32) → (∀ x ∈ q, x.length = 32) → by_ leaf q n i = some (root X) →
    (leaf = X.getD i [] ∧ q.reverse = path X i) ∨ Clashes (inner X ++ along leaf q n i)
  | [], X, n, i, hn, hi, hX, hq, h => by
    unfold by_ at h
    split at h
    case isFalse => cases h
    case isTrue h1 =>
      subst h1
      match X, hn with
      | [x], _ =>
        obtain rfl : i = 0 := by omega
        rw [root_one] at h
        injection h with h
        exact .inl ⟨h, by rw [path_none (by simp)]; rfl⟩
  | x :: q, X, n, i, hn, hi, hX, hq, h => by
    unfold by_ at h
    split at h
    case isTrue => cases h
    case isFalse h1 =>
      have h2 : 2 ≤ X.length := by omega
      have hk1 := split_lt h2
      have hk0 := split_pos X.length
      rw [hn] at hk1 hk0
      have hXt : ∀ x ∈ X.take (split n), x.length = 32 := fun x hx => hX x (List.mem_of_mem_take hx)
      have hXd : ∀ x ∈ X.drop (split n), x.length = 32 := fun x hx => hX x (List.mem_of_mem_drop hx)
      have hq' : ∀ z ∈ q, z.length = 32 := fun z hz => hq z (by simp [hz])
      have hx := hq x (by simp)
      have hI := inner_many h2
      have hR := root_many h2
      rw [hn] at hI hR
      rw [hR] at h
      have hrt := root_len32 hXt
      have hrd := root_len32 hXd
      split at h
      case isTrue hik =>
        obtain ⟨r, hr, hj⟩ := Option.map_eq_some_iff.1 h
        have hrl := by_len hl q _ _ r hr
        have hA : along leaf (x :: q) n i = along leaf q (split n) i ++ [1 :: (r ++ x)] := by
          rw [along, if_neg (by omega), if_pos hik, by_rby hr]
        rcases join_inj (l := inner X ++ along leaf (x :: q) n i) hj (by rw [hrl, hrt]) (by rw [hA]; simp) (by rw [hI]; simp) with ⟨e1, e2⟩ | hc
        · rw [e1] at hr
          rcases sound leaf hl q (X.take (split n)) (split n) i (by rw [List.length_take]; omega) hik hXt hq' hr with ⟨a, b⟩ | hc
          · refine .inl ⟨?_, ?_⟩
            · rw [a]; simp only [List.getD_eq_getElem?_getD]; rw [List.getElem?_take_of_lt hik]
            · rw [path_left h2 (by rw [hn]; exact hik), hn, List.reverse_cons, b, e2]
          · refine .inr (hc.mono fun y hy => ?_)
            rw [hA, hI]
            simp only [List.mem_append] at hy ⊢
            rcases hy with hy | hy
            · exact .inl (.inl (.inl hy))
            · exact .inr (.inl hy)
        · exact .inr hc
      case isFalse hik =>
        obtain ⟨r, hr, hj⟩ := Option.map_eq_some_iff.1 h
        have hrl := by_len hl q _ _ r hr
        have hA : along leaf (x :: q) n i = along leaf q (n - split n) (i - split n) ++ [1 :: (x ++ r)] := by
          rw [along, if_neg (by omega), if_neg hik, by_rby hr]
        rcases join_inj (l := inner X ++ along leaf (x :: q) n i) hj (by rw [hx, hrt]) (by rw [hA]; simp) (by rw [hI]; simp) with ⟨e1, e2⟩ | hc
        · rw [e2] at hr
          rcases sound leaf hl q (X.drop (split n)) (n - split n) (i - split n) (by rw [List.length_drop]; omega) (by omega) hXd hq' hr with ⟨a, b⟩ | hc
          · refine .inl ⟨?_, ?_⟩
            · rw [a]; simp only [List.getD_eq_getElem?_getD]; rw [List.getElem?_drop]; congr 2; omega
            · rw [path_right h2 (by omega) (by rw [hn]; exact hik), hn, List.reverse_cons, b, e1]
          · refine .inr (hc.mono fun y hy => ?_)
            rw [hA, hI]
            simp only [List.mem_append] at hy ⊢
            rcases hy with hy | hy
            · exact .inl (.inl (.inr hy))
            · exact .inr (.inl hy)
        · exact .inr hc
/-- A path proves its element. -/
theorem whole : ∀ (N : Nat) (X : List B) (n i : Nat), n ≤ N → X.length = n → i < n → by_ (X.getD i []) (path X i).reverse n i = some (root X)
  | 0, X, n, i, hN, hn, hi => by omega
  | N + 1, X, n, i, hN, hn, hi => by
    by_cases h2 : 2 ≤ X.length
    · have hk1 := split_lt h2
      have hk0 := split_pos X.length
      have hR := root_many h2
      rw [hn] at hk1 hk0 hR
      rw [hR]
      by_cases hik : i < split n
      · have := whole N (X.take (split n)) (split n) i (by omega) (by rw [List.length_take]; omega) hik
        have e : (X.take (split n)).getD i [] = X.getD i [] := by simp only [List.getD_eq_getElem?_getD]; rw [List.getElem?_take_of_lt hik]
        rw [e] at this
        rw [path_left h2 (by rw [hn]; exact hik), hn, List.reverse_append, List.reverse_singleton, List.singleton_append]
        unfold by_
        rw [if_neg (by omega), if_pos hik, this]
        rfl
      · have := whole N (X.drop (split n)) (n - split n) (i - split n) (by omega) (by rw [List.length_drop]; omega) (by omega)
        have e : (X.drop (split n)).getD (i - split n) [] = X.getD i [] := by
          simp only [List.getD_eq_getElem?_getD]; rw [List.getElem?_drop]; congr 2; omega
        rw [e] at this
        rw [path_right h2 (by omega) (by rw [hn]; exact hik), hn, List.reverse_append, List.reverse_singleton, List.singleton_append]
        unfold by_
        rw [if_neg (by omega), if_neg hik, this]
        rfl
    · obtain rfl : n = 1 := by omega
      match X, hn with
      | [x], _ =>
        obtain rfl : i = 0 := by omega
        rw [path_none (by simp), root_one]
        rfl
theorem path_len32 : ∀ (N : Nat) (X : List B) (i : Nat), X.length ≤ N → (∀ x ∈ X, x.length = 32) → ∀ y ∈ path X i, y.length = 32
  | 0, X, i, h, hX, y, hy => by rw [path_none (by omega)] at hy; cases hy
  | N + 1, X, i, h, hX, y, hy => by
    by_cases hc : 2 ≤ X.length ∧ i < X.length
    · have h1 := split_lt hc.1
      have h0 := split_pos X.length
      have hXt : ∀ x ∈ X.take (split X.length), x.length = 32 := fun x hx => hX x (List.mem_of_mem_take hx)
      have hXd : ∀ x ∈ X.drop (split X.length), x.length = 32 := fun x hx => hX x (List.mem_of_mem_drop hx)
      by_cases hi : i < split X.length
      · rw [path_left hc.1 hi] at hy
        simp only [List.mem_append, List.mem_singleton] at hy
        rcases hy with hy | rfl
        · exact path_len32 N _ i (by rw [List.length_take]; omega) hXt y hy
        · exact root_len32 hXd
      · rw [path_right hc.1 hc.2 hi] at hy
        simp only [List.mem_append, List.mem_singleton] at hy
        rcases hy with hy | rfl
        · exact path_len32 N _ _ (by rw [List.length_drop]; omega) hXd y hy
        · exact root_len32 hXt
    · rw [path_none hc] at hy; cases hy
theorem path_deep : ∀ (d : Nat) (X : List B) (i : Nat), X.length ≤ 2 ^ d → (path X i).length ≤ d
  | 0, X, i, h => by rw [path_none (by omega)]; simp
  | d + 1, X, i, h => by
    by_cases hc : 2 ≤ X.length ∧ i < X.length
    · have h1 := split_lt hc.1
      have h2 := split_ge hc.1
      have hk : split X.length ≤ 2 ^ d := by
        have : (X.length - 1).log2 ≤ d := by
          have h3 : X.length - 1 < 2 ^ (d + 1) := by omega
          have := (Nat.log2_lt (n := X.length - 1) (by omega)).2 h3
          omega
        exact Nat.pow_le_pow_right (by omega) this
      by_cases hi : i < split X.length
      · rw [path_left hc.1 hi, List.length_append]
        have := path_deep d (X.take (split X.length)) i (by rw [List.length_take]; omega)
        simp; omega
      · rw [path_right hc.1 hc.2 hi, List.length_append]
        have := path_deep d (X.drop (split X.length)) (i - split X.length) (by rw [List.length_drop]; omega)
        simp; omega
    · rw [path_none hc]; simp
/-- Two lists of the same number with the same root are equal, or they clash. -/
theorem roots : ∀ (N : Nat) (X Y : List B), X.length ≤ N → X.length = Y.length → (∀ x ∈ X, x.length = 32) → (∀ x ∈ Y, x.length = 32) → root X = root Y → X = Y ∨ Clashes (inner X ++ inner Y)
  | 0, X, Y, h, hXY, _, _, _ => by
    have a := List.length_eq_zero_iff.1 (by omega : X.length = 0)
    have b := List.length_eq_zero_iff.1 (by omega : Y.length = 0)
    exact .inl (a.trans b.symm)
  | N + 1, X, Y, h, hXY, hX, hY, hR => by
    by_cases h2 : 2 ≤ X.length
    · have h2' : 2 ≤ Y.length := by omega
      have hk1 := split_lt h2
      have hk0 := split_pos X.length
      have r1 := root_many h2
      have r2 := root_many h2'
      have i1 := inner_many h2
      have i2 := inner_many h2'
      rw [← hXY] at r2 i2
      obtain ⟨k, hk⟩ : ∃ k, split X.length = k := ⟨_, rfl⟩
      rw [hk] at hk1 hk0 r1 r2 i1 i2
      have hXt : ∀ x ∈ X.take k, x.length = 32 := fun x hx => hX x (List.mem_of_mem_take hx)
      have hXd : ∀ x ∈ X.drop k, x.length = 32 := fun x hx => hX x (List.mem_of_mem_drop hx)
      have hYt : ∀ x ∈ Y.take k, x.length = 32 := fun x hx => hY x (List.mem_of_mem_take hx)
      have hYd : ∀ x ∈ Y.drop k, x.length = 32 := fun x hx => hY x (List.mem_of_mem_drop hx)
      rw [r1, r2] at hR
      have hS : ∀ y ∈ inner (X.take k) ++ inner (Y.take k), y ∈ inner X ++ inner Y := by
        rw [i1, i2]; intro y hy
        simp only [List.mem_append] at hy ⊢
        rcases hy with hy | hy
        · exact .inl (.inl (.inl hy))
        · exact .inr (.inl (.inl hy))
      have hT : ∀ y ∈ inner (X.drop k) ++ inner (Y.drop k), y ∈ inner X ++ inner Y := by
        rw [i1, i2]; intro y hy
        simp only [List.mem_append] at hy ⊢
        rcases hy with hy | hy
        · exact .inl (.inl (.inr hy))
        · exact .inr (.inl (.inr hy))
      rcases join_inj (l := inner X ++ inner Y) hR (by rw [root_len32 hXt, root_len32 hYt]) (by rw [i1]; simp) (by rw [i2]; simp) with ⟨e1, e2⟩ | hc
      · rcases roots N (X.take k) (Y.take k) (by rw [List.length_take]; omega) (by rw [List.length_take, List.length_take, hXY]) hXt hYt e1 with a | hc
        · rcases roots N (X.drop k) (Y.drop k) (by rw [List.length_drop]; omega) (by rw [List.length_drop, List.length_drop, hXY]) hXd hYd e2 with b | hc
          · exact .inl (by rw [← List.take_append_drop k X, a, b, List.take_append_drop])
          · exact .inr (hc.mono hT)
        · exact .inr (hc.mono hS)
      · exact .inr hc
    · match X, Y, hXY with
      | [], [], _ => exact .inl rfl
      | [x], [y], _ => rw [root_one, root_one] at hR; exact .inl (by rw [hR])
      | _ :: _ :: _, _, _ => simp at h2
/-- The strings that are hashed for the roots by a growth. -/
def grows (old : B) : List B → Nat → Nat → Bool → List B
  | [], _, _, _ => []
  | x :: q, m, n, known =>
    if n ≤ m ∨ m < 1 then []
    else if m ≤ split n then grows old q m (split n) known ++ [1 :: ((rboth old q m (split n) known).2 ++ x)]
    else grows old q (m - split n) (n - split n) false ++ [1 :: (x ++ (rboth old q (m - split n) (n - split n) false).1), 1 :: (x ++ (rboth old q (m - split n) (n - split n) false).2)]
theorem rboth_len {old : B} (ho : old.length ≤ 40) : ∀ (q : List B) (m n : Nat) (known : Bool), (∀ x ∈ q, x.length ≤ 40) → (rboth old q m n known).1.length ≤ 40 ∧ (rboth old q m n known).2.length ≤ 40
  | [], m, n, known, _ => by unfold rboth; split <;> simp [ho]
  | x :: q, m, n, known, hq => by
    have hx := hq x (by simp)
    have hq' : ∀ x ∈ q, x.length ≤ 40 := fun z hz => hq z (by simp [hz])
    have a := rboth_len ho q m (split n) known hq'
    unfold rboth
    split
    · split
      · exact ⟨ho, ho⟩
      · exact ⟨hx, hx⟩
    · split
      · exact ⟨a.1, by rw [join_len]; omega⟩
      · exact ⟨by rw [join_len]; omega, by rw [join_len]; omega⟩
theorem grows_len (old : B) : ∀ (q : List B) (m n : Nat) (known : Bool), (grows old q m n known).length ≤ 2 * q.length
  | [], m, n, known => by simp [grows]
  | x :: q, m, n, known => by
    have a := grows_len old q m (split n) known
    have b := grows_len old q (m - split n) (n - split n) false
    unfold grows
    split
    · simp
    · split <;> simp <;> omega
theorem grows_size {old : B} (ho : old.length ≤ 40) : ∀ (q : List B) (m n : Nat) (known : Bool), (∀ x ∈ q, x.length ≤ 40) → ∀ y ∈ grows old q m n known, y.length ≤ 100
  | [], m, n, known, _, y, hy => by simp [grows] at hy
  | x :: q, m, n, known, hq, y, hy => by
    have hx := hq x (by simp)
    have hq' : ∀ x ∈ q, x.length ≤ 40 := fun z hz => hq z (by simp [hz])
    have a := rboth_len ho q m (split n) known hq'
    have b := rboth_len ho q (m - split n) (n - split n) false hq'
    unfold grows at hy
    split at hy
    · cases hy
    · split at hy
      · simp only [List.mem_append, List.mem_singleton] at hy
        rcases hy with hy | rfl
        · exact grows_size ho q _ _ _ hq' y hy
        · simp; omega
      · simp only [List.mem_append, List.mem_cons, List.not_mem_nil, or_false] at hy
        rcases hy with hy | rfl | rfl
        · exact grows_size ho q _ _ _ hq' y hy
        · simp; omega
        · simp; omega
theorem both_rboth {old : B} {q : List B} {m n : Nat} {known : Bool} {r : B × B} (h : both old q m n known = some r) : rboth old q m n known = r := by
  rw [both_eq] at h
  split at h
  · injection h
  · cases h
theorem both_len {old : B} (ho : old.length = 32) : ∀ (q : List B) (m n : Nat) (known : Bool) (r : B × B), (∀ x ∈ q, x.length = 32) → both old q m n known = some r → r.2.length = 32
  | [], m, n, known, r, _, h => by
    unfold both at h
    split at h
    · cases h; exact ho
    · cases h
  | x :: q, m, n, known, r, hq, h => by
    unfold both at h
    split at h
    · split at h
      · cases h; exact hq x (by simp)
      · cases h
    · split at h
      · obtain ⟨a, _, rfl⟩ := Option.map_eq_some_iff.1 h
        exact join_len _ _
      · obtain ⟨a, _, rfl⟩ := Option.map_eq_some_iff.1 h
        exact join_len _ _
theorem take_many {X : List B} {m n : Nat} (hn : X.length = n) (h2 : 2 ≤ n) (hm : split n < m) (hmn : m ≤ n) : root (X.take m) = join (root (X.take (split n))) (root ((X.drop (split n)).take (m - split n))) := by
  have h0 := split_pos n
  have hl : (X.take m).length = m := by rw [List.length_take]; omega
  have hs : split m = split n := split_eq hm (by have := split_ge h2; show m ≤ 2 * split n; omega)
  rw [root_many (by omega), hl, hs]
  congr 2
  · rw [List.take_take]; congr 1; omega
  · rw [List.drop_take]
/-- What a growth proves. -/
theorem grown_sound (old : B) (ho : old.length = 32) : ∀ (q X : List B) (m n : Nat) (known : Bool) (a : B), X.length = n → 0 < m → m ≤ n → (∀ x ∈ X, x.length = 32) → (∀ x ∈ q, x.length = 32) → both old q m n known = some (a, root X) →
    a = root (X.take m) ∨ Clashes (inner X ++ grows old q m n known)
  | [], X, m, n, known, a, hn, h0, hm, hX, hq, h => by
    unfold both at h
    split at h
    case isFalse => cases h
    case isTrue h1 =>
      obtain ⟨rfl, rfl⟩ := h1
      injection h with h
      injection h with h1 h2
      exact .inl (by rw [List.take_of_length_le (by omega), ← h1, h2])
  | x :: q, X, m, n, known, a, hn, h0, hm, hX, hq, h => by
    unfold both at h
    split at h
    case isTrue h1 =>
      subst h1
      split at h
      · injection h with h
        injection h with h1 h2
        exact .inl (by rw [List.take_of_length_le (by omega), ← h1, h2])
      · cases h
    case isFalse h1 =>
      have h2 : 2 ≤ X.length := by omega
      have hk1 := split_lt h2
      have hk0 := split_pos X.length
      have hI := inner_many h2
      have hR := root_many h2
      rw [hn] at hk1 hk0 hI hR
      have hXt : ∀ x ∈ X.take (split n), x.length = 32 := fun x hx => hX x (List.mem_of_mem_take hx)
      have hXd : ∀ x ∈ X.drop (split n), x.length = 32 := fun x hx => hX x (List.mem_of_mem_drop hx)
      have hq' : ∀ z ∈ q, z.length = 32 := fun z hz => hq z (by simp [hz])
      have hx := hq x (by simp)
      rw [hR] at h
      have hrt := root_len32 hXt
      have hrd := root_len32 hXd
      split at h
      case isTrue hmk =>
        obtain ⟨⟨a', b'⟩, hr, hj⟩ := Option.map_eq_some_iff.1 h
        injection hj with hj1 hj2
        subst hj1
        have hrl := both_len ho q _ _ _ _ hq' hr
        have hA : grows old (x :: q) m n known = grows old q m (split n) known ++ [1 :: (b' ++ x)] := by
          rw [grows, if_neg (by omega), if_pos hmk, both_rboth hr]
        rcases join_inj (l := inner X ++ grows old (x :: q) m n known) hj2 (by rw [hrl, hrt]) (by rw [hA]; simp) (by rw [hI]; simp) with ⟨e1, e2⟩ | hc
        · simp only at e1
          rw [e1] at hr
          rcases grown_sound old ho q (X.take (split n)) m (split n) known a' (by rw [List.length_take]; omega) h0 hmk hXt hq' hr with e | hc
          · exact .inl (by rw [e, List.take_take, Nat.min_eq_left hmk])
          · refine .inr (hc.mono fun y hy => ?_)
            rw [hA, hI]
            simp only [List.mem_append] at hy ⊢
            rcases hy with hy | hy
            · exact .inl (.inl (.inl hy))
            · exact .inr (.inl hy)
        · exact .inr hc
      case isFalse hmk =>
        obtain ⟨⟨a', b'⟩, hr, hj⟩ := Option.map_eq_some_iff.1 h
        injection hj with hj1 hj2
        have hA : grows old (x :: q) m n known = grows old q (m - split n) (n - split n) false ++ [1 :: (x ++ a'), 1 :: (x ++ b')] := by
          rw [grows, if_neg (by omega), if_neg hmk, both_rboth hr]
        rcases join_inj (l := inner X ++ grows old (x :: q) m n known) hj2 (by rw [hx, hrt]) (by rw [hA]; simp) (by rw [hI]; simp) with ⟨e1, e2⟩ | hc
        · simp only at e2
          rw [e2] at hr
          rcases grown_sound old ho q (X.drop (split n)) (m - split n) (n - split n) false a' (by rw [List.length_drop]; omega) (by omega) (by omega) hXd hq' hr with e | hc
          · refine .inl ?_
            rw [← hj1, take_many hn (by omega) (by omega) hm, ← e, e1]
          · refine .inr (hc.mono fun y hy => ?_)
            rw [hA, hI]
            simp only [List.mem_append] at hy ⊢
            rcases hy with hy | hy
            · exact .inl (.inl (.inr hy))
            · exact .inr (.inl hy)
        · exact .inr hc
/-- A growth proves itself. -/
theorem grown_whole (old : B) : ∀ (N : Nat) (X : List B) (m n : Nat) (known : Bool), n ≤ N → X.length = n → 0 < m → m ≤ n → (known = true → old = root (X.take m)) → both old (growth X m known).reverse m n known = some (root (X.take m), root X)
  | 0, X, m, n, known, hN, hn, h0, hm, _ => by omega
  | N + 1, X, m, n, known, hN, hn, h0, hm, ho => by
    by_cases hmn : m = n
    · subst hmn
      subst hn
      rw [growth_all]
      cases known with
      | true =>
        have := ho rfl
        rw [List.take_of_length_le (by omega)] at this ⊢
        rw [this]
        simp [both]
      | false =>
        rw [List.take_of_length_le (by omega)]
        simp [both]
    · have h2 : 2 ≤ X.length := by omega
      have hk1 := split_lt h2
      have hk0 := split_pos X.length
      have hR := root_many h2
      rw [hn] at hk1 hk0 hR
      by_cases hmk : m ≤ split n
      · have := grown_whole old N (X.take (split n)) m (split n) known (by omega) (by rw [List.length_take]; omega) h0 hmk (fun hkn => by rw [ho hkn, List.take_take, Nat.min_eq_left hmk])
        rw [growth_left h2 (by rw [hn]; exact hmk), hn, List.reverse_append, List.reverse_singleton, List.singleton_append]
        unfold both
        rw [if_neg hmn, if_pos hmk, this, hR]
        have e : (X.take (split n)).take m = X.take m := by rw [List.take_take]; congr 1; omega
        rw [e]
        rfl
      · have := grown_whole old N (X.drop (split n)) (m - split n) (n - split n) false (by omega) (by rw [List.length_drop]; omega) (by omega) (by omega) (fun hkn => by cases hkn)
        rw [growth_right h2 (by omega) (by rw [hn]; exact hmk), hn, List.reverse_append, List.reverse_singleton, List.singleton_append]
        unfold both
        rw [if_neg hmn, if_neg hmk, this, hR, take_many hn (by omega) (by omega) hm]
        rfl
theorem growth_len32 : ∀ (N : Nat) (X : List B) (m : Nat) (known : Bool), X.length ≤ N → (∀ x ∈ X, x.length = 32) → ∀ y ∈ growth X m known, y.length = 32
  | N, X, m, known, h, hX, y, hy => by
    by_cases hm : m = X.length
    · subst hm
      rw [growth_all] at hy
      cases known with
      | true => cases hy
      | false =>
        obtain rfl := List.mem_singleton.1 hy
        exact root_len32 hX
    · by_cases h2 : 2 ≤ X.length
      · have h1 := split_lt h2
        have h0 := split_pos X.length
        have hXt : ∀ x ∈ X.take (split X.length), x.length = 32 := fun x hx => hX x (List.mem_of_mem_take hx)
        have hXd : ∀ x ∈ X.drop (split X.length), x.length = 32 := fun x hx => hX x (List.mem_of_mem_drop hx)
        match N, h with
        | 0, h => omega
        | N + 1, h =>
          by_cases hmk : m ≤ split X.length
          · rw [growth_left h2 hmk] at hy
            simp only [List.mem_append, List.mem_singleton] at hy
            rcases hy with hy | rfl
            · exact growth_len32 N _ m known (by rw [List.length_take]; omega) hXt y hy
            · exact root_len32 hXd
          · rw [growth_right h2 hm hmk] at hy
            simp only [List.mem_append, List.mem_singleton] at hy
            rcases hy with hy | rfl
            · exact growth_len32 N _ _ false (by rw [List.length_drop]; omega) hXd y hy
            · exact root_len32 hXt
      · rw [growth, if_neg hm, dif_neg h2] at hy
        cases hy
theorem growth_deep : ∀ (d : Nat) (X : List B) (m : Nat) (known : Bool), X.length ≤ 2 ^ d → (growth X m known).length ≤ d + 1
  | d, X, m, known, h => by
    by_cases hm : m = X.length
    · subst hm
      rw [growth_all]
      cases known <;> simp
    · by_cases h2 : 2 ≤ X.length
      · have h1 := split_lt h2
        have h3 := split_ge h2
        match d, h with
        | 0, h => omega
        | d + 1, h =>
          have hk : split X.length ≤ 2 ^ d := by
            have : (X.length - 1).log2 ≤ d := by
              have h3 : X.length - 1 < 2 ^ (d + 1) := by omega
              have := (Nat.log2_lt (n := X.length - 1) (by omega)).2 h3
              omega
            exact Nat.pow_le_pow_right (by omega) this
          by_cases hmk : m ≤ split X.length
          · rw [growth_left h2 hmk, List.length_append]
            have := growth_deep d (X.take (split X.length)) m known (by rw [List.length_take]; omega)
            simp; omega
          · rw [growth_right h2 hm hmk, List.length_append]
            have := growth_deep d (X.drop (split X.length)) (m - split X.length) false (by rw [List.length_drop]; omega)
            simp; omega
      · rw [growth, if_neg hm, dif_neg h2]
        simp
end Mk
end Go.Proofs.YteiabaddmclmlaaDoor
