/-
  The plain part of layer 2: encodings as lists of bytes, and what reading takes from the front of a list.
-/
import Derived.Lib.ItoaNum
import Derived.Lib.AtoiTie
namespace Go.Proofs.YthknahghmlfegaaDoor
open Go
namespace Wr
def i64 (n : Int) : Prop := -9223372036854775808 ≤ n ∧ n ≤ 9223372036854775807
def isDig (c : UInt8) : Bool := decide (48 ≤ c.toNat) && decide (c.toNat ≤ 57)
def val (acc : Nat) (l : List UInt8) : Nat := l.foldl (fun a c => 10 * a + (c.toNat - 48)) acc
theorem val_cons (acc : Nat) (c : UInt8) (r : List UInt8) : val acc (c :: r) = val (10 * acc + (c.toNat - 48)) r := by unfold val; rw [List.foldl_cons]
theorem val_nil (acc : Nat) : val acc [] = acc := rfl
theorem val_snoc (acc : Nat) (l : List UInt8) (c : UInt8) : val acc (l ++ [c]) = 10 * val acc l + (c.toNat - 48) := by unfold val; rw [List.foldl_append]; rfl
theorem val_ge : ∀ (l : List UInt8) (acc : Nat), acc ≤ val acc l
  | [], acc => Nat.le_refl _
  | c :: r, acc => by rw [val_cons]; have := val_ge r (10 * acc + (c.toNat - 48)); omega
theorem parse_ok : ∀ (l : List UInt8) (acc : Nat), l.all isDig = true → val acc l < 18446744073709551616 → Lib.parseUint10 acc l = .ok (val acc l)
  | [], acc, _, _ => rfl
  | c :: r, acc, hd, hv => by
    rw [List.all_cons, Bool.and_eq_true] at hd
    have hc := hd.1
    unfold isDig at hc
    rw [Bool.and_eq_true, decide_eq_true_eq, decide_eq_true_eq] at hc
    rw [val_cons] at hv ⊢
    have hg := val_ge r (10 * acc + (c.toNat - 48))
    rw [Lib.parseUint10, if_pos hc, if_neg (by omega), if_neg (by omega)]
    have e : acc * 10 + (c.toNat - 48) = 10 * acc + (c.toNat - 48) := by omega
    rw [e]
    exact parse_ok r _ hd.2 hv
theorem digit_nat (d : Nat) (h : d < 10) : (UInt8.ofNat (48 + d)).toNat = 48 + d := by simp [UInt8.toNat_ofNat']; omega
theorem dec_dig (u : Nat) : (Lib.decDigits u).all isDig = true := by
  induction u using Nat.strongRecOn with
  | _ u ih =>
    rw [Lib.decDigits]
    by_cases h : u < 10
    · rw [dif_pos h]; simp only [List.all_cons, List.all_nil, Bool.and_true, isDig, digit_nat u h, Bool.and_eq_true, decide_eq_true_eq]; omega
    · rw [dif_neg h, List.all_append, ih (u / 10) (by omega)]
      simp only [List.all_cons, List.all_nil, Bool.and_true, isDig, digit_nat (u % 10) (by omega), Bool.true_and, Bool.and_eq_true, decide_eq_true_eq]; omega
theorem dec_val (u : Nat) : val 0 (Lib.decDigits u) = u := by
  induction u using Nat.strongRecOn with
  | _ u ih =>
    rw [Lib.decDigits]
    by_cases h : u < 10
    · rw [dif_pos h]; show 10 * 0 + ((UInt8.ofNat (48 + u)).toNat - 48) = u; rw [digit_nat u h]; omega
    · rw [dif_neg h, val_snoc, ih (u / 10) (by omega), digit_nat (u % 10) (by omega)]; omega
theorem dec_len_le (k : Nat) : ∀ u : Nat, u < 10 ^ (k + 1) → (Lib.decDigits u).length ≤ k + 1 := by
  induction k with
  | zero => intro u h; rw [Lib.decDigits, dif_pos (by simpa using h)]; simp
  | succ k ih =>
    intro u h
    rw [Lib.decDigits]
    by_cases h10 : u < 10
    · rw [dif_pos h10]; simp
    · rw [dif_neg h10, List.length_append]
      have := ih (u / 10) (by rw [Nat.pow_succ] at h; omega)
      simp; omega
theorem dec_ne (u : Nat) : Lib.decDigits u ≠ [] := by
  intro h
  have := Lib.decDigits_length u
  have h1 := Lib.nDigits_pos u
  rw [h] at this
  simp at this
  omega
theorem dec_inj {u v : Nat} (h : Lib.decDigits u = Lib.decDigits v) : u = v := by
  have := congrArg (val 0) h
  rwa [dec_val, dec_val] at this
theorem itoa_len {n : Int} (h : i64 n) : (Lib.itoa n).length ≤ 20 := by
  unfold i64 at h
  unfold Lib.itoa
  split
  · have := dec_len_le 18 n.natAbs (by have : (10 : Nat) ^ 19 = 10000000000000000000 := by decide
                                       omega)
    simp; omega
  · have := dec_len_le 18 n.toNat (by have : (10 : Nat) ^ 19 = 10000000000000000000 := by decide
                                      omega)
    omega
/-- A byte that ends a numeral: it occurs in none. -/
def isEnd (e : UInt8) : Bool := !isDig e && e != 45
theorem itoa_end {e : UInt8} (he : isEnd e = true) (n : Int) : e ∉ Lib.itoa n := by
  unfold isEnd at he
  rw [Bool.and_eq_true] at he
  have hd : ∀ u, e ∉ Lib.decDigits u := fun u hm => by
    have := List.all_eq_true.1 (dec_dig u) e hm
    simp [this] at he
  unfold Lib.itoa
  split
  · intro hm
    rcases List.mem_cons.1 hm with rfl | hm
    · simp at he
    · exact hd _ hm
  · exact hd _
theorem parse_mag (u : Nat) (h : u < 18446744073709551616) : Lib.parseMag (Lib.decDigits u) = .ok u := by
  unfold Lib.parseMag
  rw [if_neg (dec_ne u), parse_ok _ 0 (dec_dig u) (by rw [dec_val]; exact h), dec_val]
theorem atoi_itoa {n : Int} (h : i64 n) : Lib.atoiAll (Lib.itoa n) = .ok n := by
  unfold i64 at h
  by_cases hn : n < 0
  · have e : Lib.itoa n = 45 :: Lib.decDigits n.natAbs := by unfold Lib.itoa; rw [if_pos hn]
    rw [e]
    unfold Lib.atoiAll
    have e45 : (45 : UInt8).toNat = 45 := rfl
    simp only [e45, or_true, if_true, parse_mag n.natAbs (by omega)]
    rw [if_neg (by simp), if_neg (by omega)]
    congr 1
    omega
  · have e : Lib.itoa n = Lib.decDigits n.toNat := by unfold Lib.itoa; rw [if_neg hn]
    rw [e]
    obtain ⟨c, r, hc⟩ : ∃ c r, Lib.decDigits n.toNat = c :: r := by
      cases hd : Lib.decDigits n.toNat with
      | nil => exact absurd hd (dec_ne _)
      | cons c r => exact ⟨c, r, rfl⟩
    have hdig := dec_dig n.toNat
    have hm := parse_mag n.toNat (by omega)
    rw [hc] at hdig hm ⊢
    rw [List.all_cons, Bool.and_eq_true] at hdig
    have h1 := hdig.1
    unfold isDig at h1
    rw [Bool.and_eq_true, decide_eq_true_eq, decide_eq_true_eq] at h1
    unfold Lib.atoiAll
    have h43 : ¬ (c.toNat = 43 ∨ c.toNat = 45) := by omega
    have h45 : ¬ c.toNat = 45 := by omega
    simp only [h43, if_false, hm]
    rw [if_neg (by omega), if_neg (by omega), if_neg h45]
    congr 1
    omega
theorem itoa_inj {n m : Int} (hn : i64 n) (hm : i64 m) (h : Lib.itoa n = Lib.itoa m) : n = m := by
  have h1 := atoi_itoa hn
  rw [h, atoi_itoa hm] at h1
  injection h1 with h1
  exact h1.symm
/-- The int whose canonical numeral a string is. -/
def unItoa (d : List UInt8) : Option Int := match Lib.atoiAll d with | .ok v => if Lib.itoa v = d then some v else none | _ => none
theorem unItoa_itoa {n : Int} (h : i64 n) : unItoa (Lib.itoa n) = some n := by unfold unItoa; rw [atoi_itoa h]; simp
theorem unItoa_some {d : List UInt8} {n : Int} (h : unItoa d = some n) : d = Lib.itoa n ∧ i64 n := by
  unfold unItoa at h
  split at h
  · rename_i v hv
    split at h
    · rename_i e
      injection h with h
      subst h
      exact ⟨e.symm, Lib.atoiAll_bounds hv⟩
    · cases h
  · cases h
/-- What stands ahead of the first byte e. -/
def upTo (e : UInt8) (l : List UInt8) : List UInt8 := l.takeWhile (· != e)
theorem upTo_at {e : UInt8} {a : List UInt8} (b : List UInt8) (h : e ∉ a) : upTo e (a ++ e :: b) = a := by
  unfold upTo
  rw [List.takeWhile_append_of_pos (fun x hx => by simp; rintro rfl; exact h hx)]
  simp
theorem upTo_no {e : UInt8} {l : List UInt8} (h : e ∉ l) : upTo e l = l := by
  unfold upTo
  have := List.takeWhile_append_of_pos (p := (· != e)) (l₁ := l) (l₂ := []) (fun x hx => by simp; rintro rfl; exact h hx)
  simpa using this
/-- Reading an int and the byte behind it. -/
def takeInt (e : UInt8) (l : List UInt8) : Option (Int × List UInt8) :=
  if e ∈ l.take 21 then (unItoa (upTo e (l.take 21))).map (fun n => (n, l.drop ((upTo e (l.take 21)).length + 1))) else none
theorem takeInt_enc {e : UInt8} (he : isEnd e = true) {n : Int} (h : i64 n) (r : List UInt8) : takeInt e (Lib.itoa n ++ e :: r) = some (n, r) := by
  have hl := itoa_len h
  have ht : (Lib.itoa n ++ e :: r).take 21 = Lib.itoa n ++ e :: r.take (20 - (Lib.itoa n).length) := by
    rw [List.take_append, List.take_of_length_le (by omega)]
    congr 1
    obtain ⟨k, hk⟩ : ∃ k, 21 - (Lib.itoa n).length = k + 1 := ⟨20 - (Lib.itoa n).length, by omega⟩
    rw [hk, List.take_succ_cons]
    congr 2
    omega
  unfold takeInt
  rw [ht, if_pos (by simp), upTo_at _ (itoa_end he n), unItoa_itoa h]
  simp
theorem takeInt_some {e : UInt8} {l r : List UInt8} {n : Int} (h : takeInt e l = some (n, r)) : l = Lib.itoa n ++ e :: r ∧ i64 n := by
  unfold takeInt at h
  split at h
  · rename_i hm
    obtain ⟨m, hu, hp⟩ := Option.map_eq_some_iff.1 h
    injection hp with h1 h2
    subst h1
    obtain ⟨hd, hi⟩ := unItoa_some hu
    refine ⟨?_, hi⟩
    obtain ⟨a, b, hab, ha⟩ := List.eq_append_cons_of_mem hm
    have hua : upTo e (l.take 21) = a := by rw [hab]; exact upTo_at _ ha
    rw [hua] at hd h2
    subst hd
    have hl : l = (Lib.itoa m ++ e :: b) ++ l.drop 21 := by rw [← hab, List.take_append_drop]
    rw [← h2]
    have h3 : l.drop ((Lib.itoa m).length + 1) = b ++ l.drop 21 := by
      conv => lhs; rw [hl]
      rw [List.append_assoc, List.drop_append]
      simp
    rw [h3]
    conv => lhs; rw [hl]
    simp
  · cases h
theorem takeInt_nil (e : UInt8) : takeInt e [] = none := by unfold takeInt; simp
/-- Reading an int that is not negative. -/
def takeNum (e : UInt8) (l : List UInt8) : Option (Int × List UInt8) := match takeInt e l with | some (n, r) => if n < 0 then none else some (n, r) | none => none
theorem takeNum_enc {e : UInt8} (he : isEnd e = true) {n : Int} (h : i64 n) (h0 : 0 ≤ n) (r : List UInt8) : takeNum e (Lib.itoa n ++ e :: r) = some (n, r) := by
  unfold takeNum; rw [takeInt_enc he h r]; simp; omega
theorem takeNum_some {e : UInt8} {l r : List UInt8} {n : Int} (h : takeNum e l = some (n, r)) : l = Lib.itoa n ++ e :: r ∧ i64 n ∧ 0 ≤ n := by
  unfold takeNum at h
  split at h
  · rename_i m r' hm
    split at h
    · cases h
    · injection h with h
      injection h with h1 h2
      subst h1; subst h2
      exact ⟨(takeInt_some hm).1, (takeInt_some hm).2, by omega⟩
  · cases h
/-- Reading a byte. -/
def skip (e : UInt8) (l : List UInt8) : Option (List UInt8) := match l with | c :: r => if c = e then some r else none | [] => none
theorem skip_some {e : UInt8} {l r : List UInt8} (h : skip e l = some r) : l = e :: r := by
  cases l with
  | nil => cases h
  | cons c t =>
    unfold skip at h
    simp only at h
    split at h
    · rename_i hc
      injection h with h
      rw [hc, h]
    · cases h
theorem skip_cons (e : UInt8) (r : List UInt8) : skip e (e :: r) = some r := by simp [skip]
/-- Reading a string. -/
def takeText (l : List UInt8) : Option (List UInt8 × List UInt8) :=
  match takeNum 58 l with
  | some (n, r) => if r.length < n.toNat then none else (skip 44 (r.drop n.toNat)).map (fun t => (r.take n.toNat, t))
  | none => none
def encInt (n : Int) : List UInt8 := Lib.itoa n ++ [59]
def encNum (n : Int) : List UInt8 := if n < 0 then [] else encInt n
def encText (s : List UInt8) : List UInt8 := Lib.itoa s.length ++ 58 :: (s ++ [44])
def encList {α : Type} (enc : α → List UInt8) (l : List α) : List UInt8 := Lib.itoa l.length ++ 91 :: ((l.map enc).flatten ++ [93])
theorem i64_nat {n : Nat} (h : n ≤ 9223372036854775807) : i64 (n : Int) := by unfold i64; omega
theorem takeText_enc {s : List UInt8} (hs : s.length ≤ 9223372036854775807) (r : List UInt8) : takeText (encText s ++ r) = some (s, r) := by
  unfold takeText encText
  rw [List.append_assoc, List.cons_append, takeNum_enc (by decide) (i64_nat hs) (by omega)]
  simp [skip_cons]
theorem takeText_some {l s r : List UInt8} (h : takeText l = some (s, r)) : l = encText s ++ r ∧ s.length ≤ 9223372036854775807 := by
  unfold takeText at h
  split at h
  · rename_i n t hn
    split at h
    · cases h
    · rename_i hlt
      obtain ⟨u, hu, hp⟩ := Option.map_eq_some_iff.1 h
      injection hp with h1 h2
      subst h2
      obtain ⟨h3, h4, h5⟩ := takeNum_some hn
      have h6 := skip_some hu
      have h7 : s.length = n.toNat := by rw [← h1, List.length_take]; omega
      refine ⟨?_, by unfold i64 at h4; omega⟩
      rw [h3]
      unfold encText
      have h8 : t = s ++ 44 :: u := by rw [← h1, ← h6, List.take_append_drop]
      have h9 : ((s.length : Nat) : Int) = n := by omega
      rw [h8, h9]
      simp
  · cases h
/-- Reading n elements. -/
def takeMany {α : Type} (f : List UInt8 → Option (α × List UInt8)) : Nat → List UInt8 → Option (List α × List UInt8)
  | 0, l => some ([], l)
  | k + 1, l => match f l with
    | some (x, r) => (takeMany f k r).map (fun p => (x :: p.1, p.2))
    | none => none
/-- Reading a list. -/
def takeList {α : Type} (f : List UInt8 → Option (α × List UInt8)) (l : List UInt8) : Option (List α × List UInt8) :=
  match takeNum 91 l with
  | some (n, r) => match takeMany f n.toNat r with
    | some (xs, t) => (skip 93 t).map (fun u => (xs, u))
    | none => none
  | none => none
theorem takeMany_enc {α : Type} {f : List UInt8 → Option (α × List UInt8)} {enc : α → List UInt8} : ∀ (xs : List α) (r : List UInt8), (∀ x ∈ xs, ∀ r, f (enc x ++ r) = some (x, r)) → takeMany f xs.length ((xs.map enc).flatten ++ r) = some (xs, r)
  | [], r, _ => rfl
  | x :: xs, r, h => by
    have e : ((x :: xs).map enc).flatten ++ r = enc x ++ ((xs.map enc).flatten ++ r) := by simp
    rw [e, List.length_cons, takeMany, h x (by simp)]
    simp only [takeMany_enc xs r (fun y hy => h y (by simp [hy])), Option.map_some]
theorem takeMany_some {α : Type} {f : List UInt8 → Option (α × List UInt8)} {enc : α → List UInt8} (hf : ∀ l x r, f l = some (x, r) → l = enc x ++ r) : ∀ (n : Nat) (l r : List UInt8) (xs : List α), takeMany f n l = some (xs, r) → l = (xs.map enc).flatten ++ r ∧ xs.length = n
  | 0, l, r, xs, h => by
    rw [takeMany] at h
    injection h with h
    injection h with h1 h2
    subst h1; subst h2
    exact ⟨rfl, rfl⟩
  | k + 1, l, r, xs, h => by
    rw [takeMany] at h
    split at h
    · rename_i x t hx
      obtain ⟨p, hp, he⟩ := Option.map_eq_some_iff.1 h
      injection he with h1 h2
      obtain ⟨h3, h4⟩ := takeMany_some hf k t p.2 p.1 hp
      subst h1; subst h2
      refine ⟨?_, by rw [List.length_cons, h4]⟩
      rw [hf _ _ _ hx, h3]
      simp
    · cases h
theorem takeList_enc {α : Type} {f : List UInt8 → Option (α × List UInt8)} {enc : α → List UInt8} {xs : List α} (hl : xs.length ≤ 9223372036854775807) (h : ∀ x ∈ xs, ∀ r, f (enc x ++ r) = some (x, r)) (r : List UInt8) : takeList f (encList enc xs ++ r) = some (xs, r) := by
  unfold takeList encList
  rw [List.append_assoc, List.cons_append, takeNum_enc (by decide) (i64_nat hl) (by omega)]
  rw [List.append_assoc]
  show (match takeMany f ((xs.length : Int)).toNat _ with | some (xs, t) => _ | none => none) = _
  rw [Int.toNat_natCast, takeMany_enc xs _ h]
  simp [skip_cons]
theorem takeList_some {α : Type} {f : List UInt8 → Option (α × List UInt8)} {enc : α → List UInt8} (hf : ∀ l x r, f l = some (x, r) → l = enc x ++ r) {l r : List UInt8} {xs : List α} (h : takeList f l = some (xs, r)) : l = encList enc xs ++ r ∧ xs.length ≤ 9223372036854775807 := by
  unfold takeList at h
  split at h
  · rename_i n t hn
    split at h
    · rename_i ys u hy
      obtain ⟨v, hv, hp⟩ := Option.map_eq_some_iff.1 h
      injection hp with h1 h2
      subst h1; subst h2
      obtain ⟨h3, h4, h5⟩ := takeNum_some hn
      obtain ⟨h6, h7⟩ := takeMany_some hf _ _ _ _ hy
      have h8 := skip_some hv
      unfold i64 at h4
      refine ⟨?_, by omega⟩
      unfold encList
      have h9 : ((ys.length : Nat) : Int) = n := by omega
      rw [h3, h6, h8, h9]
      simp
    · cases h
  · cases h
theorem takeInt_nums {n : Int} (h : i64 n) (r : List UInt8) : takeInt 59 (encInt n ++ r) = some (n, r) := by
  unfold encInt; rw [List.append_assoc]; exact takeInt_enc (by decide) h r
theorem nums_takeInt (l : List UInt8) (n : Int) (r : List UInt8) (h : takeInt 59 l = some (n, r)) : l = encInt n ++ r := by
  unfold encInt; rw [List.append_assoc]; exact (takeInt_some h).1
theorem texts_takeText (l s r : List UInt8) (h : takeText l = some (s, r)) : l = encText s ++ r := (takeText_some h).1
end Wr
end Go.Proofs.YthknahghmlfegaaDoor
