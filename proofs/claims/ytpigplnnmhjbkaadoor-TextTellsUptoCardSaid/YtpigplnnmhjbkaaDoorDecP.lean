/-
  Decimal numbers: the plain part.
-/
import Derived.Test.YtpigplnnmhjbkaaDoorNum
import Derived.Lib.ItoaNum
namespace Go.Proofs.YtpigplnnmhjbkaaDoor
open Go
namespace Tx
theorem digit_nat (d : Nat) (h : d < 10) : (UInt8.ofNat (48 + d)).toNat = 48 + d := by simp [UInt8.toNat_ofNat']; omega
theorem dec_dig (u : Nat) : (Lib.decDigits u).all isDig = true := by
  induction u using Nat.strongRecOn with
  | _ u ih =>
    rw [Lib.decDigits]
    by_cases h : u < 10
    · rw [dif_pos h]; simp only [List.all_cons, List.all_nil, Bool.and_true, isDig, digit_nat u h, Bool.and_eq_true, decide_eq_true_eq]; omega
    · rw [dif_neg h, List.all_append, ih (u / 10) (by omega)]
      simp only [List.all_cons, List.all_nil, Bool.and_true, isDig, digit_nat (u % 10) (by omega), Bool.true_and, Bool.and_eq_true, decide_eq_true_eq]; omega
theorem dec_val (u : Nat) : val (Lib.decDigits u) = u := by
  induction u using Nat.strongRecOn with
  | _ u ih =>
    rw [Lib.decDigits]
    by_cases h : u < 10
    · rw [dif_pos h]; show 10 * 0 + ((UInt8.ofNat (48 + u)).toNat - 48) = u; rw [digit_nat u h]; omega
    · rw [dif_neg h, val_snoc, ih (u / 10) (by omega), digit_nat (u % 10) (by omega)]; omega
theorem dec_len_le (k : Nat) : ∀ u : Nat, u < 10 ^ (k + 1) → (Lib.decDigits u).length ≤ k + 1 := by
  induction k with
  | zero => intro u h; rw [Lib.decDigits, dif_pos (by simpa using h)]; simp
  | succ k ih =>
    intro u h
    rw [Lib.decDigits]
    by_cases h10 : u < 10
    · rw [dif_pos h10]; simp
    · rw [dif_neg h10, List.length_append]
      have := ih (u / 10) (by rw [Nat.pow_succ] at h; omega)
      simp; omega
theorem dec_len_gt (u : Nat) : u < 10 ^ (Lib.decDigits u).length := by rw [Lib.decDigits_length]; exact Lib.lt_pow_nDigits u
theorem dec_len_pos (u : Nat) : 1 ≤ (Lib.decDigits u).length := by rw [Lib.decDigits_length]; exact Lib.nDigits_pos u
theorem dec_inj {u v : Nat} (h : Lib.decDigits u = Lib.decDigits v) : u = v := by
  have := congrArg val h
  rwa [dec_val, dec_val] at this
theorem dec_no_minus (u : Nat) (r : List UInt8) : Lib.decDigits u ≠ 45 :: r := by
  intro h
  have := dec_dig u
  rw [h, List.all_cons, Bool.and_eq_true] at this
  have h1 := this.1
  revert h1; decide
theorem itoa_inj {n m : Int} (h : Lib.itoa n = Lib.itoa m) : n = m := by
  unfold Lib.itoa at h
  by_cases hn : n < 0
  · rw [if_pos hn] at h
    by_cases hm : m < 0
    · rw [if_pos hm] at h
      injection h with _ h
      have := dec_inj h
      omega
    · rw [if_neg hm] at h
      exact absurd h.symm (dec_no_minus _ _)
  · rw [if_neg hn] at h
    by_cases hm : m < 0
    · rw [if_pos hm] at h
      exact absurd h (dec_no_minus _ _)
    · rw [if_neg hm] at h
      have := dec_inj h
      omega
/-- What Number says of the numeral of n, with zeros in front. -/
theorem val_zeros (z : Nat) (l : List UInt8) : val (List.replicate z 48 ++ l) = val l := by
  induction z with
  | zero => simp
  | succ z ih =>
    rw [List.replicate_succ, List.cons_append]
    show List.foldl _ (10 * 0 + ((48 : UInt8).toNat - 48)) _ = _
    exact ih
theorem dig_zeros (z : Nat) : (List.replicate z (48 : UInt8)).all isDig = true := by
  rw [List.all_eq_true]
  intro c hc
  rw [(List.mem_replicate.1 hc).2]; rfl
theorem num_good (n : Int) (z : Nat) (h0 : 0 ≤ n) :
    numOk (List.replicate z 48 ++ Lib.itoa n) = decide ((List.replicate z (48 : UInt8) ++ Lib.itoa n).length ≤ 15) ∧ (numOk (List.replicate z 48 ++ Lib.itoa n) = true → ((numVal (List.replicate z 48 ++ Lib.itoa n) : Nat) : Int) = n) := by
  have e : Lib.itoa n = Lib.decDigits n.toNat := by unfold Lib.itoa; rw [if_neg (by omega)]
  have hl := dec_len_pos n.toNat
  have hok : numOk (List.replicate z 48 ++ Lib.itoa n) = decide ((List.replicate z (48 : UInt8) ++ Lib.itoa n).length ≤ 15) := by
    unfold numOk
    rw [e, List.all_append, dig_zeros, dec_dig]
    have : 1 ≤ (List.replicate z (48 : UInt8) ++ Lib.decDigits n.toNat).length := by rw [List.length_append]; omega
    simp only [this, decide_true, Bool.true_and, Bool.and_true]
  refine ⟨hok, fun h => ?_⟩
  unfold numVal
  rw [if_pos h, val_zeros, e, dec_val]
  omega
theorem num_itoa (n : Int) : numOk (Lib.itoa n) = (decide (0 ≤ n) && decide (n ≤ 999999999999999)) := by
  by_cases h0 : 0 ≤ n
  · have h1 := (num_good n 0 h0).1
    rw [List.replicate_zero, List.nil_append] at h1
    rw [h1]
    have e : Lib.itoa n = Lib.decDigits n.toNat := by unfold Lib.itoa; rw [if_neg (by omega)]
    rw [e]
    have hd : decide (0 ≤ n) = true := decide_eq_true h0
    rw [hd, Bool.true_and]
    by_cases h15 : n ≤ 999999999999999
    · have := dec_len_le 14 n.toNat (by have : (10 : Nat) ^ 15 = 1000000000000000 := by decide
                                        omega)
      rw [decide_eq_true h15]; exact decide_eq_true (by omega)
    · rw [decide_eq_false h15]
      refine decide_eq_false (fun hle => ?_)
      have h2 := dec_len_gt n.toNat
      have h3 : (10 : Nat) ^ (Lib.decDigits n.toNat).length ≤ 10 ^ 15 := Nat.pow_le_pow_right (by omega) hle
      have : (10 : Nat) ^ 15 = 1000000000000000 := by decide
      omega
  · rw [decide_eq_false h0, Bool.false_and]
    have e : Lib.itoa n = 45 :: Lib.decDigits n.natAbs := by unfold Lib.itoa; rw [if_pos (by omega)]
    refine numOk_no _ 0 45 (by rw [e]; rfl) (by decide)
theorem itoa_len (n : Int) (h1 : -9223372036854775808 ≤ n) (h2 : n ≤ 9223372036854775807) : (Lib.itoa n).length ≤ 21 := by
  unfold Lib.itoa
  split
  · have := dec_len_le 19 n.natAbs (by have : (10 : Nat) ^ 20 = 100000000000000000000 := by decide
                                       omega)
    simp; omega
  · have := dec_len_le 19 n.toNat (by have : (10 : Nat) ^ 20 = 100000000000000000000 := by decide
                                      omega)
    omega
end Tx
end Go.Proofs.YtpigplnnmhjbkaaDoor
