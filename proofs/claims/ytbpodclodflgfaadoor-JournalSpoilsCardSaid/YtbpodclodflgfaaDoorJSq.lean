/-
  The plain part of JournalSpoils: a byte that is changed makes the file malformed.
-/
import Derived.Test.YtbpodclodflgfaaDoorJLs
import Derived.Test.YtbpodclodflgfaaDoorJFo
namespace Go.Proofs.YtbpodclodflgfaaDoor
open Go Go.RowKit
namespace Dg
theorem xor_right {a b c : W32} (h : a ^^^ c = b ^^^ c) : a = b := by
  have := congrArg (· ^^^ c) h
  simpa [BitVec.xor_assoc] using this
theorem crcReg_inj : ∀ (l : List UInt8) (r r' : W32), crcReg r l = crcReg r' l → r = r'
  | [], r, r', h => h
  | c :: l, r, r', h => xor_right (crcN_inj (crcReg_inj l _ _ h))
theorem w8_inj {a b : UInt8} (h : w8 a = w8 b) : a = b := by
  have := congrArg BitVec.toNat h
  rw [w8_nat, w8_nat] at this
  exact UInt8.toNat_inj.1 this
theorem crc_set (l : List UInt8) (i : Nat) (n : UInt8) (hi : i < l.length) (hn : l[i]? ≠ some n) : crc (l.set i n) ≠ crc l := fun h => by
  have e1 : l = l.take i ++ l[i] :: l.drop (i + 1) := by rw [List.getElem_cons_drop, List.take_append_drop]
  have e2 : l.set i n = l.take i ++ n :: l.drop (i + 1) := List.set_eq_take_append_cons_drop.trans (if_pos hi)
  rw [e2] at h
  conv at h => rhs; rw [e1]
  unfold crc at h
  have h2 : crcReg 4294967295 (l.take i ++ n :: l.drop (i + 1)) = crcReg 4294967295 (l.take i ++ l[i] :: l.drop (i + 1)) := by
    rw [not_xor, not_xor] at h
    exact xor_right h
  rw [crcReg_append, crcReg_append] at h2
  have h2' : crcReg (crcByte (crcReg 4294967295 (l.take i)) n) (l.drop (i + 1)) = crcReg (crcByte (crcReg 4294967295 (l.take i)) l[i]) (l.drop (i + 1)) := h2
  have h3 := crcReg_inj _ _ _ h2'
  unfold crcByte at h3
  have h4 := crcN_inj h3
  have h5 : w8 n = w8 l[i] := by
    rw [BitVec.xor_comm _ (w8 n), BitVec.xor_comm _ (w8 l[i])] at h4
    exact xor_right h4
  exact hn (by rw [w8_inj h5, List.getElem?_eq_getElem hi])
end Dg
namespace Jn
theorem valN_inj {s t : B} : ∀ j, valN s j = valN t j → ∀ i, i < j → s.getD i 0 = t.getD i 0
  | 0, _, i, hi => absurd hi (by omega)
  | j + 1, h, i, hi => by
    unfold valN at h
    have h1 := valN_lt s j
    have h2 := valN_lt t j
    have hp : 0 < 2 ^ (8 * j) := Nat.pow_pos (by decide)
    have hd := congrArg (· / 2 ^ (8 * j)) h
    have hm := congrArg (· % 2 ^ (8 * j)) h
    simp only [Nat.add_mul_div_right _ _ hp, Nat.div_eq_of_lt h1, Nat.div_eq_of_lt h2, Nat.zero_add] at hd
    simp only [Nat.add_mul_mod_self_right, Nat.mod_eq_of_lt h1, Nat.mod_eq_of_lt h2] at hm
    by_cases hij : i = j
    · subst hij
      exact UInt8.toNat_inj.1 hd
    · exact valN_inj j hm i (by omega)
theorem val_inj {s t : B} (h : val s = val t) : ∀ i, i < 8 → s.getD i 0 = t.getD i 0 := by
  refine valN_inj 8 ?_
  have h1 := valN_lt s 8
  have h2 := valN_lt t 8
  unfold val wrap64 at h
  omega
theorem val_ne {s t : B} {i : Nat} (hi : i < 8) (h : s.getD i 0 ≠ t.getD i 0) : val s ≠ val t := fun e => h (val_inj e i hi)
theorem getD_set {l : B} {i : Nat} {n : UInt8} (hi : i < l.length) (r : B) : (l.set i n ++ r).getD i 0 = n := by
  rw [List.getD_eq_getElem?_getD, List.getElem?_append_left (by rw [List.length_set]; exact hi), List.getElem?_set_self hi]
  rfl
theorem getD_app {l : B} {i : Nat} (hi : i < l.length) (r : B) : (l ++ r).getD i 0 = l[i] := by
  rw [List.getD_eq_getElem?_getD, List.getElem?_append_left hi, List.getElem?_eq_getElem hi]
  rfl
theorem num_ne {m : Int} {i : Nat} {n : UInt8} (hi : i < 8) (h : (num m)[i]? ≠ some n) (h0 : -9223372036854775808 ≤ m) (h1 : m ≤ 9223372036854775807) (r : B) : val ((num m).set i n ++ r) ≠ m := by
  have hl : i < (num m).length := by rw [num_length]; exact hi
  have := val_ne (s := (num m).set i n ++ r) (t := num m ++ r) hi (by
    rw [getD_set hl, getD_app hl]
    exact fun e => h (by rw [e, List.getElem?_eq_getElem hl]))
  rwa [val_num m h0 h1] at this
theorem crc_range (r : B) : -9223372036854775808 ≤ crc r ∧ crc r ≤ 9223372036854775807 := by
  have hc : crc r = ((Dg.crc r).toNat : Int) := rfl
  have hc2 := (Dg.crc r).isLt
  omega
/-- firstRow of three parts. -/
theorem first_parts (m : Int) (c r t : B) (hc : c.length = 8) (hm : m = (r.length : Int)) (hr : r.length ≤ 16777216) : firstRow (num m ++ (c ++ (r ++ t))) = if val (c ++ (r ++ t)) = crc r then some r else none := by
  have hl : 16 ≤ (num m ++ (c ++ (r ++ t))).length := by rw [List.length_append, List.length_append, num_length, hc]; omega
  have v1 : val (num m ++ (c ++ (r ++ t))) = m := val_num _ (by omega) (by omega) _
  have d8 : (num m ++ (c ++ (r ++ t))).drop 8 = c ++ (r ++ t) := List.drop_left' (num_length _)
  have d16 : (num m ++ (c ++ (r ++ t))).drop 16 = r ++ t := by
    rw [show (16 : Nat) = 8 + 8 from rfl, ← List.drop_drop, d8]
    exact List.drop_left' hc
  unfold firstRow
  rw [if_neg (by omega), v1, d8, d16, hm, show ((r.length : Nat) : Int).toNat = r.length by omega, List.take_left' rfl, if_neg (by rw [List.length_append]; omega)]
theorem form_set {r : B} {at_ : Nat} {n : UInt8} (hr : r.length ≤ 16777216) (h8 : 8 ≤ at_) (hat : at_ < (form r).length) (hn : (form r)[at_]? ≠ some n) (t : B) : firstRow ((form r).set at_ n ++ t) = none := by
  have hf : form r = num (r.length : Int) ++ (num (crc r) ++ r) := by unfold form; rw [List.append_assoc]
  have hl := form_length r
  rw [hf] at hn ⊢
  rw [List.getElem?_append_right (by rw [num_length]; exact h8), num_length] at hn
  rw [List.set_append_right _ _ (by rw [num_length]; exact h8), num_length, List.append_assoc]
  by_cases h16 : at_ < 16
  · rw [List.getElem?_append_left (by rw [num_length]; omega)] at hn
    rw [List.set_append_left _ _ (by rw [num_length]; omega), List.append_assoc, first_parts _ _ _ _ (by rw [List.length_set, num_length]) rfl hr, if_neg]
    exact num_ne (by omega) hn (crc_range r).1 (crc_range r).2 _
  · rw [List.getElem?_append_right (by rw [num_length]; omega), num_length] at hn
    rw [List.set_append_right _ _ (by rw [num_length]; omega), num_length, List.append_assoc, first_parts _ _ _ _ (num_length _) (by rw [List.length_set]) (by rw [List.length_set]; exact hr), if_neg]
    rw [val_num _ (crc_range r).1 (crc_range r).2]
    intro h
    have h2 : Dg.crc r = Dg.crc (r.set (at_ - 8 - 8) n) := by
      unfold crc at h
      exact BitVec.eq_of_toNat_eq (by omega)
    exact Dg.crc_set r _ n (by omega) hn h2.symm
theorem form_ne (r t : B) : form r ++ t ≠ [] := fun h => by
  have := congrArg List.length h
  rw [List.length_append, form_length] at this
  simp at this
theorem forms_cons (r : B) (R : List B) : forms (r :: R) = form r ++ forms R := rfl
theorem forms_spoil : ∀ (R : List B) (at_ : Nat) (n : UInt8), (∀ r ∈ R, r.length ≤ 16777216) → at_ < (forms R).length → (forms R)[at_]? ≠ some n → (∀ k, k < R.length → ¬ ((forms (R.take k)).length ≤ at_ ∧ at_ < (forms (R.take k)).length + 8)) → rowsAll ((forms R).set at_ n) = none
  | [], at_, n, _, h, _, _ => by simp [forms] at h
  | r :: R, at_, n, hr, hat, hn, hk => by
    have hl := form_length r
    have k0 := hk 0 (by simp)
    rw [show (forms ((r :: R).take 0)).length = 0 from rfl] at k0
    rw [forms_cons] at hat hn ⊢
    rw [List.length_append] at hat
    by_cases h : at_ < (form r).length
    · rw [List.getElem?_append_left h] at hn
      rw [List.set_append_left _ _ h]
      refine rowsAll_none (fun e => ?_) (form_set (hr r (by simp)) (by omega) h hn _)
      have := congrArg List.length e
      rw [List.length_append, List.length_set, hl] at this
      simp at this
    · rw [List.getElem?_append_right (by omega)] at hn
      rw [List.set_append_right _ _ (by omega), rowsAll_some (form_ne r _) (firstRow_form r _ (hr r (by simp))), ← hl, List.drop_left' rfl]
      have ih := forms_spoil R (at_ - (form r).length) n (fun x hx => hr x (by simp [hx])) (by omega) hn (fun k hkl hc => by
        have := hk (k + 1) (by simp; omega)
        rw [List.take_succ_cons, forms_cons, List.length_append] at this
        omega)
      rw [ih]
      rfl
/-- A beginning of the forms has fewer rows, if any. -/
theorem forms_prefix : ∀ (R : List B) (j : Nat) (M : List B), (∀ r ∈ R, r.length ≤ 16777216) → j < (forms R).length → rowsAll ((forms R).take j) = some M → M.length < R.length
  | [], j, M, _, h, _ => by simp [forms] at h
  | r :: R, j, M, hr, hj, h => by
    have hl := form_length r
    rw [forms_cons] at hj h
    rw [List.length_append] at hj
    by_cases hjl : j < (form r).length
    · rw [List.take_append_of_le_length (by omega)] at h
      by_cases h0 : j = 0
      · subst h0
        rw [List.take_zero, rowsAll_nil] at h
        obtain rfl := (Option.some.inj h).symm
        simp
      · have hne : (form r).take j ≠ [] := fun e => by
          have : ((form r).take j).length = 0 := by rw [e]; rfl
          rw [List.length_take] at this
          omega
        have hfn : firstRow ((form r).take j) = none := by
          have hlt : ((form r).take j).length = j := by rw [List.length_take]; omega
          unfold firstRow
          by_cases h16 : j < 16
          · rw [if_pos (by omega)]
          · have hv : val ((form r).take j) = (r.length : Int) := by
              have := val_more ((form r).take j) ((form r).drop j) (by omega)
              rw [List.take_append_drop] at this
              rw [← this]
              have e : form r = num (r.length : Int) ++ (num (crc r) ++ r) := by unfold form; rw [List.append_assoc]
              rw [e]
              exact val_num _ (by omega) (by have := hr r (by simp); omega) _
            rw [if_neg (by omega), if_pos (.inr (by rw [hv, List.length_drop, hlt]; omega))]
        rw [rowsAll_none hne hfn] at h
        cases h
    · rw [List.take_append, List.take_of_length_le (l := form r) (by omega), rowsAll_some (form_ne r _) (firstRow_form r _ (hr r (by simp))), ← hl, List.drop_left' rfl] at h
      obtain ⟨M', hM', rfl⟩ := Option.map_eq_some_iff.1 h
      have := forms_prefix R (j - (form r).length) M' (fun x hx => hr x (by simp [hx])) (by omega) hM'
      simp
      omega
/-- A byte of a log's file is changed. -/
theorem parse_spoil {R : List B} {at_ : Nat} {n : UInt8} (hr : ∀ r ∈ R, r.length ≤ 16777216) (hL : (forms R).length ≤ 16777216) (hat : at_ < (H R).length) (hn : (H R)[at_]? ≠ some n) (hk : ∀ k, k < R.length → ¬ (16 + (forms (R.take k)).length ≤ at_ ∧ at_ < 16 + (forms (R.take k)).length + 8)) (hz : val ((H R).set at_ n) ≠ 0) : parse ((H R).set at_ n) = none := by
  have hc := forms_count R
  have hHl := H_length R
  have hlen : ((H R).set at_ n).length = 16 + (forms R).length := by rw [List.length_set, hHl]
  have e : H R = num (16 + ((forms R).length : Int)) ++ (num (R.length : Int) ++ forms R) := by unfold H header; rw [List.append_assoc]
  have hall := rowsAll_forms R hr
  unfold parse
  rw [if_neg (by omega)]
  rw [e] at hn ⊢
  rw [e] at hz hlen
  by_cases h8 : at_ < 8
  · rw [List.getElem?_append_left (by rw [num_length]; exact h8)] at hn
    rw [List.set_append_left _ _ (by rw [num_length]; exact h8)] at hz hlen ⊢
    have hv := num_ne h8 hn (by omega) (by omega) (num (R.length : Int) ++ forms R)
    have d8 : ((num (16 + ((forms R).length : Int))).set at_ n ++ (num (R.length : Int) ++ forms R)).drop 8 = num (R.length : Int) ++ forms R := List.drop_left' (by rw [List.length_set, num_length])
    rw [d8, val_num _ (by omega) (by omega)]
    obtain ⟨v, hvv⟩ : ∃ v, val ((num (16 + ((forms R).length : Int))).set at_ n ++ (num (R.length : Int) ++ forms R)) = v := ⟨_, rfl⟩
    rw [hvv] at hv hz ⊢
    by_cases hb : v < 16 ∨ (((num (16 + ((forms R).length : Int))).set at_ n ++ (num (R.length : Int) ++ forms R)).length : Int) < v
    · rw [if_pos hb]
    · rw [if_neg hb]
      have hvn : v.toNat < 16 + (forms R).length := by omega
      have d16 : (((num (16 + ((forms R).length : Int))).set at_ n ++ (num (R.length : Int) ++ forms R)).take v.toNat).drop 16 = (forms R).take (v.toNat - 16) := by
        rw [List.drop_take, show (16 : Nat) = 8 + 8 from rfl, ← List.drop_drop, d8, List.drop_left' (num_length _)]
      rw [d16]
      cases hM : rowsAll ((forms R).take (v.toNat - 16)) with
      | none => rfl
      | some M =>
        have := forms_prefix R (v.toNat - 16) M hr (by omega) hM
        unfold fin
        dsimp only
        rw [if_neg (by omega)]
  · rw [List.getElem?_append_right (by rw [num_length]; omega), num_length] at hn
    rw [List.set_append_right _ _ (by rw [num_length]; omega), num_length] at hz hlen ⊢
    rw [val_num _ (by omega) (by omega), List.drop_left' (num_length _), if_neg (by omega), show (16 + ((forms R).length : Int)).toNat = 16 + (forms R).length by omega, List.take_of_length_le (by omega)]
    by_cases h16 : at_ < 16
    · rw [List.getElem?_append_left (by rw [num_length]; omega)] at hn
      rw [List.set_append_left _ _ (by rw [num_length]; omega)]
      have d16 : (num (16 + ((forms R).length : Int)) ++ ((num (R.length : Int)).set (at_ - 8) n ++ forms R)).drop 16 = forms R := by
        rw [show (16 : Nat) = 8 + 8 from rfl, ← List.drop_drop, List.drop_left' (num_length _), List.drop_left' (by rw [List.length_set, num_length])]
      rw [d16, hall]
      unfold fin
      dsimp only
      rw [if_neg (num_ne (by omega) hn (by omega) (by omega) _)]
    · rw [List.getElem?_append_right (by rw [num_length]; omega), num_length] at hn
      rw [List.set_append_right _ _ (by rw [num_length]; omega), num_length]
      have d16 : (num (16 + ((forms R).length : Int)) ++ (num (R.length : Int) ++ (forms R).set (at_ - 8 - 8) n)).drop 16 = (forms R).set (at_ - 8 - 8) n := by
        rw [show (16 : Nat) = 8 + 8 from rfl, ← List.drop_drop, List.drop_left' (num_length _), List.drop_left' (num_length _)]
      rw [d16, forms_spoil R (at_ - 8 - 8) n hr (by omega) hn (fun k hkl hc => by have := hk k hkl; omega)]
      rfl
theorem parse_zero {s : B} (h : val s = 0) : parse s = some ([], 16) := by
  unfold parse
  rw [if_pos (.inr h)]
theorem put_one (s : B) (at_ : Nat) (n : UInt8) (h : at_ < s.length) : Dk.put s at_ [n] = s.set at_ n := by
  refine List.ext_getElem? fun i => ?_
  rw [Dk.put_at, List.getElem?_set]
  by_cases hi : at_ = i
  · subst hi
    rw [if_pos ⟨Nat.le_refl _, by simp⟩, if_pos rfl, if_pos h]
    simp
  · rw [if_neg (by simp; omega), if_neg hi]
    by_cases hil : i < s.length
    · rw [if_pos hil]
    · rw [if_neg hil, if_neg (by simp; omega), List.getElem?_eq_none (by omega)]
/-- A batch on a new disk. -/
theorem batch_new (f : Nat) (hf : f ≤ 6) (R : List B) (hR : R ≠ []) (hL : (forms R).length ≤ 300000) : ∃ D, batchL Dk.new f [] 0 R = ⟨.ok, D, R, R.length⟩ ∧ Rest D ∧ D.armed = 0 ∧ D.last f = H R := by
  have hno : ¬ Dk.E.ok ≠ Dk.E.ok := fun h => h rfl
  have hne : forms R ≠ [] := fun e => by
    cases R with
    | nil => exact hR rfl
    | cons x R => exact form_ne x _ e
  have hhne : header R ≠ [] := fun h => by have := header_length R; rw [h] at this; simp at this
  have w1 := Dk.calm_write (d := Dk.new) rfl rfl (f := (f : Int)) (at_ := ((16 : Nat) : Int)) (by omega) (by omega) (forms R) (Dk.fits_of (by omega) (by omega))
  rw [Int.toNat_natCast, Int.toNat_natCast] at w1
  have r1 : Dk.read (Dk.add Dk.new f 16 (forms R)) f = List.replicate 16 0 ++ forms R := by
    rw [Dk.read_add _ _ _ _ hne]
    exact Dk.put_nil 16 _
  have f1 := Dk.calm_flush (d := Dk.add Dk.new f 16 (forms R)) rfl rfl (f := (f : Int)) (by omega) (by omega) (Int.le_refl 0)
  rw [Int.toNat_natCast, r1] at f1
  have q1 : Dk.without (Dk.add Dk.new f 16 (forms R)).queue f = [] := Dk.without_pieces f _ _ _
  rw [q1] at f1
  obtain ⟨D1, hD1⟩ : ∃ D1, ({ Dk.add Dk.new f 16 (forms R) with last := Dk.setLast (Dk.add Dk.new f 16 (forms R)).last f (List.replicate 16 0 ++ forms R), queue := [] } : Dk.Disk) = D1 := ⟨_, rfl⟩
  have e1 : D1.down = false ∧ D1.armed = 0 ∧ D1.lost = 0 ∧ D1.queue = [] ∧ D1.last f = List.replicate 16 0 ++ forms R := by
    rw [← hD1]
    refine ⟨rfl, rfl, rfl, rfl, ?_⟩
    show Dk.setLast _ f _ f = _
    unfold Dk.setLast
    rw [if_pos rfl]
  rw [hD1] at f1
  obtain ⟨a1, a2, a3, a4, a5⟩ := e1
  have w2 := Dk.calm_write (d := D1) a1 a2 (f := (f : Int)) (at_ := ((0 : Nat) : Int)) (by omega) (by omega) (header R) (Dk.fits_of (by omega) (by rw [header_length]; decide))
  rw [Int.toNat_natCast, Int.toNat_natCast] at w2
  have r2 : Dk.read (Dk.add D1 f 0 (header R)) f = H R := by
    rw [Dk.read_add _ _ _ _ hhne]
    have e : Dk.read D1 f = List.replicate 16 0 ++ forms R := by
      unfold Dk.read
      rw [a4, a5]
      rfl
    rw [e]
    unfold Dk.put H
    rw [Nat.zero_add, header_length, List.take_zero, List.nil_append, show 16 - (List.replicate 16 (0 : UInt8) ++ forms R).length = 0 by simp, List.replicate_zero, List.append_nil, List.drop_left' (by simp)]
  have f2 := Dk.calm_flush (d := Dk.add D1 f 0 (header R)) a1 a2 (f := (f : Int)) (by omega) (by omega) (by show D1.lost ≤ 0; omega)
  rw [Int.toNat_natCast, r2] at f2
  have q2 : Dk.without (Dk.add D1 f 0 (header R)).queue f = [] := by
    show Dk.without (D1.queue ++ Dk.pieces f (header R).length 0 (header R)) f = []
    rw [a4, List.nil_append]
    exact Dk.without_pieces f _ _ _
  rw [q2] at f2
  refine ⟨{ Dk.add D1 f 0 (header R) with last := Dk.setLast (Dk.add D1 f 0 (header R)).last f (H R), queue := [] }, ?_, ⟨a1, rfl, by show D1.lost ≤ 0; omega⟩, a2, ?_⟩
  · unfold batchL
    have w1' : Dk.write Dk.new (f : Int) ((16 + (forms []).length : Nat) : Int) (forms R) = (.ok, Dk.add Dk.new f 16 (forms R)) := w1
    rw [if_neg hR, w1', if_neg hno, List.nil_append]
    unfold flushL
    have w2' : Dk.write D1 (f : Int) 0 (header R) = (.ok, Dk.add D1 f 0 (header R)) := w2
    rw [if_pos (List.length_pos_iff.2 hR)]
    dsimp only
    rw [f1]
    dsimp only
    rw [if_neg hno, w2']
    dsimp only
    rw [if_neg hno, f2]
    dsimp only
    rw [if_neg hno]
  · show Dk.setLast _ f _ f = _
    unfold Dk.setLast
    rw [if_pos rfl]
end Jn
end Go.Proofs.YtbpodclodflgfaaDoor
