/-
  codec.Unquoted.
-/
import Derived.Test.YtehnjoggilomfaaDoorCUnp
namespace Go.Proofs.YtehnjoggilomfaaDoor
open Go Go.RowKit Go.Shelf
namespace Cd
theorem trimB_le (l : List UInt8) : (trimB l).length ≤ l.length := (List.dropWhile_sublist _).length_le
theorem skipB_le (l : List UInt8) : (skipB l).length ≤ l.length := by
  unfold skipB
  split <;> simp <;> omega
theorem trimB_cons {c : UInt8} (h : blank c = true) (r : List UInt8) : trimB (c :: r) = trimB r := by simp [trimB, h]
theorem trim_eq (l : List UInt8) : Lib.trimLeftS l [32, 9] = trimB l := by
  unfold Lib.trimLeftS trimB
  congr 1
  funext c
  simp only [blank, List.contains_cons, List.contains_nil, Bool.or_false]
theorem unq_fuel : ∀ (n m : Nat) (l : List UInt8), l.length ≤ n → l.length ≤ m → unqF n l = unqF m l := by
  intro n
  induction n with
  | zero =>
    intro m l h1 h2
    have : l = [] := List.eq_nil_of_length_eq_zero (by omega)
    subst this
    cases m <;> rfl
  | succ n ih =>
    intro m l h1 h2
    cases l with
    | nil => cases m <;> rfl
    | cons c r =>
      simp only [List.length_cons] at h1 h2
      obtain ⟨m, rfl⟩ : ∃ k, m = k + 1 := ⟨m - 1, by omega⟩
      have t1 := trimB_le r
      have t2 := skipB_le (trimB r)
      unfold unqF
      rw [ih m r (by omega) (by omega), ih m (r.drop 2) (by rw [List.length_drop]; omega) (by rw [List.length_drop]; omega), ih m (skipB (trimB r)) (by omega) (by omega)]
      by_cases hb : blank c = true
      · rw [trimB_cons hb, ih m (trimB r) (by omega) (by omega)]
      · rw [if_neg (c := blank c = true) hb, if_neg (c := blank c = true) hb]
theorem unq_cons (c : UInt8) (r : List UInt8) : unquoted (c :: r) =
    if c = 61 then
      match hex2 r with
      | some x => pre [x] true (unquoted (r.drop 2))
      | none => if endsB (trimB r) then unquoted (skipB (trimB r)) else pre [61] false (unquoted r)
    else if blank c then
      if endsB (trimB (c :: r)) then unquoted (trimB (c :: r)) else pre ((c :: r).take ((c :: r).length - (trimB (c :: r)).length)) true (unquoted (trimB (c :: r)))
    else pre [c] (okB c) (unquoted r) := by
  have t1 := trimB_le r
  have t2 := skipB_le (trimB r)
  show unqF (r.length + 1) (c :: r) = _
  unfold unqF
  rw [unq_fuel r.length (r.drop 2).length (r.drop 2) (by rw [List.length_drop]; omega) (Nat.le_refl _), unq_fuel r.length (skipB (trimB r)).length (skipB (trimB r)) (by omega) (Nat.le_refl _)]
  by_cases hb : blank c = true
  · rw [trimB_cons hb, unq_fuel r.length (trimB r).length (trimB r) (by omega) (Nat.le_refl _)]
    rfl
  · rw [if_neg (c := blank c = true) hb, if_neg (c := blank c = true) hb]
    rfl
/-- What has been written, and what is still to be read. -/
def Uq (l out : List UInt8) (sd : Bool) (rest : List UInt8) : Prop := pre out sd (unquoted rest) = unquoted l
theorem Uq.start (l : List UInt8) : Uq l [] true l := by simp [Uq, pre]
theorem Uq.end_ {l out : List UInt8} {sd : Bool} (h : Uq l out sd []) : unquoted l = (out, sd) := by
  unfold Uq at h
  rw [← h]
  simp [pre, unquoted, unqF]
theorem Uq.hex {l out r : List UInt8} {sd : Bool} {x : UInt8} (h : Uq l out sd (61 :: r)) (hx : hex2 r = some x) : Uq l (out ++ [x]) sd (r.drop 2) := by
  unfold Uq at h ⊢
  rw [unq_cons, if_pos rfl, hx] at h
  simp only [pre_pre, Bool.and_true] at h
  exact h
theorem Uq.soft {l out r : List UInt8} {sd : Bool} (h : Uq l out sd (61 :: r)) (hx : hex2 r = none) (he : endsB (trimB r) = true) : Uq l out sd (skipB (trimB r)) := by
  unfold Uq at h ⊢
  rw [unq_cons, if_pos rfl, hx] at h
  simp only [he, if_true] at h
  exact h
theorem Uq.bad {l out r : List UInt8} {sd : Bool} (h : Uq l out sd (61 :: r)) (hx : hex2 r = none) (he : endsB (trimB r) = false) : Uq l (out ++ [61]) false r := by
  unfold Uq at h ⊢
  rw [unq_cons, if_pos rfl, hx] at h
  simp only [he, Bool.false_eq_true, if_false, pre_pre, Bool.and_false] at h
  exact h
theorem Uq.blankEnd {l out r : List UInt8} {sd : Bool} {c : UInt8} (h : Uq l out sd (c :: r)) (hb : blank c = true) (he : endsB (trimB (c :: r)) = true) : Uq l out sd (trimB (c :: r)) := by
  have h1 : c ≠ 61 := by rintro rfl; revert hb; decide
  unfold Uq at h ⊢
  rw [unq_cons, if_neg h1, if_pos hb, if_pos he] at h
  exact h
theorem Uq.blanks {l out r : List UInt8} {sd : Bool} {c : UInt8} (h : Uq l out sd (c :: r)) (hb : blank c = true) (he : endsB (trimB (c :: r)) = false) :
    Uq l (out ++ (c :: r).take ((c :: r).length - (trimB (c :: r)).length)) sd (trimB (c :: r)) := by
  have h1 : c ≠ 61 := by rintro rfl; revert hb; decide
  unfold Uq at h ⊢
  rw [unq_cons, if_neg h1, if_pos hb, if_neg (by rw [he]; decide), pre_pre, Bool.and_true] at h
  exact h
theorem Uq.other {l out r : List UInt8} {sd : Bool} {c : UInt8} (h : Uq l out sd (c :: r)) (h1 : c ≠ 61) (hb : blank c = false) : Uq l (out ++ [c]) (sd && okB c) r := by
  unfold Uq at h ⊢
  rw [unq_cons, if_neg h1, if_neg (by rw [hb]; decide), pre_pre] at h
  exact h
end Cd
theorem extract_zero (s : ByteArray) (u : Nat) : (s.extract 0 u).data.toList = s.data.toList.take u := by rw [extract_eq, List.drop_zero]
theorem trimB_any (s : ByteArray) (w : World) :
    Calls Tryd.prog 31 #[.string s, .string ⟨#[32, 9]⟩] w fun e w' => e = .returned (.string ⟨(Cd.trimB s.data.toList).toArray⟩) ∧ Below w.heap.size w w' := by
  refine (trimBlanks_any s w).mono ?_
  rintro e w' ⟨rfl, hB⟩
  rw [Cd.trim_eq]
  exact ⟨rfl, hB⟩
theorem Bld.below {B b : Nat} {l : List UInt8} {w w' : World} (h : Bld B b l w) (hB : Below w.heap.size w w') : Bld B b l w' :=
  builder_kept h (grown_below hB none) (fun r e => by cases e)
theorem endsLine_to {g : Bool} (s : ByteArray) (w : World) (h : Cd.endsB s.data.toList = g) : Calls Tryd.prog 32 #[.string s] w fun e w' => e = .returned (.bool g) ∧ w = w' := by
  rw [← h]; exact endsLine_any s w
theorem okB_ge (c : UInt8) : Cd.okB c = ((decide (32 ≤ (c.toNat : Int)) && decide ((c.toNat : Int) ≤ 126)) || ((c.toNat : Int) == 10) || ((c.toNat : Int) == 13)) := by
  have H : ∀ k : Fin 256, Cd.okB (UInt8.ofNat k.val) = ((decide (32 ≤ (k.val : Int)) && decide ((k.val : Int) ≤ 126)) || ((k.val : Int) == 10) || ((k.val : Int) == 13)) := by decide +kernel
  have := H ⟨c.toNat, UInt8.toNat_lt c⟩
  simpa only [UInt8.ofNat_toNat] using this

theorem okB_cases (c : UInt8) : (32 ≤ (c.toNat : Int) ∧ (c.toNat : Int) ≤ 126 ∧ Cd.okB c = true) ∨ (c = 10 ∧ Cd.okB 10 = true) ∨ (c = 13 ∧ Cd.okB 13 = true) ∨
    ((c.toNat : Int) < 32 ∧ ((c.toNat : Int) == 10) = false ∧ ((c.toNat : Int) == 13) = false ∧ Cd.okB c = false) ∨ (126 < (c.toNat : Int) ∧ decide ((c.toNat : Int) ≤ 126) = false ∧ ((c.toNat : Int) == 10) = false ∧ ((c.toNat : Int) == 13) = false ∧ Cd.okB c = false) := by
  have h := okB_ge c
  by_cases h10 : c = 10
  · exact .inr (.inl ⟨h10, by decide⟩)
  by_cases h13 : c = 13
  · exact .inr (.inr (.inl ⟨h13, by decide⟩))
  have q1 := byte_ne (n := 10) (by decide) h10
  have q2 := byte_ne (n := 13) (by decide) h13
  by_cases a1 : 32 ≤ (c.toNat : Int)
  · by_cases a2 : (c.toNat : Int) ≤ 126
    · exact .inl ⟨a1, a2, by rw [h]; simp [a1, a2]⟩
    · refine .inr (.inr (.inr (.inr ⟨by omega, decide_eq_false a2, q1, q2, ?_⟩)))
      rw [h, decide_eq_false a2]
      have q1 : ((c.toNat : Int) == 10) = false := q1
      have q2 : ((c.toNat : Int) == 13) = false := q2
      rw [q1, q2]; simp
  · refine .inr (.inr (.inr (.inl ⟨by omega, q1, q2, ?_⟩)))
    rw [h, decide_eq_false a1]
    have q1 : ((c.toNat : Int) == 10) = false := q1
    have q2 : ((c.toNat : Int) == 13) = false := q2
    rw [q1, q2]; simp

set_option maxHeartbeats 8000000 in
set_option maxRecDepth 100000 in
theorem unquoted_any (s : ByteArray) (w : World) (hs : s.size ≤ 100000000) :
    Calls Tryd.prog 11 #[.string s] w fun e w' => e = .returned (.tuple #[.string ⟨(Cd.unquoted s.data.toList).1.toArray⟩, .bool (Cd.unquoted s.data.toList).2]) ∧ Below w.heap.size w w' := by
  have HD := Lib.hid (hexValues_any w)
  go_enter Tryd.func11, Tryd.ntmps11
  go_wp2_with fail
  refine HD.out.mono ?_
  rintro e w1 ⟨rfl, hT, hB1⟩
  have htl := hT.lt
  have HF := Lib.hid (Bld.fresh w1)
  obtain ⟨b, hb⟩ : ∃ b, w1.heap.size = b := ⟨_, rfl⟩
  have HS := Lib.hid hb
  rw [hb] at htl
  generalize hL : s.data.toList = L
  have HLL := Lib.hid hL
  clear hL
  go_wp2
  go_loopw [0, 6] (fun tv sv wr => ∃ (t : ByteArray) (sd : Bool) (out : List UInt8), tv = .string t ∧ sv = .bool sd ∧ Hid (Cd.Uq L out sd t.data.toList) ∧ out.length + t.size ≤ s.size ∧ Bld b b out wr ∧ Below b w1 wr) (fun tv _ _ => Lib.strSize tv)
  case atStart => exact ⟨s, true, [], rfl, rfl, by rw [HLL.out]; exact Cd.Uq.start _, by simp, by rw [← hb]; exact HF.out, by rw [← hb]; exact (Below.refl _ w1).alloc (Nat.le_refl _) _⟩
  case round =>
    obtain ⟨t, sd, out, rfl, rfl, hU, hol, hBl, hBe⟩ := hrel
    clear hb HF
    have hTr := hT.below hBe htl
    have hsz : b ≤ wr.heap.size := by have := hBe.size; have := HS.out; omega
    have hz := Lib.size_eq t
    cases hl : t.data.toList with
    | nil =>
      have he := string_nil hl
      have hU2 := hU.out
      rw [hl] at hU2
      have HE := Lib.hid hU2.end_
      clear hU hU2 hl hz
      go_wp2_with (go_at_call 24; refine (str_any b b _ _ hBl hsz).mono ?_; rintro e w2 ⟨rfl, hB2, -⟩)
      go_ret2
      exact ⟨ret_sb (by rw [HLL.out, HE.out]) (by rw [HLL.out, HE.out]), hB1.trans ((hBe.trans hB2).mono (by have := hB1.size; have := HS.out; omega))⟩
    | cons c r =>
      have he := string_cons hl
      obtain ⟨h0, hc⟩ := head_at hl
      have hU2 := hU.out
      rw [hl] at hU2
      rw [hl, List.length_cons] at hz
      have hz1 : t.size ≤ r.length + 1 := by omega
      have hz2 : r.length + 1 ≤ t.size := by omega
      have hd1 : t.data.toList.drop 1 = r := by rw [hl]; rfl
      clear hz
      by_cases h61 : c = 61
      · subst h61
        cases hx : Cd.hex2 r with
        | some x =>
          have hlen := Cd.hex2_len hx
          have HX : Hid (Cd.hex2 (t.data.toList.drop 1) = some x) := by rw [hd1]; exact hx
          have hn := hU2.hex hx
          rw [← hd1, List.drop_drop, ← extract_end] at hn
          have HN := Lib.hid hn
          have h3 : 3 ≤ t.size := by omega
          have h3s : (t.extract 3 t.size).size + 3 ≤ t.size := by rw [ByteArray.size_extract]; omega
          clear hU hU2 hl hd1 hn hx hlen
          go_wp2_with (first
            | (go_at_call 30; refine (hexByte_yes t 1 x _ _ _ hTr HX.out).mono ?_; rintro e w' ⟨rfl, rfl⟩)
            | (go_at_call 23; refine (wb_any b b _ x _ hBl (by omega) hsz).mono ?_; rintro e w2 ⟨rfl, hBl2, hB2, -⟩))
          go_roundw
          case rel => exact ⟨_, sd, out ++ [x], rfl, rfl, HN.out, by simp; omega, hBl2, hBe.trans hB2⟩
          case measure => simp [Lib.strSize]; omega
        | none =>
          have HX : Hid (Cd.hex2 (t.data.toList.drop 1) = none) := by rw [hd1]; exact hx
          have HT2 := Lib.hid (trimB_any (t.extract 1 t.size) wr)
          rw [extract_end, hd1] at HT2
          have hle := Cd.trimB_le r
          cases hen : Cd.endsB (Cd.trimB r) with
          | true =>
            have HN := Lib.hid (hU2.soft hx hen)
            have hle2 := Cd.skipB_le (Cd.trimB r)
            have HEn := Lib.hid (fun w => endsLine_to ⟨(Cd.trimB r).toArray⟩ w hen)
            have HSk := Lib.hid (fun w => skipLineEnd_any ⟨(Cd.trimB r).toArray⟩ w)
            have hsk : (⟨(Cd.skipB (Cd.trimB r)).toArray⟩ : ByteArray).size ≤ r.length := by rw [Tx.bs_len]; omega
            clear hU hU2 hl hd1 hx hen
            go_wp2_with (first
              | (go_at_call 30; refine (hexByte_no t 1 _ _ _ hTr HX.out).mono ?_; rintro e w' ⟨⟨v, rfl⟩, rfl⟩)
              | (go_at_call 31; (with_reducible refine HT2.out.mono ?_); rintro e w2 ⟨rfl, hB2⟩)
              | (go_at_call 32; (with_reducible refine (HEn.out _).mono ?_); rintro e w' ⟨rfl, rfl⟩)
              | (go_at_call 33; refine (HSk.out _).mono ?_; rintro e w' ⟨rfl, rfl⟩))
            go_roundw
            case rel => exact ⟨_, sd, out, rfl, rfl, HN.out, by omega, hBl.below hB2, hBe.trans (hB2.mono hsz)⟩
            case measure => simp only [Lib.strSize]; omega
          | false =>
            have HN := Lib.hid (hU2.bad hx hen)
            rw [← hd1, ← extract_end] at HN
            have HEn := Lib.hid (fun w => endsLine_to ⟨(Cd.trimB r).toArray⟩ w hen)
            have h3s : (t.extract 1 t.size).size + 1 ≤ t.size := by rw [ByteArray.size_extract]; omega
            clear hU hU2 hl hd1 hx hen
            go_wp2_with (first
              | (go_at_call 30; refine (hexByte_no t 1 _ _ _ hTr HX.out).mono ?_; rintro e w' ⟨⟨v, rfl⟩, rfl⟩)
              | (go_at_call 31; (with_reducible refine HT2.out.mono ?_); rintro e w2 ⟨rfl, hB2⟩; have hBl2 := hBl.below hB2; have hsz2 := Nat.le_trans hsz hB2.size)
              | (go_at_call 32; (with_reducible refine (HEn.out _).mono ?_); rintro e w' ⟨rfl, rfl⟩)
              | (go_at_call 23; refine (wb_any b b _ 61 _ hBl2 (by omega) hsz2).mono ?_; rintro e w3 ⟨rfl, hBl3, hB3, -⟩))
            go_roundw
            case rel => exact ⟨_, false, out ++ [61], rfl, rfl, HN.out, by simp; omega, hBl3, (hBe.trans (hB2.mono hsz)).trans hB3⟩
            case measure => simp only [Lib.strSize]; omega
      · have q61 := byte_ne (n := 61) (by decide) h61
        by_cases h32 : c = 32
        · subst h32
          have hc : t[0] = 32 := hc
          have hbl : Cd.blank 32 = true := by decide
          have HT2 := Lib.hid (trimB_any t wr)
          rw [hl] at HT2
          have hle := Cd.trimB_le (32 :: r)
          cases hen : Cd.endsB (Cd.trimB (32 :: r)) with
          | true =>
            have HN := Lib.hid (hU2.blankEnd hbl hen)
            have hlt : (Cd.trimB (32 :: r)).length ≤ r.length := by rw [Cd.trimB_cons hbl]; exact Cd.trimB_le r
            obtain ⟨T, hT0⟩ : ∃ T, Cd.trimB (32 :: r) = T := ⟨_, rfl⟩
            rw [hT0] at HN HT2 hen hlt
            have HEn := Lib.hid (fun w => endsLine_to ⟨T.toArray⟩ w hen)
            have hTs : (⟨T.toArray⟩ : ByteArray).size ≤ r.length := by rw [Tx.bs_len]; exact hlt
            clear hU hU2 hl hd1 hen hle hT0 hlt
            go_wp2_with (first
              | (go_at_call 31; (with_reducible refine HT2.out.mono ?_); rintro e w2 ⟨rfl, hB2⟩)
              | (go_at_call 32; (with_reducible refine (HEn.out _).mono ?_); rintro e w' ⟨rfl, rfl⟩))
            go_roundw
            case rel => exact ⟨_, sd, out, rfl, rfl, HN.out, by omega, hBl.below hB2, hBe.trans (hB2.mono hsz)⟩
            case measure => simp only [Lib.strSize]; omega
          | false =>
            have hn := hU2.blanks hbl hen
            have hlt : (Cd.trimB (32 :: r)).length ≤ r.length := by rw [Cd.trimB_cons hbl]; exact Cd.trimB_le r
            obtain ⟨T, hT0⟩ : ∃ T, Cd.trimB (32 :: r) = T := ⟨_, rfl⟩
            rw [hT0] at hn HT2 hen hlt
            rw [← hl, ← Lib.size_eq, ← extract_zero] at hn
            have HN := Lib.hid hn
            have HEn := Lib.hid (fun w => endsLine_to ⟨T.toArray⟩ w hen)
            have hTs : (⟨T.toArray⟩ : ByteArray).size ≤ r.length := by rw [Tx.bs_len]; exact hlt
            have hTe : (⟨T.toArray⟩ : ByteArray).size = T.length := by rw [Tx.bs_len]
            have hxs : (t.extract 0 (t.size - T.length)).size = t.size - T.length := by rw [ByteArray.size_extract]; omega
            have hxn : ((t.size : Int) - (T.length : Int)) = ((t.size - T.length : Nat) : Int) := by omega
            clear hU hU2 hl hd1 hen hle hT0 hn
            go_wp2_with (first
              | (go_at_call 31; (with_reducible refine HT2.out.mono ?_); rintro e w2 ⟨rfl, hB2⟩; have hBl2 := hBl.below hB2; have hsz2 := Nat.le_trans hsz hB2.size)
              | (go_at_call 32; (with_reducible refine (HEn.out _).mono ?_); rintro e w' ⟨rfl, rfl⟩)
              | (go_at_call 34; (with_reducible refine (ws_any b b _ _ _ hBl2 (by omega) hsz2).mono ?_); rintro e w3 ⟨rfl, hBl3, hB3, -⟩))
            go_roundw
            case rel => exact ⟨_, sd, _, rfl, rfl, HN.out, by rw [List.length_append, ← Lib.size_eq]; omega, hBl3, (hBe.trans (hB2.mono hsz)).trans hB3⟩
            case measure => simp only [Lib.strSize]; omega
        · by_cases h9 : c = 9
          · subst h9
            have hc : t[0] = 9 := hc
            have hbl : Cd.blank 9 = true := by decide
            have HT2 := Lib.hid (trimB_any t wr)
            rw [hl] at HT2
            have hle := Cd.trimB_le (9 :: r)
            cases hen : Cd.endsB (Cd.trimB (9 :: r)) with
            | true =>
              have HN := Lib.hid (hU2.blankEnd hbl hen)
              have hlt : (Cd.trimB (9 :: r)).length ≤ r.length := by rw [Cd.trimB_cons hbl]; exact Cd.trimB_le r
              obtain ⟨T, hT0⟩ : ∃ T, Cd.trimB (9 :: r) = T := ⟨_, rfl⟩
              rw [hT0] at HN HT2 hen hlt
              have HEn := Lib.hid (fun w => endsLine_to ⟨T.toArray⟩ w hen)
              have hTs : (⟨T.toArray⟩ : ByteArray).size ≤ r.length := by rw [Tx.bs_len]; exact hlt
              clear hU hU2 hl hd1 hen hle hT0 hlt
              go_wp2_with (first
                | (go_at_call 31; (with_reducible refine HT2.out.mono ?_); rintro e w2 ⟨rfl, hB2⟩)
                | (go_at_call 32; (with_reducible refine (HEn.out _).mono ?_); rintro e w' ⟨rfl, rfl⟩))
              go_roundw
              case rel => exact ⟨_, sd, out, rfl, rfl, HN.out, by omega, hBl.below hB2, hBe.trans (hB2.mono hsz)⟩
              case measure => simp only [Lib.strSize]; omega
            | false =>
              have hn := hU2.blanks hbl hen
              have hlt : (Cd.trimB (9 :: r)).length ≤ r.length := by rw [Cd.trimB_cons hbl]; exact Cd.trimB_le r
              obtain ⟨T, hT0⟩ : ∃ T, Cd.trimB (9 :: r) = T := ⟨_, rfl⟩
              rw [hT0] at hn HT2 hen hlt
              rw [← hl, ← Lib.size_eq, ← extract_zero] at hn
              have HN := Lib.hid hn
              have HEn := Lib.hid (fun w => endsLine_to ⟨T.toArray⟩ w hen)
              have hTs : (⟨T.toArray⟩ : ByteArray).size ≤ r.length := by rw [Tx.bs_len]; exact hlt
              have hTe : (⟨T.toArray⟩ : ByteArray).size = T.length := by rw [Tx.bs_len]
              have hxs : (t.extract 0 (t.size - T.length)).size = t.size - T.length := by rw [ByteArray.size_extract]; omega
              have hxn : ((t.size : Int) - (T.length : Int)) = ((t.size - T.length : Nat) : Int) := by omega
              clear hU hU2 hl hd1 hen hle hT0 hn
              go_wp2_with (first
                | (go_at_call 31; (with_reducible refine HT2.out.mono ?_); rintro e w2 ⟨rfl, hB2⟩; have hBl2 := hBl.below hB2; have hsz2 := Nat.le_trans hsz hB2.size)
                | (go_at_call 32; (with_reducible refine (HEn.out _).mono ?_); rintro e w' ⟨rfl, rfl⟩)
                | (go_at_call 34; (with_reducible refine (ws_any b b _ _ _ hBl2 (by omega) hsz2).mono ?_); rintro e w3 ⟨rfl, hBl3, hB3, -⟩))
              go_roundw
              case rel => exact ⟨_, sd, _, rfl, rfl, HN.out, by rw [List.length_append, ← Lib.size_eq]; omega, hBl3, (hBe.trans (hB2.mono hsz)).trans hB3⟩
              case measure => simp only [Lib.strSize]; omega
          · have q32 := byte_ne (n := 32) (by decide) h32
            have q9 := byte_ne (n := 9) (by decide) h9
            have hbl : Cd.blank c = false := by unfold Cd.blank; rw [beq_eq_false_iff_ne.2 h32, beq_eq_false_iff_ne.2 h9]; rfl
            have hn := hU2.other h61 hbl
            rw [← hd1, ← extract_end] at hn
            have h3s : (t.extract 1 t.size).size + 1 ≤ t.size := by rw [ByteArray.size_extract]; omega
            clear hU hU2 hl hd1 hbl
            have cl := UInt8.toNat_lt c
            have hok := okB_ge c
            rcases okB_cases c with ⟨a1, a2, ho⟩ | ⟨rfl, ho⟩ | ⟨rfl, ho⟩ | ⟨a1, a2, a3, ho⟩ | ⟨a1, a2, a3, a4, ho⟩
            · rw [ho] at hn
              have HN := Lib.hid hn
              clear hn ho hok h61 h32 h9
              cases sd
              all_goals
                go_wp2_with (first
                  | (go_at_call 23; refine (wb_any b b _ c _ hBl (by omega) hsz).mono ?_; rintro e w3 ⟨rfl, hBl3, hB3, -⟩))
                go_roundw
                case rel => exact ⟨_, _, _, rfl, rfl, HN.out, by simp; omega, hBl3, hBe.trans hB3⟩
                case measure => simp only [Lib.strSize]; omega
            · rw [ho] at hn
              have HN := Lib.hid hn
              clear hn ho hok h61 h32 h9
              cases sd
              all_goals
                go_wp2_with (first
                  | (go_at_call 23; refine (wb_any b b _ 10 _ hBl (by omega) hsz).mono ?_; rintro e w3 ⟨rfl, hBl3, hB3, -⟩))
                go_roundw
                case rel => exact ⟨_, _, _, rfl, rfl, HN.out, by simp; omega, hBl3, hBe.trans hB3⟩
                case measure => simp only [Lib.strSize]; omega
            · rw [ho] at hn
              have HN := Lib.hid hn
              clear hn ho hok h61 h32 h9
              cases sd
              all_goals
                go_wp2_with (first
                  | (go_at_call 23; refine (wb_any b b _ 13 _ hBl (by omega) hsz).mono ?_; rintro e w3 ⟨rfl, hBl3, hB3, -⟩))
                go_roundw
                case rel => exact ⟨_, _, _, rfl, rfl, HN.out, by simp; omega, hBl3, hBe.trans hB3⟩
                case measure => simp only [Lib.strSize]; omega
            · rw [ho] at hn
              have HN := Lib.hid hn
              clear hn ho hok h61 h32 h9
              cases sd
              all_goals
                go_wp2_with (first
                  | (go_at_call 23; refine (wb_any b b _ c _ hBl (by omega) hsz).mono ?_; rintro e w3 ⟨rfl, hBl3, hB3, -⟩))
                go_roundw
                case rel => exact ⟨_, _, _, rfl, rfl, HN.out, by simp; omega, hBl3, hBe.trans hB3⟩
                case measure => simp only [Lib.strSize]; omega
            · rw [ho] at hn
              have HN := Lib.hid hn
              clear hn ho hok h61 h32 h9
              cases sd
              all_goals
                go_wp2_with (first
                  | (go_at_call 23; refine (wb_any b b _ c _ hBl (by omega) hsz).mono ?_; rintro e w3 ⟨rfl, hBl3, hB3, -⟩))
                go_roundw
                case rel => exact ⟨_, _, _, rfl, rfl, HN.out, by simp; omega, hBl3, hBe.trans hB3⟩
                case measure => simp only [Lib.strSize]; omega
end Go.Proofs.YtehnjoggilomfaaDoor
