/-
  missivelaw07.fits, where the lines fit.
-/
import Derived.Test.YtehnjoggilomfaaDoorCFit
import Derived.Test.YtehnjoggilomfaaDoorRefA
namespace Go.Proofs.YtehnjoggilomfaaDoor
open Go Go.RowKit Go.Shelf
namespace Cd
theorem fit_nl {tabs : Bool} {n : Nat} {r : List UInt8} (h : fit tabs n (10 :: r) = true) : fit tabs 0 r = true := by rwa [fit, if_pos rfl] at h
theorem fit_cons {tabs : Bool} {n : Nat} {c : UInt8} {r : List UInt8} (h : fit tabs n (c :: r) = true) (hc : c ≠ 10) :
    n + 1 ≤ 76 ∧ good tabs c = true ∧ ((c == 32 || c == 9) = true → lastB r = false) ∧ fit tabs (n + 1) r = true := by
  rw [fit, if_neg hc] at h
  simp only [Bool.and_eq_true, decide_eq_true_eq] at h
  obtain ⟨⟨⟨h1, h2⟩, h3⟩, h4⟩ := h
  refine ⟨h1, h2, fun hb => ?_, h4⟩
  rw [hb] at h3
  simpa using h3
/-- The kinds of bytes in a line. -/
theorem good_cases {tabs : Bool} {c : UInt8} (h : good tabs c = true) (hc : c ≠ 10) :
    (33 ≤ (c.toNat : Int) ∧ (c.toNat : Int) ≤ 126 ∧ ((c.toNat : Int) == 32) = false ∧ ((c.toNat : Int) == 9) = false) ∨ c = 32 ∨ (c = 9 ∧ tabs = true) := by
  by_cases h32 : c = 32
  · exact .inr (.inl h32)
  by_cases h9 : c = 9
  · subst h9
    refine .inr (.inr ⟨rfl, ?_⟩)
    cases tabs with
    | true => rfl
    | false => revert h; decide
  have q32 : ((c.toNat : Int) == 32) = false := byte_ne (n := 32) (by decide) h32
  have q9 : ((c.toNat : Int) == 9) = false := byte_ne (n := 9) (by decide) h9
  refine .inl ⟨?_, ?_, q32, q9⟩
  all_goals
    unfold good at h
    rw [beq_eq_false_iff_ne.2 h9, Bool.and_false, Bool.or_false, Bool.and_eq_true, decide_eq_true_eq, decide_eq_true_eq, UInt8.le_iff_toNat_le, UInt8.le_iff_toNat_le] at h
    obtain ⟨a, b⟩ := h
    have a : 32 ≤ c.toNat := a
    have b : c.toNat ≤ 126 := b
    have hn : c.toNat ≠ 32 := by intro e; rw [beq_eq_false_iff_ne] at q32; omega
    omega
end Cd
theorem next_at (s : ByteArray) (k : Nat) (h : Cd.lastB (s.data.toList.drop (k + 1)) = false) : ∃ (hk : k + 1 < s.size) (d : UInt8), s[k + 1]'hk = d ∧ d ≠ 10 := by
  by_cases hk : k + 1 < s.size
  · rw [drop_next s (k + 1) hk] at h
    refine ⟨hk, _, rfl, ?_⟩
    intro e
    rw [e] at h
    simp [Cd.lastB] at h
  · rw [List.drop_eq_nil_of_le (by rw [← Lib.size_eq]; omega)] at h
    cases h

set_option maxHeartbeats 4000000 in
set_option maxRecDepth 100000 in
theorem fits_any (s : ByteArray) (tabs : Bool) (w : World) (hs : s.size ≤ 100000000) (hf : Cd.fit tabs 0 s.data.toList = true) :
    Calls Tryd.prog 16 #[.string s, .bool tabs] w fun e w' => e = .returned (.bool true) ∧ w = w' := by
  have HF := Lib.hid hf
  clear hf
  go_enter Tryd.func16, Tryd.ntmps16
  go_wp2
  go_loop [5, 6] (fun nv iv => ∃ (i n : Nat), iv = .int .i64 i ∧ nv = .int .i64 n ∧ i ≤ s.size ∧ n ≤ 76 ∧ Hid (Cd.fit tabs n (s.data.toList.drop i) = true)) (fun _ iv => s.size - (intOf iv).toNat)
  case atStart => exact ⟨0, 0, rfl, rfl, Nat.zero_le _, by omega, HF.out⟩
  case round =>
    obtain ⟨i, n, rfl, rfl, hi, hn, hF⟩ := hrel
    by_cases hlt : i < s.size
    · obtain ⟨c, hc⟩ : ∃ c, s[i] = c := ⟨_, rfl⟩
      have h2 := hF.out
      rw [drop_next s i hlt, hc] at h2
      clear hF HF
      have cl := UInt8.toNat_lt c
      by_cases h10 : c = 10
      · subst h10
        have HN := Lib.hid (Cd.fit_nl h2)
        clear h2
        go_wp2
        go_round
        case rel => exact ⟨i + 1, 0, by go_num, rfl, by omega, by omega, HN.out⟩
        case measure => simp [intOf]; omega
      · obtain ⟨hn1, hg, hb, hr⟩ := Cd.fit_cons h2 h10
        have HN := Lib.hid hr
        have q10 : ((c.toNat : Int) == 10) = false := byte_ne (n := 10) (by decide) h10
        have hn2 : ¬ (76 : Int) < (n : Int) + 1 := by omega
        rcases Cd.good_cases hg h10 with ⟨a1, a2, a3, a4⟩ | rfl | ⟨rfl, rfl⟩
        · clear hr hb hg h2 h10
          have a5 : 32 ≤ (c.toNat : Int) := by omega
          cases tabs
          all_goals
            go_wp2
            go_round
            case rel => exact ⟨i + 1, n + 1, by go_num, by go_num, by omega, by omega, HN.out⟩
            case measure => simp [intOf]; omega
        · obtain ⟨hk, d, hd, hd10⟩ := next_at s i (hb (by decide))
          have qd : ((d.toNat : Int) == 10) = false := byte_ne (n := 10) (by decide) hd10
          have e1 : ((i : Int) + 1 == (s.size : Int)) = false := by rw [beq_eq_false_iff_ne]; omega
          clear hr hb hg h2 h10 hd10
          cases tabs
          all_goals
            go_wp2
            go_round
            case rel => exact ⟨i + 1, n + 1, by go_num, by go_num, by omega, by omega, HN.out⟩
            case measure => simp [intOf]; omega
        · obtain ⟨hk, d, hd, hd10⟩ := next_at s i (hb (by decide))
          have qd : ((d.toNat : Int) == 10) = false := byte_ne (n := 10) (by decide) hd10
          have e1 : ((i : Int) + 1 == (s.size : Int)) = false := by rw [beq_eq_false_iff_ne]; omega
          clear hr hb hg h2 h10 hd10
          go_wp2
          go_round
          case rel => exact ⟨i + 1, n + 1, by go_num, by go_num, by omega, by omega, HN.out⟩
          case measure => simp [intOf]; omega
    · obtain rfl : i = s.size := by omega
      go_wp2
      go_ret
      exact ⟨rfl, rfl⟩
end Go.Proofs.YtehnjoggilomfaaDoor
