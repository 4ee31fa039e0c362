/-
  missivelaw08.CharsetKeeps.
-/
import Derived.Test.YtdkocjdhekomoaaGreatDoorHRp
namespace Go.Proofs.YtdkocjdhekomoaaGreatDoor
open Go Go.RowKit Go.Shelf
namespace Ch
def quietF : Bool → List UInt8 → Bool
  | _, [] => true
  | b, c :: r => if c = 63 ∧ b = true then false else quietF (c == 61) r
def quiet (l : List UInt8) : Bool := quietF true l
/-- No suffix begins with a sound word. -/
def Deaf (l : List UInt8) : Prop := ∀ k, sound (l.drop k) = none
theorem Deaf.nil : Deaf [] := fun k => by rw [List.drop_nil]; rfl
theorem Deaf.cons {c : UInt8} {r : List UInt8} (h : sound (c :: r) = none) (hr : Deaf r) : Deaf (c :: r) := fun k => by
  cases k with
  | zero => exact h
  | succ k => rw [List.drop_succ_cons]; exact hr k
theorem Deaf.words : ∀ {l : List UInt8}, Deaf l → ∀ (g : List UInt8) (b : Bool), wordsG g b l = g ++ l
  | [], _, g, b => by rw [wordsG_nil, List.append_nil]
  | c :: r, h, g, b => by
    rw [wordsG_no (by have := h 0; rwa [List.drop_zero] at this), Deaf.words (l := r) (fun k => by have := h (k + 1); rwa [List.drop_succ_cons] at this)]
    simp
theorem Deaf.same {l : List UInt8} (h : Deaf l) : Ch.words l = l := h.words [] false
theorem sound_61 {c : UInt8} {r : List UInt8} (h : c ≠ 61) : sound (c :: r) = none := by
  unfold sound
  split
  · rename_i heq; cases heq; exact absurd rfl h
  · rfl
theorem sound_63 {c : UInt8} {r : List UInt8} (h : c ≠ 63) : sound (61 :: c :: r) = none := by
  unfold sound
  split
  · rename_i heq; cases heq; exact absurd rfl h
  · rfl
theorem deaf_start : ∀ l : List UInt8, hasStart l = false → Deaf l
  | [], _ => Deaf.nil
  | c :: r, h => by
    have hr : hasStart r = false := by
      by_cases hp : ([61, 63] : List UInt8).isPrefixOf (c :: r) = true
      · obtain ⟨x, hx⟩ := List.isPrefixOf_iff_prefix.1 hp
        rw [← hx] at h; cases h
      · rw [start_no (Bool.eq_false_iff.2 hp)] at h; exact h
    refine Deaf.cons ?_ (deaf_start r hr)
    by_cases hc : c = 61
    · subst hc
      cases r with
      | nil => rfl
      | cons d t =>
        by_cases hd : d = 63
        · subst hd; cases h
        · exact sound_63 hd
    · exact sound_61 hc
theorem quiet_start : ∀ (l : List UInt8) (b : Bool), quietF b l = true → hasStart l = false
  | [], _, _ => rfl
  | c :: r, b, h => by
    unfold quietF at h
    split at h
    · cases h
    · have ih := quiet_start r _ h
      by_cases hp : ([61, 63] : List UInt8).isPrefixOf (c :: r) = true
      · obtain ⟨x, hx⟩ := List.isPrefixOf_iff_prefix.1 hp
        cases hx
        simp [quietF] at h
      · rw [start_no (Bool.eq_false_iff.2 hp)]; exact ih
def tail8 : List UInt8 := [113, 63, 97, 95, 98, 63, 61]
theorem deaf_tail : Deaf tail8 := by
  unfold tail8
  iterate 7 refine Deaf.cons (by decide +kernel) ?_
  exact Deaf.nil
theorem deaf_name : ∀ n : List UInt8, (∀ c ∈ n, c ≠ 63) → Deaf (n ++ 63 :: tail8)
  | [], _ => Deaf.cons (sound_61 (by decide)) deaf_tail
  | c :: r, h => by
    refine Deaf.cons ?_ (deaf_name r fun x hx => h x (by simp [hx]))
    by_cases hc : c = 61
    · subst hc
      cases r with
      | nil => show sound (61 :: 63 :: tail8) = none; decide +kernel
      | cons d t => exact sound_63 (h d (by simp))
    · exact sound_61 hc
theorem front_name {t : List UInt8} : ∀ n : List UInt8, (∀ c ∈ n, c ≠ 63) → front (n ++ 63 :: t) = n ∧ back (n ++ 63 :: t) = t
  | [], _ => ⟨front_hit t, back_hit t⟩
  | c :: r, h => by
    have hc := h c (by simp)
    obtain ⟨h1, h2⟩ := front_name r fun x hx => h x (by simp [hx])
    rw [List.cons_append, front_no _ hc, back_no _ hc, h1, h2]
    exact ⟨rfl, rfl⟩
theorem deaf_word (n : List UInt8) (h : ∀ c ∈ n, c ≠ 63) (hk : known (Tx.lowL n) = false) : Deaf (61 :: 63 :: (n ++ 63 :: tail8)) := by
  refine Deaf.cons ?_ (Deaf.cons (sound_61 (by decide)) (deaf_name n h))
  obtain ⟨h1, h2⟩ := front_name (t := tail8) n h
  show meant (front (n ++ 63 :: tail8)) (front (back (n ++ 63 :: tail8))) (front (back (back (n ++ 63 :: tail8)))) (back (back (back (n ++ 63 :: tail8)))) = none
  rw [h1, h2]
  show meant n [113] [97, 95, 98] [61] = none
  unfold meant
  simp only []
  rw [if_pos (by decide), hk]
  split
  · rfl
  · rfl
end Ch
theorem byte_neI {c : UInt8} {n : Nat} (hn : n < 256) (h : c ≠ UInt8.ofNat n) : ¬ ((c.toNat : Int) = (n : Int)) := by
  have := byte_ne hn h
  rw [beq_eq_false_iff_ne] at this
  exact this
theorem quiet_step (S : List UInt8) (k : Nat) (c : UInt8) (b R : Bool) (h : S[k]? = some c) (hq : Ch.quietF b (S.drop k) = R) : (if c = 63 ∧ b = true then false else Ch.quietF (c == 61) (S.drop (k + 1))) = R := by
  have hk : k < S.length := (List.getElem?_eq_some_iff.1 h).1
  have hc : S[k] = c := (List.getElem?_eq_some_iff.1 h).2
  rw [List.drop_eq_getElem_cons hk, hc] at hq
  exact hq
set_option maxHeartbeats 4000000 in
set_option maxRecDepth 100000 in
theorem quiet_any (s : ByteArray) (w : World) (hs : s.size ≤ 9223372036854775807) :
    Calls Tryz.prog 26 #[.string s] w fun e w' => e = .returned (.bool (Ch.quiet s.data.toList)) ∧ w = w' := by
  obtain ⟨R, hR⟩ : ∃ R, Ch.quiet s.data.toList = R := ⟨_, rfl⟩
  rw [hR]
  have HR := Lib.hid hR
  clear hR
  go_enter Tryz.func26, Tryz.ntmps26
  go_wp2
  go_loop [3] (fun i => ∃ (k : Nat) (b : Bool), i = .int .i64 k ∧ k ≤ s.size ∧ (k = 0 → b = true) ∧ Hid (∀ (h : 0 < k) (h2 : k - 1 < s.size), b = (s[k - 1]'h2 == 61)) ∧ Hid (Ch.quietF b (s.data.toList.drop k) = R)) (fun i => s.size - (intOf i).toNat)
  case atStart => exact ⟨0, true, rfl, Nat.zero_le _, fun _ => rfl, fun h => absurd h (by omega), HR.out⟩
  case round =>
    obtain ⟨k, b, rfl, hk, hb0, hb1, hq⟩ := hrel
    by_cases hlt : k < s.size
    · have hg := Tx.get_of s k hlt
      obtain ⟨c, hc⟩ : ∃ c, s[k] = c := ⟨_, rfl⟩
      rw [hc] at hg
      have hst := quiet_step _ _ _ _ _ hg hq.out
      have HB : Hid (∀ (h : 0 < k + 1) (h2 : k + 1 - 1 < s.size), (c == 61) = (s[k + 1 - 1]'h2 == 61)) := Lib.hid fun _ h2 => by
        have : s[k + 1 - 1]'h2 = s[k] := by congr 1
        rw [this, hc]
      clear hg hq
      by_cases hc63 : c = 63
      · subst hc63
        cases b with
        | true =>
          have HF : Hid (false = R) := Lib.hid (by simpa using hst)
          by_cases h0 : k = 0
          · subst h0
            clear hst HB hb0 hb1
            go_wp2
            go_ret
            exact ⟨congrArg (fun b => Ending.returned (.bool b)) HF.out, rfl⟩
          · have hk0 : ((k : Int) == 0) = false := by rw [beq_eq_false_iff_ne]; omega
            have hp : k - 1 < s.size := by omega
            have hp2 := hb1.out (by omega) hp
            obtain ⟨p, hpe⟩ : ∃ p, k = p + 1 := ⟨k - 1, by omega⟩
            subst hpe
            have hps : p < s.size := by omega
            have hd : s[p]'hps = 61 := by
              have e : s[p + 1 - 1]'hp = s[p]'hps := by congr 1
              rw [e] at hp2
              simpa using hp2.symm
            have e3 : ((p + 1 : Nat) : Int) - 1 = (p : Int) := by omega
            clear hst HB hb0 hb1 hp2 h0 hp
            go_wp2
            go_ret
            exact ⟨congrArg (fun b => Ending.returned (.bool b)) HF.out, rfl⟩
        | false =>
          have h0 : k ≠ 0 := fun e => by have := hb0 e; cases this
          have HN : Hid (Ch.quietF ((63 : UInt8) == 61) (s.data.toList.drop (k + 1)) = R) := Lib.hid (by simpa using hst)
          have hk0 : ((k : Int) == 0) = false := by rw [beq_eq_false_iff_ne]; omega
          have hp : k - 1 < s.size := by omega
          have hp2 := hb1.out (by omega) hp
          obtain ⟨p, hpe⟩ : ∃ p, k = p + 1 := ⟨k - 1, by omega⟩
          subst hpe
          have hps : p < s.size := by omega
          obtain ⟨d, hd⟩ : ∃ d, s[p]'hps = d := ⟨_, rfl⟩
          have hd61 : d ≠ 61 := by
            have e : s[p + 1 - 1]'hp = s[p]'hps := by congr 1
            rw [e, hd] at hp2
            intro h; rw [h] at hp2; cases hp2
          have q61 := byte_ne (n := 61) (by decide) hd61
          have e3 : ((p + 1 : Nat) : Int) - 1 = (p : Int) := by omega
          have i61 := byte_neI (n := 61) (by decide) hd61
          have ip : ¬ ((p : Int) + 1 = 0) := by omega
          have ip2 : (((p : Int) + 1) == 0) = false := by rw [beq_eq_false_iff_ne]; omega
          clear hst hb0 hb1 hp2 h0 hp hd61 hk0
          go_wp2
          exact ⟨⟨p + 1 + 1, _, by go_num, by omega, fun h => by omega, HB, HN⟩, by simp [intOf]; omega⟩
      · have q63 := byte_ne (n := 63) (by decide) hc63
        have HN : Hid (Ch.quietF (c == 61) (s.data.toList.drop (k + 1)) = R) := Lib.hid (by rwa [if_neg (fun h => hc63 h.1)] at hst)
        have i63 := byte_neI (n := 63) (by decide) hc63
        clear hst hb0 hb1 hc63
        go_wp2
        exact ⟨⟨k + 1, _, by go_num, by omega, fun h => by omega, HB, HN⟩, by simp [intOf]; omega⟩
    · obtain rfl : k = s.size := by omega
      have he : s.data.toList.drop s.size = [] := List.drop_eq_nil_of_le (by rw [Lib.size_eq]; exact Nat.le_refl _)
      have hq2 := hq.out
      rw [he] at hq2
      have HF : Hid (true = R) := Lib.hid hq2
      clear hq hq2 he hb0 hb1
      go_wp2
      go_ret
      exact ⟨congrArg (fun b => Ending.returned (.bool b)) HF.out, rfl⟩

theorem str_add3 (n : ByteArray) : (⟨(61 :: 63 :: (n.data.toList ++ 63 :: Ch.tail8)).toArray⟩ : ByteArray) = ((⟨#[61, 63]⟩ : ByteArray) ++ n) ++ ⟨#[63, 113, 63, 97, 95, 98, 63, 61]⟩ := by
  have h : (((⟨#[61, 63]⟩ : ByteArray) ++ n) ++ ⟨#[63, 113, 63, 97, 95, 98, 63, 61]⟩).data.toList = 61 :: 63 :: (n.data.toList ++ 63 :: Ch.tail8) := by simp [Ch.tail8]
  rw [← h, Lib.mk_data]
theorem refl_str (X : ByteArray) : (X.toList == X.toList) = true := by simp
set_option maxHeartbeats 8000000 in
set_option maxRecDepth 100000 in
theorem keeps_law (s t : ByteArray) (w : World) (hE : EnvH w) (hs : s.size ≤ 9223372036854775807) (ht : t.size ≤ 9223372036854775807) :
    Calls Tryz.prog 8 #[.string s, .string t] w fun e w' => e = .returned (.bool true) ∧ Below w.heap.size w w' := by
  have HSm := Lib.hid (small_any w hE)
  have E0 := Lib.hid hE
  have HQs := Lib.hid (fun W => quiet_any s W hs)
  have HQt := Lib.hid (fun W => quiet_any t W ht)
  clear hE
  obtain ⟨a, ha⟩ : ∃ a, Ch.quiet s.data.toList = a := ⟨_, rfl⟩
  obtain ⟨b, hb⟩ : ∃ b, Ch.quiet t.data.toList = b := ⟨_, rfl⟩
  rw [ha] at HQs
  rw [hb] at HQt
  have HA := Lib.hid ha
  have HB := Lib.hid hb
  clear ha hb
  by_cases h1 : 1000 < (s.size : Int)
  · go_enter Tryz.func8, Tryz.ntmps8
    go_wp2_with (go_at_call 9; refine HSm.out.mono ?_; rintro e w1 ⟨rfl, hB1⟩)
    go_ret
    exact ⟨rfl, hB1⟩
  by_cases h2 : 100 < (t.size : Int)
  · go_enter Tryz.func8, Tryz.ntmps8
    go_wp2_with (go_at_call 9; refine HSm.out.mono ?_; rintro e w1 ⟨rfl, hB1⟩)
    go_ret
    exact ⟨rfl, hB1⟩
  have i1 : (s.size : Int) ≤ 1000 := by omega
  have i2 : (t.size : Int) ≤ 100 := by omega
  cases a with
  | false =>
    go_enter Tryz.func8, Tryz.ntmps8
    go_wp2_with (first
      | (go_at_call 26; refine (HQs.out _).mono ?_; rintro e w' ⟨rfl, rfl⟩)
      | (go_at_call 9; refine HSm.out.mono ?_; rintro e w1 ⟨rfl, hB1⟩))
    go_ret
    exact ⟨rfl, hB1⟩
  | true =>
    cases b with
    | false =>
      go_enter Tryz.func8, Tryz.ntmps8
      go_wp2_with (first
        | (go_at_call 26; with_reducible refine (HQs.out _).mono ?_; rintro e w' ⟨rfl, rfl⟩)
        | (go_at_call 26; with_reducible refine (HQt.out _).mono ?_; rintro e w' ⟨rfl, rfl⟩)
        | (go_at_call 9; refine HSm.out.mono ?_; rintro e w1 ⟨rfl, hB1⟩))
      go_ret
      exact ⟨rfl, hB1⟩
    | true =>
      have hws : Ch.words s.data.toList = s.data.toList := (Ch.deaf_start _ (Ch.quiet_start _ _ HA.out)).same
      have HW1 := Lib.hid (fun W h => words_to (s := s) hws (by omega) W h)
      rw [Lib.mk_data] at HW1
      have HU := Lib.hid (fun W h => utf8_any t ⟨#[]⟩ W h ht (by decide))
      unfold Ch.utf8 at HU
      dsimp only at HU
      obtain ⟨kn, hkn⟩ : ∃ kn, Ch.known (Tx.lowL t.data.toList) = kn := ⟨_, rfl⟩
      obtain ⟨tx, htx⟩ : ∃ tx, Ch.textIn (Tx.lowL t.data.toList) (⟨#[]⟩ : ByteArray).data.toList = tx := ⟨_, rfl⟩
      rw [hkn, htx] at HU
      have HK := Lib.hid hkn
      have r1 := refl_str s
      clear hws hkn htx
      go_enter Tryz.func8, Tryz.ntmps8
      go_wp2_with (first
        | (go_at_call 26; with_reducible refine (HQs.out _).mono ?_; rintro e w' ⟨rfl, rfl⟩)
        | (go_at_call 26; with_reducible refine (HQt.out _).mono ?_; rintro e w' ⟨rfl, rfl⟩)
        | (go_at_call 9; refine HSm.out.mono ?_; rintro e w1 ⟨rfl, hB1⟩))
      go_loopw [6] (fun i wr => ∃ k : Nat, i = .int .i64 k ∧ k ≤ t.size ∧ wr = w1 ∧ Hid (∀ c ∈ t.data.toList.take k, c ≠ 63)) (fun i _ => t.size - (intOf i).toNat)
      case atStart => exact ⟨0, rfl, Nat.zero_le _, rfl, fun c hc => by cases hc⟩
      case round =>
        obtain ⟨k, rfl, hk, rfl, hno⟩ := hrel
        by_cases hlt : k < t.size
        · have hg := Tx.get_of t k hlt
          obtain ⟨c, hc⟩ : ∃ c, t[k] = c := ⟨_, rfl⟩
          rw [hc] at hg
          by_cases hc63 : c = 63
          · subst hc63
            clear hg
            go_wp2
            go_ret
            exact ⟨rfl, hB1⟩
          · have q63 := byte_ne (n := 63) (by decide) hc63
            have HN : Hid (∀ c ∈ t.data.toList.take (k + 1), c ≠ 63) := Lib.hid fun x hx => by
              rw [List.take_add_one, hg] at hx
              rcases List.mem_append.1 hx with h | h
              · exact hno.out x h
              · simp at h; rw [h]; exact hc63
            clear hg hc63 hno
            go_wp2
            go_roundw
            case rel => exact ⟨k + 1, by go_num, by omega, (by first | rfl | trivial), HN.out⟩
            case measure => simp [intOf]; omega
        · obtain rfl : k = t.size := by omega
          have hno2 := hno.out
          rw [List.take_of_length_le (by rw [← Lib.size_eq]; exact Nat.le_refl _)] at hno2
          have E1 := Lib.hid (E0.out.new hB1)
          cases kn with
          | true =>
            clear hno hno2
            go_wp2_with (first
              | (go_at_call 10; refine (HU.out _ E1.out).mono ?_; rintro e w2 ⟨rfl, hB2⟩; have T2 := hB1.trans (hB2.mono hB1.size); have E2 := Lib.hid (E1.out.new hB2))
              | (go_at_call 18; with_reducible refine (HW1.out _ E2.out).mono ?_; rintro e w3 ⟨rfl, hB3⟩; have T3 := T2.trans (hB3.mono T2.size)))
            go_ret
            exact ⟨rfl, T3⟩
          | false =>
            have hww := (Ch.deaf_word _ hno2 HK.out).same
            obtain ⟨X, hX⟩ : ∃ X : ByteArray, ((⟨#[61, 63]⟩ : ByteArray) ++ t) ++ ⟨#[63, 113, 63, 97, 95, 98, 63, 61]⟩ = X := ⟨_, rfl⟩
            have hXl : X.data.toList = 61 :: 63 :: (t.data.toList ++ 63 :: Ch.tail8) := by rw [← hX, ← str_add3]
            have hXs : X.size ≤ 1000 := by
              rw [Lib.size_eq, hXl]
              simp [Ch.tail8]
              omega
            have HW2 := Lib.hid (fun W h => words_to (s := X) (o := X.data.toList) (by rw [hXl]; exact hww) (by omega) W h)
            rw [Lib.mk_data] at HW2
            have r2 := refl_str X
            have HX := Lib.hid hX
            clear hno hno2 hww hX hXl hXs
            go_wp2_with (first
              | (go_at_call 10; refine (HU.out _ E1.out).mono ?_; rintro e w2 ⟨rfl, hB2⟩; have T2 := hB1.trans (hB2.mono hB1.size); have E2 := Lib.hid (E1.out.new hB2))
              | (go_at_call 18; with_reducible refine (HW1.out _ E2.out).mono ?_; rintro e w3 ⟨rfl, hB3⟩; have T3 := T2.trans (hB3.mono T2.size); have E3 := Lib.hid (E2.out.new hB3))
              | (go_at_call 18; rw [HX.out]; with_reducible refine (HW2.out _ E3.out).mono ?_; rintro e w4 ⟨rfl, hB4⟩; have T4 := T3.trans (hB4.mono T3.size)))
            go_ret
            exact ⟨rfl, T4⟩
end Go.Proofs.YtdkocjdhekomoaaGreatDoor
