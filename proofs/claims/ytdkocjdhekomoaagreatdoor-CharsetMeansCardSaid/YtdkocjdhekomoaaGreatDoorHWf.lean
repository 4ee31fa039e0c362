/-
  charset.soundWord.
-/
import Derived.Test.YtdkocjdhekomoaaGreatDoorHWe
import Derived.Test.YtdkocjdhekomoaaGreatDoorCBack6
namespace Go.Proofs.YtdkocjdhekomoaaGreatDoor
open Go Go.RowKit Go.Shelf
namespace Cd
theorem from_ok : ∀ (ds : List UInt8) (st : St) (n : Nat), st.Ok n → (from_ st ds).Ok (n + ds.length)
  | [], _, _, h => h
  | c :: ds, st, n, h => by
    have := from_ok ds _ _ (h.step ((val64 c).getD 0))
    rw [List.length_cons, show n + (ds.length + 1) = n + 1 + ds.length by omega]
    exact this
theorem unb_len (l : List UInt8) : (unbase64 l).1.length ≤ l.length := by
  have h1 := (from_ok ((bare l).takeWhile isDig64) _ 0 St.Ok.start).out
  have h2 := (List.takeWhile_sublist (p := isDig64) (l := bare l)).length_le
  have h3 := bare_le l
  show (from_ ⟨0, 0, []⟩ ((bare l).takeWhile isDig64)).out.length ≤ _
  omega
end Cd
namespace Ch
theorem decode_len {le c d : List UInt8} (h : decode le c = some d) : d.length ≤ c.length := by
  unfold decode at h
  split at h
  · split at h
    · cases h; exact Cd.unb_len c
    · cases h
  · split at h
    · exact unq_len _ c d (Nat.le_refl _) h
    · cases h
end Ch
theorem utf8_list (n d : List UInt8) (w : World) (hE : EnvH w) (hn : n.length ≤ 1000000) (hd : d.length ≤ 1000000) :
    Calls Tryz.prog 10 #[.string ⟨n.toArray⟩, .string ⟨d.toArray⟩] w fun e w' => e = .returned (.tuple #[.string ⟨(Ch.textIn (Tx.lowL n) d).toArray⟩, .bool (Ch.known (Tx.lowL n))]) ∧ Below w.heap.size w w' := by
  have := utf8_any ⟨n.toArray⟩ ⟨d.toArray⟩ w hE (by rw [mk_len]; omega) (by rw [mk_len]; omega)
  rw [mk_list, mk_list] at this
  exact this
theorem isContent_list (c : List UInt8) (w : World) (hc : c.length ≤ 1000000) :
    Calls Tryz.prog 67 #[.string ⟨c.toArray⟩] w fun e w' => e = .returned (.bool (Ch.isContent c)) ∧ w = w' := by
  have := isContent_any ⟨c.toArray⟩ w (by rw [mk_len]; omega)
  rw [mk_list] at this
  exact this

theorem cutP_start (r : List UInt8) (w : World) :
    Calls Tryz.prog 65 #[.string ⟨(61 :: 63 :: r).toArray⟩, .string ⟨#[61, 63]⟩] w fun e w' => e = .returned (.tuple #[.string ⟨r.toArray⟩, .bool true]) ∧ Below w.heap.size w w' := cutP_yes [61, 63] r w
theorem cutP_sign (r : List UInt8) (w : World) :
    Calls Tryz.prog 65 #[.string ⟨(61 :: r).toArray⟩, .string ⟨#[61]⟩] w fun e w' => e = .returned (.tuple #[.string ⟨r.toArray⟩, .bool true]) ∧ Below w.heap.size w w' := cutP_yes [61] r w
theorem ret_sn {S : ByteArray} {r rest : List UInt8} (h : rest.length + 1 ≤ r.length) (ha : r.length ≤ 1000000) :
    Ending.returned (.tuple #[.string S, .int .i64 (wrap64 ((r.length : Int) + 1 + 1 - (rest.length : Int)))]) = .returned (.tuple #[.string S, .int .i64 (((61 :: 63 :: r).length - rest.length : Nat) : Int)]) := by
  have : wrap64 ((r.length : Int) + 1 + 1 - (rest.length : Int)) = (((61 :: 63 :: r).length - rest.length : Nat) : Int) := by
    simp only [List.length_cons]
    unfold wrap64
    omega
  rw [this]
/-- What soundWord returns of a string of n bytes. -/
def sndVal (n : Nat) : Option (List UInt8 × List UInt8) → Value
  | some (t, rest) => .tuple #[.string ⟨t.toArray⟩, .int .i64 ((n - rest.length : Nat) : Int)]
  | none => .tuple #[.string ⟨#[]⟩, .int .i64 0]
theorem snd_none {n : Nat} {x : Option (List UInt8 × List UInt8)} (h : x = none) : sndVal n x = .tuple #[.string ⟨#[]⟩, .int .i64 0] := by rw [h]; rfl
theorem snd_some {n : Nat} {x : Option (List UInt8 × List UInt8)} {t rest : List UInt8} (h : x = some (t, rest)) : sndVal n x = .tuple #[.string ⟨t.toArray⟩, .int .i64 ((n - rest.length : Nat) : Int)] := by rw [h]; rfl

set_option maxHeartbeats 8000000 in
set_option maxRecDepth 100000 in
theorem soundWord_any (l : List UInt8) (hl : l.length ≤ 1000000) (w : World) (hE : EnvH w) :
    Calls Tryz.prog 40 #[.string ⟨l.toArray⟩] w fun e w' => e = .returned (sndVal l.length (Ch.sound l)) ∧ Below w.heap.size w w' := by
  have E0 := Lib.hid hE
  clear hE
  by_cases hp : ([61, 63] : List UInt8).isPrefixOf l = true
  · obtain ⟨r, rfl⟩ : ∃ r, l = 61 :: 63 :: r := by
      obtain ⟨r, hr⟩ := List.isPrefixOf_iff_prefix.1 hp
      exact ⟨r, hr.symm⟩
    have hS : Ch.sound (61 :: 63 :: r) = Ch.meant (Ch.front r) (Ch.front (Ch.back r)) (Ch.front (Ch.back (Ch.back r))) (Ch.back (Ch.back (Ch.back r))) := rfl
    have lr : r.length ≤ 1000000 := by simp only [List.length_cons] at hl; omega
    have l1 := Ch.back_len r
    have l2 := Ch.back_len (Ch.back r)
    have l3 := Ch.back_len (Ch.back (Ch.back r))
    have f0 := Ch.front_len r
    have f2 := Ch.front_len (Ch.back (Ch.back r))
    have HP1 := Lib.hid (fun W => cutP_start r W)
    have HC1 := Lib.hid (fun W hE => cut_any r (by omega) W hE)
    have HC2 := Lib.hid (fun W hE => cut_any (Ch.back r) (by omega) W hE)
    have HC3 := Lib.hid (fun W hE => cut_any (Ch.back (Ch.back r)) (by omega) W hE)
    obtain ⟨n, hn⟩ : ∃ n, Ch.front r = n := ⟨_, rfl⟩
    obtain ⟨r1, h1⟩ : ∃ x, Ch.back r = x := ⟨_, rfl⟩
    rw [hn, h1] at HC1
    rw [h1] at HC2 HC3 l1 l2 l3 f2
    rw [hn] at f0
    rw [hn, h1] at hS
    obtain ⟨le, hle⟩ : ∃ x, Ch.front r1 = x := ⟨_, rfl⟩
    obtain ⟨r2, h2⟩ : ∃ x, Ch.back r1 = x := ⟨_, rfl⟩
    rw [hle, h2] at HC2
    rw [h2] at HC3 l2 l3 f2
    rw [hle, h2] at hS
    obtain ⟨c, hc⟩ : ∃ x, Ch.front r2 = x := ⟨_, rfl⟩
    obtain ⟨r3, h3⟩ : ∃ x, Ch.back r2 = x := ⟨_, rfl⟩
    rw [hc, h3] at HC3
    rw [h3] at l3
    rw [hc] at f2
    rw [hc, h3] at hS
    clear hn h1 hle h2 hc h3 hp
    have zc : c.length ≤ 1000000 := by omega
    have zn : n.length ≤ 1000000 := by omega
    have HI := Lib.hid (fun W => isContent_list c W zc)
    by_cases hq : ([61] : List UInt8).isPrefixOf r3 = true
    · obtain ⟨rest, rfl⟩ : ∃ rest, r3 = 61 :: rest := by
        obtain ⟨x, hx⟩ := List.isPrefixOf_iff_prefix.1 hq
        exact ⟨x, hx.symm⟩
      have HP2 := Lib.hid (fun W => cutP_sign rest W)
      clear hq
      cases hi : Ch.isContent c with
      | false =>
        rw [hi] at HI
        rw [snd_none (hS.trans (by unfold Ch.meant; simp [hi]))]
        clear hi hS l1 l2 l3 f0 f2
        go_enter Tryz.func40, Tryz.ntmps40
        go_wp2_with (first
          | (go_at_call 67; refine (HI.out _).mono ?_; rintro e w' ⟨rfl, rfl⟩)
          | (go_at_call 65; refine (HP2.out w4).mono ?_; rintro e w5 ⟨rfl, hB5⟩; have T5 := T4.trans (hB5.mono T4.size); have E5 := Lib.hid (E4.out.new hB5))
          | (go_at_call 66; refine (HC3.out w3 E3.out).mono ?_; rintro e w4 ⟨⟨b3, rfl⟩, hB4⟩; have T4 := T3.trans (hB4.mono T3.size); have E4 := Lib.hid (E3.out.new hB4))
          | (go_at_call 66; refine (HC2.out w2 E2.out).mono ?_; rintro e w3 ⟨⟨b2, rfl⟩, hB3⟩; have T3 := T2.trans (hB3.mono T2.size); have E3 := Lib.hid (E2.out.new hB3))
          | (go_at_call 66; refine (HC1.out w1 E1.out).mono ?_; rintro e w2 ⟨⟨b1, rfl⟩, hB2⟩; have T2 := hB1.trans (hB2.mono hB1.size); have E2 := Lib.hid (E1.out.new hB2))
          | (go_at_call 65; refine (HP1.out w).mono ?_; rintro e w1 ⟨rfl, hB1⟩; have E1 := Lib.hid (E0.out.new hB1)))
        go_ret2
        exact ⟨rfl, T5⟩
      | true =>
        rw [hi] at HI
        have HD := Lib.hid (fun W hE => decode_any le c W zc hE)
        cases hd : Ch.decode le c with
        | none =>
          rw [hd] at HD
          rw [snd_none (hS.trans (by unfold Ch.meant; simp [hi, hd]))]
          clear hi hd hS l1 l2 l3 f0 f2
          go_enter Tryz.func40, Tryz.ntmps40
          go_wp2_with (first
            | (go_at_call 68; refine (HD.out _ E5.out).mono ?_; rintro e w6 ⟨⟨S, rfl, -⟩, hB6⟩; have T6 := T5.trans (hB6.mono T5.size))
            | (go_at_call 67; refine (HI.out _).mono ?_; rintro e w' ⟨rfl, rfl⟩)
            | (go_at_call 65; refine (HP2.out w4).mono ?_; rintro e w5 ⟨rfl, hB5⟩; have T5 := T4.trans (hB5.mono T4.size); have E5 := Lib.hid (E4.out.new hB5))
            | (go_at_call 66; refine (HC3.out w3 E3.out).mono ?_; rintro e w4 ⟨⟨b3, rfl⟩, hB4⟩; have T4 := T3.trans (hB4.mono T3.size); have E4 := Lib.hid (E3.out.new hB4))
            | (go_at_call 66; refine (HC2.out w2 E2.out).mono ?_; rintro e w3 ⟨⟨b2, rfl⟩, hB3⟩; have T3 := T2.trans (hB3.mono T2.size); have E3 := Lib.hid (E2.out.new hB3))
            | (go_at_call 66; refine (HC1.out w1 E1.out).mono ?_; rintro e w2 ⟨⟨b1, rfl⟩, hB2⟩; have T2 := hB1.trans (hB2.mono hB1.size); have E2 := Lib.hid (E1.out.new hB2))
            | (go_at_call 65; refine (HP1.out w).mono ?_; rintro e w1 ⟨rfl, hB1⟩; have E1 := Lib.hid (E0.out.new hB1)))
          go_ret2
          exact ⟨rfl, T6⟩
        | some d =>
          rw [hd] at HD
          have zd : d.length ≤ 1000000 := Nat.le_trans (Ch.decode_len hd) zc
          have HU := Lib.hid (fun W hE => utf8_list n d W hE zn zd)
          cases hk : Ch.known (Tx.lowL n) with
          | false =>
            rw [hk] at HU
            rw [snd_none (hS.trans (by unfold Ch.meant; simp [hi, hd, hk]))]
            clear hi hd hk hS l1 l2 l3 f0 f2
            go_enter Tryz.func40, Tryz.ntmps40
            go_wp2_with (first
              | (go_at_call 10; refine (HU.out _ E6.out).mono ?_; rintro e w7 ⟨rfl, hB7⟩; have T7 := T6.trans (hB7.mono T6.size))
              | (go_at_call 68; refine (HD.out _ E5.out).mono ?_; rintro e w6 ⟨⟨S, rfl, hSd⟩, hB6⟩; obtain rfl := hSd d rfl; clear hSd; have T6 := T5.trans (hB6.mono T5.size); have E6 := Lib.hid (E5.out.new hB6))
              | (go_at_call 67; refine (HI.out _).mono ?_; rintro e w' ⟨rfl, rfl⟩)
              | (go_at_call 65; refine (HP2.out w4).mono ?_; rintro e w5 ⟨rfl, hB5⟩; have T5 := T4.trans (hB5.mono T4.size); have E5 := Lib.hid (E4.out.new hB5))
              | (go_at_call 66; refine (HC3.out w3 E3.out).mono ?_; rintro e w4 ⟨⟨b3, rfl⟩, hB4⟩; have T4 := T3.trans (hB4.mono T3.size); have E4 := Lib.hid (E3.out.new hB4))
              | (go_at_call 66; refine (HC2.out w2 E2.out).mono ?_; rintro e w3 ⟨⟨b2, rfl⟩, hB3⟩; have T3 := T2.trans (hB3.mono T2.size); have E3 := Lib.hid (E2.out.new hB3))
              | (go_at_call 66; refine (HC1.out w1 E1.out).mono ?_; rintro e w2 ⟨⟨b1, rfl⟩, hB2⟩; have T2 := hB1.trans (hB2.mono hB1.size); have E2 := Lib.hid (E1.out.new hB2))
              | (go_at_call 65; refine (HP1.out w).mono ?_; rintro e w1 ⟨rfl, hB1⟩; have E1 := Lib.hid (E0.out.new hB1)))
            go_ret2
            exact ⟨rfl, T7⟩
          | true =>
            rw [hk] at HU
            rw [snd_some (hS.trans (by unfold Ch.meant; simp [hi, hd, hk]; exact ⟨rfl, rfl⟩))]
            have hrr : rest.length + 1 ≤ r.length := by
              have : (61 :: rest).length ≤ r.length := by omega
              simpa using this
            have HZ := Lib.hid hrr
            clear hi hd hk hS l1 l2 l3 f0 f2 hrr zd
            go_enter Tryz.func40, Tryz.ntmps40
            go_wp2_with (first
              | (go_at_call 10; refine (HU.out _ E6.out).mono ?_; rintro e w7 ⟨rfl, hB7⟩; have T7 := T6.trans (hB7.mono T6.size))
              | (go_at_call 68; refine (HD.out _ E5.out).mono ?_; rintro e w6 ⟨⟨S, rfl, hSd⟩, hB6⟩; obtain rfl := hSd d rfl; clear hSd; have T6 := T5.trans (hB6.mono T5.size); have E6 := Lib.hid (E5.out.new hB6))
              | (go_at_call 67; refine (HI.out _).mono ?_; rintro e w' ⟨rfl, rfl⟩)
              | (go_at_call 65; refine (HP2.out w4).mono ?_; rintro e w5 ⟨rfl, hB5⟩; have T5 := T4.trans (hB5.mono T4.size); have E5 := Lib.hid (E4.out.new hB5))
              | (go_at_call 66; refine (HC3.out w3 E3.out).mono ?_; rintro e w4 ⟨⟨b3, rfl⟩, hB4⟩; have T4 := T3.trans (hB4.mono T3.size); have E4 := Lib.hid (E3.out.new hB4))
              | (go_at_call 66; refine (HC2.out w2 E2.out).mono ?_; rintro e w3 ⟨⟨b2, rfl⟩, hB3⟩; have T3 := T2.trans (hB3.mono T2.size); have E3 := Lib.hid (E2.out.new hB3))
              | (go_at_call 66; refine (HC1.out w1 E1.out).mono ?_; rintro e w2 ⟨⟨b1, rfl⟩, hB2⟩; have T2 := hB1.trans (hB2.mono hB1.size); have E2 := Lib.hid (E1.out.new hB2))
              | (go_at_call 65; refine (HP1.out w).mono ?_; rintro e w1 ⟨rfl, hB1⟩; have E1 := Lib.hid (E0.out.new hB1)))
            go_ret2
            exact ⟨ret_sn HZ.out lr, T7⟩
    · have hq2 : ([61] : List UInt8).isPrefixOf r3 = false := Bool.eq_false_iff.2 hq
      have HP2 := Lib.hid (fun W => cutP_no r3 [61] hq2 W)
      have hm : Ch.meant n le c r3 = none := by
        unfold Ch.meant
        match r3, hq2 with
        | [], _ => rfl
        | x :: y, hq2 =>
          by_cases hx : x = 61
          · subst hx; simp [List.isPrefixOf] at hq2
          · split
            · rename_i heq; cases heq; exact absurd rfl hx
            · rfl
      rw [snd_none (hS.trans hm)]
      clear hq hq2 hm hS l1 l2 l3 f0 f2
      go_enter Tryz.func40, Tryz.ntmps40
      go_wp2_with (first
        | (go_at_call 67; refine (HI.out _).mono ?_; rintro e w' ⟨rfl, rfl⟩)
        | (go_at_call 65; refine (HP2.out w4).mono ?_; rintro e w5 ⟨⟨S5, rfl⟩, hB5⟩; have T5 := T4.trans (hB5.mono T4.size); have E5 := Lib.hid (E4.out.new hB5))
        | (go_at_call 66; refine (HC3.out w3 E3.out).mono ?_; rintro e w4 ⟨⟨b3, rfl⟩, hB4⟩; have T4 := T3.trans (hB4.mono T3.size); have E4 := Lib.hid (E3.out.new hB4))
        | (go_at_call 66; refine (HC2.out w2 E2.out).mono ?_; rintro e w3 ⟨⟨b2, rfl⟩, hB3⟩; have T3 := T2.trans (hB3.mono T2.size); have E3 := Lib.hid (E2.out.new hB3))
        | (go_at_call 66; refine (HC1.out w1 E1.out).mono ?_; rintro e w2 ⟨⟨b1, rfl⟩, hB2⟩; have T2 := hB1.trans (hB2.mono hB1.size); have E2 := Lib.hid (E1.out.new hB2))
        | (go_at_call 65; refine (HP1.out w).mono ?_; rintro e w1 ⟨rfl, hB1⟩; have E1 := Lib.hid (E0.out.new hB1)))
      all_goals
        go_ret2
        exact ⟨rfl, T5⟩
  · have hp2 : ([61, 63] : List UInt8).isPrefixOf l = false := Bool.eq_false_iff.2 hp
    have HP1 := Lib.hid (fun W => cutP_no l [61, 63] hp2 W)
    have hm : Ch.sound l = none := by
      unfold Ch.sound
      split
      · rename_i r; simp [List.isPrefixOf] at hp2
      · rfl
    rw [snd_none hm]
    clear hp hp2 hm
    go_enter Tryz.func40, Tryz.ntmps40
    go_wp2_with (go_at_call 65; refine (HP1.out _).mono ?_; rintro e w1 ⟨⟨S, rfl⟩, hB1⟩)
    go_ret2
    exact ⟨rfl, hB1⟩
end Go.Proofs.YtdkocjdhekomoaaGreatDoor
