/-
  The contracts of text.lower, text.upper and text.Glob.
-/
import Derived.Test.YtpigplnnmhjbkaaDoorLines
import Derived.Test.YtpigplnnmhjbkaaDoorGlobP
namespace Go.Proofs.YtpigplnnmhjbkaaDoor
open Go Go.RowKit Go.Shelf
namespace Tx
theorem lowB_lo (c : UInt8) (h : 65 ≤ c.toNat ∧ c.toNat ≤ 90) : (lowB c).toNat = c.toNat + 32 := by
  unfold lowB
  rw [if_pos (by constructor <;> (rw [UInt8.le_iff_toNat_le]; simp; omega)), UInt8.toNat_add]
  simp; omega
theorem lowB_no (c : UInt8) (h : ¬ (65 ≤ c.toNat ∧ c.toNat ≤ 90)) : lowB c = c := by
  unfold lowB
  rw [if_neg]
  rintro ⟨h1, h2⟩
  rw [UInt8.le_iff_toNat_le] at h1 h2
  simp at h1 h2; omega
theorem upB_lo (c : UInt8) (h : 97 ≤ c.toNat ∧ c.toNat ≤ 122) : (upB c).toNat = c.toNat - 32 := by
  unfold upB
  rw [if_pos (by constructor <;> (rw [UInt8.le_iff_toNat_le]; simp; omega)), UInt8.toNat_sub]
  simp; omega
theorem upB_no (c : UInt8) (h : ¬ (97 ≤ c.toNat ∧ c.toNat ≤ 122)) : upB c = c := by
  unfold upB
  rw [if_neg]
  rintro ⟨h1, h2⟩
  rw [UInt8.le_iff_toNat_le] at h1 h2
  simp at h1 h2; omega
end Tx
theorem ret_byte {a b : Int} (h : a = b) : Ending.returned (.int .u8 a) = .returned (.int .u8 b) := by rw [h]

theorem lower_any (c : UInt8) (w : World) : Calls Tryd.prog 35 #[.int .u8 c.toNat] w fun e w' => e = .returned (.int .u8 (Tx.lowB c).toNat) ∧ w' = w := by
  have hc : c.toNat < 256 := UInt8.toNat_lt c
  by_cases h : 65 ≤ c.toNat ∧ c.toNat ≤ 90
  · have H := Lib.hid (Tx.lowB_lo c h)
    obtain ⟨h1, h2⟩ := h
    go_enter Tryd.func35, Tryd.ntmps35
    go_wp2
    go_ret
    exact ⟨ret_byte (by rw [H.out]; omega), rfl⟩
  · have H := Lib.hid (Tx.lowB_no c h)
    by_cases h1 : 65 ≤ c.toNat
    · have h2 : 90 < c.toNat := by omega
      clear h
      go_enter Tryd.func35, Tryd.ntmps35
      go_wp2
      go_ret
      exact ⟨ret_byte (by rw [H.out]), rfl⟩
    · clear h
      go_enter Tryd.func35, Tryd.ntmps35
      go_wp2
      go_ret
      exact ⟨ret_byte (by rw [H.out]), rfl⟩
theorem upper_any (c : UInt8) (w : World) : Calls Tryd.prog 37 #[.int .u8 c.toNat] w fun e w' => e = .returned (.int .u8 (Tx.upB c).toNat) ∧ w' = w := by
  have hc : c.toNat < 256 := UInt8.toNat_lt c
  by_cases h : 97 ≤ c.toNat ∧ c.toNat ≤ 122
  · have H := Lib.hid (Tx.upB_lo c h)
    obtain ⟨h1, h2⟩ := h
    go_enter Tryd.func37, Tryd.ntmps37
    go_wp2
    go_ret
    exact ⟨ret_byte (by rw [H.out]; omega), rfl⟩
  · have H := Lib.hid (Tx.upB_no c h)
    by_cases h1 : 97 ≤ c.toNat
    · have h2 : 122 < c.toNat := by omega
      clear h
      go_enter Tryd.func37, Tryd.ntmps37
      go_wp2
      go_ret
      exact ⟨ret_byte (by rw [H.out]), rfl⟩
    · clear h
      go_enter Tryd.func37, Tryd.ntmps37
      go_wp2
      go_ret
      exact ⟨ret_byte (by rw [H.out]), rfl⟩
namespace Tx
theorem get_of (s : ByteArray) (k : Nat) (h : k < s.size) : s.data.toList[k]? = some s[k] := Lib.data_getElem? s k h
end Tx
namespace Tx
theorem meas_star (S N p i en : Nat) (h : en ≤ i) (hp : p < N) : (S - i) * (N + 1) + (N - (p + 1)) < (S - en) * (N + 1) + (N - p) := by
  have := Nat.mul_le_mul_right (N + 1) (show S - i ≤ S - en by omega)
  omega
theorem meas_char (S N p en : Nat) (hp : p < N) : (S - en) * (N + 1) + (N - (p + 1)) < (S - en) * (N + 1) + (N - p) := by omega
theorem meas_back (S N p st en : Nat) (h : en < S) (_hs : st + 1 ≤ N) : (S - (en + 1)) * (N + 1) + (N - (st + 1)) < (S - en) * (N + 1) + (N - p) := by
  have e : S - en = (S - (en + 1)) + 1 := by omega
  rw [e, Nat.add_mul]
  omega
theorem miss_ne {c : UInt8} {k : Nat} (hk : k < 256) (h : (c.toNat : Int) ≠ k) : c ≠ UInt8.ofNat k := by
  rintro rfl
  apply h
  simp
  omega
end Tx
theorem ret_bool {a b : Bool} (h : a = b) : Ending.returned (.bool a) = .returned (.bool b) := by rw [h]
namespace Tx
theorem trim_done (P : ByteArray) (p : Nat) : (Lib.trimB ((P.data.toList.drop p).take (P.size - p)) 42).isEmpty = (P.data.toList.drop p).all (fun x => x == 42) := by
  rw [List.take_of_length_le (by rw [List.length_drop, ← Lib.size_eq]; omega), Bool.eq_iff_iff, List.isEmpty_iff, trimB_all]
end Tx
theorem drews_more {w wr : World} (h : ∃ n, wr = w.drewN n) (k : Nat) : ∃ n, wr.drewN k = w.drewN n := by
  obtain ⟨n, rfl⟩ := h
  exact ⟨n + k, World.drewN_drewN _ _ _⟩
theorem trimStar_calls (s : ByteArray) (w : World) (hs : s.size ≤ 9223372036854775807) :
    Calls Tryd.prog 38 #[.string s, .string ⟨#[42]⟩] w fun e w' => e = .returned (.string ⟨(Lib.trimB s.data.toList 42).toArray⟩) ∧ ∃ n, w' = w.drewN n :=
  (Any.strings_Trim_one Tryd.lays160 s 42 (by decide) w hs).mono fun _ _ ⟨h1, h2⟩ => ⟨h1, h2.elim (fun h => ⟨0, h⟩) (fun h => ⟨1, h⟩)⟩

set_option maxHeartbeats 4000000 in
set_option maxRecDepth 100000 in
theorem glob_any (P s : ByteArray) (w : World) (hP : P.size ≤ 1000000) (hs : s.size ≤ 1000000) :
    Calls Tryd.prog 31 #[.string P, .string s] w fun e w' => e = .returned (.bool (Tx.glob P.data.toList s.data.toList)) ∧ ∃ n, w' = w.drewN n := by
  have hPl := Lib.size_eq P
  have hsl := Lib.size_eq s
  go_enter Tryd.func31, Tryd.ntmps31
  go_wp2
  go_loopw [5, 6, 7, 8] (fun a b c d wr => ∃ (p i en : Nat) (star : Int), a = .int .i64 p ∧ b = .int .i64 i ∧ c = .int .i64 star ∧ d = .int .i64 en ∧ p ≤ P.size ∧ i ≤ s.size ∧ en ≤ i ∧ -1 ≤ star ∧ star ≤ 1000000 ∧ Hid (Tx.GInv P.data.toList s.data.toList p i star en) ∧ Hid (∃ n, wr = w.drewN n))
    (fun a b c d _ => (s.size - (intOf d).toNat) * (P.size + 1) + (P.size - (intOf a).toNat))
  case atStart => exact ⟨0, 0, 0, -1, rfl, rfl, rfl, rfl, by omega, by omega, by omega, by omega, by omega, Tx.GInv.start _ _, ⟨0, rfl⟩⟩
  case round =>
    obtain ⟨p, i, en, star, rfl, rfl, rfl, rfl, hp, hi, hen, hst1, hst2, hinv, hwr⟩ := hrel
    by_cases hlt : i < s.size
    · have gS := Tx.get_of s i hlt
      by_cases hpl : p < P.size
      · have gP := Tx.get_of P p hpl
        obtain ⟨x, hx⟩ : ∃ x, s[i] = x := ⟨_, rfl⟩
        obtain ⟨c, hc⟩ : ∃ c, P[p] = c := ⟨_, rfl⟩
        rw [hx] at gS
        rw [hc] at gP
        by_cases h42 : c = 42
        · have hb : ((c.toNat : Int) == 42) = true := by rw [h42]; rfl
          have HN := Lib.hid (hinv.out.star (by rw [gP, h42]) (by rw [← hsl]; omega))
          clear gS gP h42 hPl hsl
          go_wp2
          go_roundw
          case rel => exact ⟨p + 1, i, i, p, by go_num, rfl, rfl, rfl, by omega, by omega, by omega, by omega, by omega, HN.out, hwr⟩
          case measure => simpa [intOf] using Tx.meas_star s.size P.size p i en hen hpl
        · have hb : ((c.toNat : Int) == 42) = false := by
            rw [beq_eq_false_iff_ne]; intro e; exact h42 (by rw [← UInt8.toNat_inj]; simp; omega)
          by_cases hm : c = 63 ∨ Tx.lowB c = Tx.lowB x
          · have HN := Lib.hid (hinv.out.char gP h42 gS hm)
            by_cases h63 : c = 63
            · have hb2 : ((c.toNat : Int) == 63) = true := by rw [h63]; rfl
              clear gS gP h42 hPl hsl hm h63
              go_wp2
              go_quiet ((go_at_call 35; exact Calls.quiet_of_same (lower_any _ _)))
              go_wp2
              go_roundw
              case rel => exact ⟨p + 1, i + 1, en, star, by go_num, by go_num, rfl, rfl, by omega, by omega, by omega, by omega, by omega, HN.out, drews_more hwr.out _⟩
              case measure => simpa [intOf] using Tx.meas_char s.size P.size p en hpl
            · have hb2 : ((c.toNat : Int) == 63) = false := by
                rw [beq_eq_false_iff_ne]; intro e; exact h63 (by rw [← UInt8.toNat_inj]; simp; omega)
              have hb3 : (((Tx.lowB c).toNat : Int) == ((Tx.lowB x).toNat : Int)) = true := by
                rcases hm with hm | hm
                · exact absurd hm h63
                · rw [hm]; simp
              clear gS gP h42 hPl hsl hm h63
              go_wp2
              go_quiet ((go_at_call 35; exact Calls.quiet_of_same (lower_any _ _)))
              go_wp2
              go_roundw
              case rel => exact ⟨p + 1, i + 1, en, star, by go_num, by go_num, rfl, rfl, by omega, by omega, by omega, by omega, by omega, HN.out, drews_more hwr.out _⟩
              case measure => simpa [intOf] using Tx.meas_char s.size P.size p en hpl
          · have h63 : c ≠ 63 := fun e => hm (.inl e)
            have hne : Tx.lowB c ≠ Tx.lowB x := fun e => hm (.inr e)
            have hmiss := Tx.Miss.char gP h42 gS h63 hne
            have hb2 : ((c.toNat : Int) == 63) = false := by
              rw [beq_eq_false_iff_ne]; intro e; exact h63 (by rw [← UInt8.toNat_inj]; simp; omega)
            have hb3 : (((Tx.lowB c).toNat : Int) == ((Tx.lowB x).toNat : Int)) = false := by
              rw [beq_eq_false_iff_ne]; intro e; exact hne (by rw [← UInt8.toNat_inj]; omega)
            by_cases hsg : 0 ≤ star
            · obtain ⟨st, rfl⟩ := Int.eq_ofNat_of_zero_le hsg
              obtain ⟨hg1, hg2, _⟩ := hinv.out.back hmiss
              have HN := Lib.hid hg1
              rw [← hPl] at hg2
              clear gS gP h42 hPl hsl hm h63 hne hmiss hg1
              go_wp2
              go_quiet ((go_at_call 35; exact Calls.quiet_of_same (lower_any _ _)))
              go_wp2
              go_roundw
              case rel => exact ⟨st + 1, en + 1, en + 1, st, by go_num, by go_num, rfl, by go_num, by omega, by omega, by omega, by omega, by omega, HN.out, drews_more hwr.out _⟩
              case measure => simpa [intOf] using Tx.meas_back s.size P.size p st en (by omega) hg2
            · obtain rfl : star = -1 := by omega
              have HN := Lib.hid (hinv.out.false hmiss)
              clear gS gP h42 hPl hsl hm h63 hne hmiss hsg
              go_wp2
              go_quiet ((go_at_call 35; exact Calls.quiet_of_same (lower_any _ _)))
              go_wp2
              go_ret
              exact ⟨by rw [HN.out]; rfl, drews_more hwr.out _⟩
      · have hmiss : Tx.Miss P.data.toList s.data.toList p i := Tx.Miss.end (by omega) (by omega)
        have hgd : decide ((p : Int) < (P.size : Int)) = false := decide_eq_false (by omega)
        by_cases hsg : 0 ≤ star
        · obtain ⟨st, rfl⟩ := Int.eq_ofNat_of_zero_le hsg
          obtain ⟨hg1, hg2, _⟩ := hinv.out.back hmiss
          have HN := Lib.hid hg1
          rw [← hPl] at hg2
          clear gS hPl hsl hmiss hg1
          go_wp2
          go_quiet (fail)
          go_wp2
          go_roundw
          case rel => exact ⟨st + 1, en + 1, en + 1, st, by go_num, by go_num, rfl, by go_num, by omega, by omega, by omega, by omega, by omega, HN.out, drews_more hwr.out _⟩
          case measure => simpa [intOf] using Tx.meas_back s.size P.size p st en (by omega) hg2
        · obtain rfl : star = -1 := by omega
          have HN := Lib.hid (hinv.out.false hmiss)
          clear gS hPl hsl hmiss hsg
          go_wp2
          go_quiet (fail)
          go_wp2
          go_ret
          exact ⟨by rw [HN.out]; rfl, drews_more hwr.out _⟩
    · obtain rfl : i = s.size := by omega
      have hd := (show Tx.GInv P.data.toList s.data.toList p s.data.toList.length star en by rw [← hsl]; exact hinv.out).done
      have HD := Lib.hid hd
      have HT := Lib.hid (fun W => trimStar_calls (P.extract p P.size) W (by simp; omega))
      clear hd hPl hsl
      go_wp2_with (go_at_call 38; refine (HT.out _).mono ?_; rintro e w' ⟨rfl, n, rfl⟩)
      go_ret
      exact ⟨ret_bool (by rw [HD.out]; exact Tx.trim_done P p), drews_more hwr.out _⟩
end Go.Proofs.YtpigplnnmhjbkaaDoor
