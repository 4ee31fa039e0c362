/-
  charset.unquoted, decode, soundWord and Words.
-/
import Derived.Test.YtdkocjdhekomoaaGreatDoorHPb
import Derived.Test.YtdkocjdhekomoaaGreatDoorHWp
import Derived.Test.YtdkocjdhekomoaaGreatDoorHTr
import Derived.Test.YtdkocjdhekomoaaGreatDoorCDec
namespace Go.Proofs.YtdkocjdhekomoaaGreatDoor
open Go Go.RowKit Go.Shelf
theorem byte_ne {c : UInt8} {n : Nat} (hn : n < 256) (h : c ≠ UInt8.ofNat n) : ((c.toNat : Int) == (n : Int)) = false := by
  rw [beq_eq_false_iff_ne]
  intro e
  apply h
  apply UInt8.toNat_inj.1
  have : c.toNat = n := by omega
  rw [this]; simp; omega
theorem bld_below {B b : Nat} {l : List UInt8} {W W' : World} (h : Bld B b l W) (hb : Below W.heap.size W W') : Bld B b l W' := builder_kept h (grown_below hb none) (fun _ h => by cases h)

set_option maxHeartbeats 4000000 in
set_option maxRecDepth 100000 in
theorem unquoted_any (s : ByteArray) (w : World) (hs : s.size ≤ 100000000) (hE : EnvH w) :
    Calls Tryz.prog 94 #[.string s] w fun e w' => e = .returned (.tuple #[.string ⟨((Ch.unq s.data.toList).getD []).toArray⟩, .bool (Ch.unq s.data.toList).isSome]) ∧ Below w.heap.size w w' := by
  obtain ⟨R, hR⟩ : ∃ R, Ch.unq s.data.toList = R := ⟨_, rfl⟩
  rw [hR]
  have HR := Lib.hid hR
  clear hR
  have HF := Lib.hid (Bld.fresh w)
  have HEn := Lib.hid hE
  clear hE
  obtain ⟨b, hb⟩ : ∃ b, w.heap.size = b := ⟨_, rfl⟩
  have HS := Lib.hid hb
  go_enter Tryz.func94, Tryz.ntmps94
  go_wp2
  go_loopw [5] (fun i wr => ∃ (k : Nat) (out : List UInt8), k ≤ s.size ∧ i = .int .i64 k ∧ Hid (Ch.Uq s.data.toList out (s.data.toList.drop k)) ∧ out.length ≤ k ∧ Bld b b out wr ∧ Below b w wr) (fun i _ => s.size - (intOf i).toNat)
  case atStart => exact ⟨0, [], Nat.zero_le _, rfl, Ch.Uq.start _, Nat.le_refl _, by rw [← hb]; exact HF.out, by rw [← hb]; exact (Below.refl _ w).alloc (Nat.le_refl _) _⟩
  case round =>
    obtain ⟨k, out, hk, rfl, hU, hol, hBl, hBe⟩ := hrel
    clear hb HF
    have hsz : b ≤ wr.heap.size := by have := hBe.size; have := HS.out; omega
    by_cases hlt : k < s.size
    · have hd := drop_next s k hlt
      obtain ⟨c, hc⟩ : ∃ c, s[k] = c := ⟨_, rfl⟩
      rw [hc] at hd
      have hU2 := hU.out
      rw [hd] at hU2
      clear hd hU
      by_cases h95 : c = 95
      · subst h95
        have HN := Lib.hid hU2.us
        clear hU2
        go_wp2_with (first
          | (go_at_call 103; refine (wb_any b b _ 32 _ hBl (by omega) hsz).mono ?_; rintro e w2 ⟨rfl, hBl2, hB2, -⟩))
        go_roundw
        case rel => exact ⟨k + 1, out ++ [32], by omega, by go_num, HN.out, by simp; omega, hBl2, hBe.trans hB2⟩
        case measure => simp [intOf]; omega
      · have q95 := byte_ne (n := 95) (by decide) h95
        by_cases h61 : c = 61
        · subst h61
          have HEr : Hid (EnvH wr) := Lib.hid (HEn.out.below hBe (by rw [← HS.out]; exact HEn.out.size))
          cases hx : Cd.hex2 (s.data.toList.drop (k + 1)) with
          | none =>
            have HN : Hid (none = R) := Lib.hid ((hU2.bad hx).symm.trans HR.out)
            have HX := Lib.hid hx
            have HY := Lib.hid (fun W hE => hexByte_no (s.extract (k + 1) s.size) W (by rw [extract_end]; exact HX.out) hE)
            clear hU2 hx
            go_wp2_with (first
              | (go_at_call 117; refine (HY.out _ HEr.out).mono ?_; rintro e w2 ⟨⟨v, rfl⟩, hB2⟩))
            go_ret2
            exact ⟨by rw [← HN.out]; rfl, by have hB3 := hB2.mono hsz; rw [HS.out]; exact hBe.trans hB3⟩
          | some x =>
            have HN := Lib.hid (hU2.hex hx)
            have hl : 2 ≤ (s.data.toList.drop (k + 1)).length := by
              match s.data.toList.drop (k + 1), hx with
              | _ :: _ :: _, _ => simp
            rw [List.length_drop, ← Lib.size_eq] at hl
            rw [List.drop_drop] at HN
            have HX := Lib.hid hx
            have HY := Lib.hid (fun W => hexByte_yes (s.extract (k + 1) s.size) x W (by rw [extract_end]; exact HX.out))
            clear hU2 hx
            have hk3 : k + 3 ≤ s.size := by omega
            go_wp2_with (first
              | (go_at_call 117; refine (HY.out _).mono ?_; rintro e w2 ⟨rfl, hB2⟩; have hBl2 := bld_below hBl hB2; have hs2 := Nat.le_trans hsz hB2.size)
              | (go_at_call 103; refine (wb_any b b _ x _ hBl2 (by omega) hs2).mono ?_; rintro e w3 ⟨rfl, hBl3, hB3, -⟩))
            go_roundw
            case rel => exact ⟨k + 3, out ++ [x], by omega, by go_num, HN.out, by simp; omega, hBl3, (hBe.trans (hB2.mono hsz)).trans hB3⟩
            case measure => simp [intOf]; omega
        · have q61 := byte_ne (n := 61) (by decide) h61
          have HN := Lib.hid (hU2.other h95 h61)
          clear hU2 h61 h95
          go_wp2_with (first
            | (go_at_call 103; refine (wb_any b b _ c _ hBl (by omega) hsz).mono ?_; rintro e w2 ⟨rfl, hBl2, hB2, -⟩))
          go_roundw
          case rel => exact ⟨k + 1, out ++ [c], by omega, by go_num, HN.out, by simp; omega, hBl2, hBe.trans hB2⟩
          case measure => simp [intOf]; omega
    · obtain rfl : k = s.size := by omega
      have he : s.data.toList.drop s.size = [] := List.drop_eq_nil_of_le (by rw [Lib.size_eq]; exact Nat.le_refl _)
      rw [he] at hU
      have HE : Hid (some out = R) := Lib.hid (hU.out.end_.symm.trans HR.out)
      clear hU he
      go_wp2_with (go_at_call 39; refine (str_any b b _ _ hBl hsz).mono ?_; rintro e w2 ⟨rfl, hB2, -⟩)
      go_ret2
      exact ⟨by rw [← HE.out]; rfl, by rw [HS.out]; exact hBe.trans hB2⟩
end Go.Proofs.YtdkocjdhekomoaaGreatDoor
