/-
  codec.Percent.
-/
import Derived.Test.YtehnjoggilomfaaDoorCEnds
namespace Go.Proofs.YtehnjoggilomfaaDoor
open Go Go.RowKit Go.Shelf
namespace Cd
theorem perB_len (c : UInt8) : (perB c).length ≤ 3 := by
  unfold perB
  split
  · simp
  · split <;> simp
theorem percent_snoc (l : List UInt8) (c : UInt8) : percent (l ++ [c]) = percent l ++ perB c := by simp [percent]
theorem percent_len : ∀ l : List UInt8, (percent l).length ≤ 3 * l.length
  | [] => by decide
  | c :: l => by
    have h1 := perB_len c
    have h2 := percent_len l
    have e : percent (c :: l) = perB c ++ percent l := by simp [percent]
    rw [e, List.length_append, List.length_cons]; omega
end Cd
theorem retS {l m : List UInt8} (h : l = m) : Ending.returned (.string ⟨l.toArray⟩) = .returned (.string ⟨m.toArray⟩) := by rw [h]
theorem take_next (s : ByteArray) (k : Nat) (h : k < s.size) : s.data.toList.take (k + 1) = s.data.toList.take k ++ [s[k]'h] := by
  rw [List.take_succ_eq_append_getElem (by simpa using h)]; rfl
theorem byte_ne {c : UInt8} {n : Nat} (hn : n < 256) (h : c ≠ UInt8.ofNat n) : ((c.toNat : Int) == (n : Int)) = false := by
  rw [beq_eq_false_iff_ne]
  intro e
  apply h
  apply UInt8.toNat_inj.1
  have : c.toNat = n := by omega
  rw [this]; simp; omega
theorem byte_eq {c : UInt8} {n : Nat} (hn : n < 256) (h : c = UInt8.ofNat n) : ((c.toNat : Int) == (n : Int)) = true := by
  subst h
  rw [beq_iff_eq]
  simp; omega

set_option maxHeartbeats 2000000 in
set_option maxRecDepth 100000 in
theorem percent_any (s : ByteArray) (w : World) (hs : s.size ≤ 100000000) :
    Calls Tryd.prog 14 #[.string s] w fun e w' => e = .returned (.string ⟨(Cd.percent s.data.toList).toArray⟩) ∧ Below w.heap.size w w' := by
  have HD := Lib.hid (digitsOf_any ⟨#[48, 49, 50, 51, 52, 53, 54, 55, 56, 57, 65, 66, 67, 68, 69, 70]⟩ w (by decide))
  go_enter Tryd.func14, Tryd.ntmps14
  go_wp2_with fail
  refine HD.out.mono ?_
  rintro e w1 ⟨rfl, hT, hB1⟩
  have hT : Tab w.heap.size 16 (Cd.digF Cd.hexs 16) w1 := hT
  have htl := hT.lt
  have HF := Lib.hid (Bld.fresh w1)
  obtain ⟨b, hb⟩ : ∃ b, w1.heap.size = b := ⟨_, rfl⟩
  have HS := Lib.hid hb
  rw [hb] at htl
  go_wp2
  go_loopw [10] (fun i wr => ∃ k : Nat, k ≤ s.size ∧ i = .int .i64 k ∧ Bld b b (Cd.percent (s.data.toList.take k)) wr ∧ Below b w1 wr) (fun i _ => s.size - (intOf i).toNat)
  case atStart => exact ⟨0, Nat.zero_le _, rfl, by rw [← hb]; exact HF.out, by rw [← hb]; exact (Below.refl _ w1).alloc (Nat.le_refl _) _⟩
  case round =>
    obtain ⟨k, hk, rfl, hBl, hBe⟩ := hrel
    clear hb HF
    have hTr := hT.below hBe htl
    have hsz : b ≤ wr.heap.size := by have := hBe.size; have := HS.out; omega
    have hpl : (Cd.percent (s.data.toList.take k)).length ≤ 3 * k := Nat.le_trans (Cd.percent_len _) (by have := List.length_take_le k s.data.toList; omega)
    by_cases hlt : k < s.size
    · have HT := Lib.hid (take_next s k hlt)
      obtain ⟨c, hc⟩ : ∃ c, s[k] = c := ⟨_, rfl⟩
      rw [hc] at HT
      have HU := Lib.hid (isUnreserved_any c)
      cases hf : Cd.freeB c with
      | true =>
        rw [hf] at HU
        have HP : Hid (Cd.perB c = [c]) := by show _ = _; unfold Cd.perB; rw [if_pos hf]
        clear hf
        go_wp2_with (first
          | (go_at_call 36; refine (HU.out _).mono ?_; rintro e w' ⟨rfl, rfl⟩)
          | (go_at_call 23; refine (wb_any b b _ c _ hBl (by omega) hsz).mono ?_; rintro e w2 ⟨rfl, hBl2, hB2, -⟩))
        go_roundw
        case rel => exact ⟨k + 1, by omega, by go_num, by rw [HT.out, Cd.percent_snoc, HP.out]; exact hBl2, hBe.trans hB2⟩
        case measure => simp [intOf]; omega
      | false =>
        rw [hf] at HU
        by_cases h32 : c = 32
        · have hq := byte_eq (n := 32) (by decide) h32
          have HP : Hid (Cd.perB c = [43]) := by show _ = _; unfold Cd.perB; rw [if_neg (by rw [hf]; decide), if_pos h32]
          clear hf h32
          go_wp2_with (first
            | (go_at_call 36; refine (HU.out _).mono ?_; rintro e w' ⟨rfl, rfl⟩)
            | (go_at_call 23; refine (wb_any b b _ 43 _ hBl (by omega) hsz).mono ?_; rintro e w2 ⟨rfl, hBl2, hB2, -⟩))
          go_roundw
          case rel => exact ⟨k + 1, by omega, by go_num, by rw [HT.out, Cd.percent_snoc, HP.out]; exact hBl2, hBe.trans hB2⟩
          case measure => simp [intOf]; omega
        · have hq := byte_ne (n := 32) (by decide) h32
          have HP : Hid (Cd.perB c = [37, Cd.hexD (c.toNat / 16), Cd.hexD (c.toNat % 16)]) := by show _ = _; unfold Cd.perB; rw [if_neg (by rw [hf]; decide), if_neg h32]
          clear hf h32
          go_wp2_with (first
            | (go_at_call 36; refine (HU.out _).mono ?_; rintro e w' ⟨rfl, rfl⟩)
            | (go_at_call 35; refine (writeHex_any b b _ 37 c _ _ _ hBl hTr htl (by omega) hsz).mono ?_; rintro e w2 ⟨rfl, hBl2, hB2, -⟩))
          go_roundw
          case rel => exact ⟨k + 1, by omega, by go_num, by rw [HT.out, Cd.percent_snoc, HP.out]; exact hBl2, hBe.trans hB2⟩
          case measure => simp [intOf]; omega
    · obtain rfl : k = s.size := by omega
      have HE : Hid (s.data.toList.take s.size = s.data.toList) := List.take_of_length_le (by rw [Lib.size_eq]; exact Nat.le_refl _)
      go_wp2_with (go_at_call 24; refine (str_any b b _ _ hBl hsz).mono ?_; rintro e w2 ⟨rfl, hB2, -⟩)
      go_ret
      refine ⟨retS (by rw [HE.out]), hB1.trans ((hBe.trans hB2).mono (by have := hB1.size; have := HS.out; omega))⟩
end Go.Proofs.YtehnjoggilomfaaDoor
