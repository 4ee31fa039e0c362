/-
  codec.Quoted.
-/
import Derived.Test.YtehnjoggilomfaaDoorCUnq
namespace Go.Proofs.YtehnjoggilomfaaDoor
open Go Go.RowKit Go.Shelf
namespace Cd
/-- What has been written, the width of the line, and what is still to be read. -/
def Qi (L out : List UInt8) (w : Nat) (rest : List UInt8) : Prop := out ++ quo w rest = quo 0 L
theorem Qi.nl {L out r : List UInt8} {w : Nat} (h : Qi L out w (10 :: r)) : Qi L (out ++ [10]) 0 r := by
  unfold Qi at h ⊢
  rw [quo, if_pos rfl] at h
  rw [← h]; simp
theorem Qi.keep {L out r F : List UInt8} {w : Nat} {c : UInt8} (h : Qi L out w (c :: r)) (hc : c ≠ 10) (hF : form c (lastB r) = F) (hl : w + F.length ≤ limit (lastB r)) : Qi L (out ++ F) (w + F.length) r := by
  unfold Qi at h ⊢
  rw [quo, if_neg hc, hF, if_neg (by omega)] at h
  rw [← h]; simp
theorem Qi.brk {L out r F : List UInt8} {w : Nat} {c : UInt8} (h : Qi L out w (c :: r)) (hc : c ≠ 10) (hF : form c (lastB r) = F) (hl : limit (lastB r) < w + F.length) : Qi L (out ++ [61, 10] ++ F) F.length r := by
  unfold Qi at h ⊢
  rw [quo, if_neg hc, hF, if_pos (by omega)] at h
  rw [← h]; simp
theorem form_plain {c : UInt8} {last : Bool} (h : plainB c last = true) : form c last = [c] := by unfold form; rw [if_pos h]
theorem form_hex {c : UInt8} {last : Bool} (h : plainB c last = false) : form c last = [61, hexD (c.toNat / 16), hexD (c.toNat % 16)] := by unfold form; rw [if_neg (by rw [h]; decide)]
def vis (c : UInt8) : Bool := (decide (33 ≤ c) && decide (c ≤ 126)) && (c != 61)
theorem plain_eq (c : UInt8) (last : Bool) : plainB c last = (vis c || ((c == 32 || c == 9) && !last)) := rfl
theorem vis_eq (c : UInt8) : vis c = ((decide (33 ≤ (c.toNat : Int)) && decide ((c.toNat : Int) ≤ 126)) && ((c.toNat : Int) != 61)) := by
  have H : ∀ k : Fin 256, vis (UInt8.ofNat k.val) = ((decide (33 ≤ (k.val : Int)) && decide ((k.val : Int) ≤ 126)) && ((k.val : Int) != 61)) := by decide +kernel
  have := H ⟨c.toNat, UInt8.toNat_lt c⟩
  simpa only [UInt8.ofNat_toNat] using this
end Cd
theorem byte_neN {c : UInt8} {n : Nat} (hn : n < 256) (h : c ≠ UInt8.ofNat n) : ((c.toNat : Int) != (n : Int)) = true := by
  unfold bne; rw [byte_ne hn h]; rfl
/-- The kinds of bytes. -/
theorem kinds (c : UInt8) : (33 ≤ (c.toNat : Int) ∧ (c.toNat : Int) ≤ 126 ∧ ((c.toNat : Int) != 61) = true ∧ (∀ l, Cd.plainB c l = true)) ∨ (c = 61 ∧ ∀ l, Cd.plainB 61 l = false) ∨ (c = 32 ∧ ∀ l, Cd.plainB 32 l = !l) ∨ (c = 9 ∧ ∀ l, Cd.plainB 9 l = !l) ∨
    ((c.toNat : Int) < 33 ∧ ((c.toNat : Int) == 32) = false ∧ ((c.toNat : Int) == 9) = false ∧ ∀ l, Cd.plainB c l = false) ∨ (126 < (c.toNat : Int) ∧ 33 ≤ (c.toNat : Int) ∧ ((c.toNat : Int) == 32) = false ∧ ((c.toNat : Int) == 9) = false ∧ ∀ l, Cd.plainB c l = false) := by
  by_cases h61 : c = 61
  · exact .inr (.inl ⟨h61, by decide⟩)
  by_cases h32 : c = 32
  · exact .inr (.inr (.inl ⟨h32, by decide⟩))
  by_cases h9 : c = 9
  · exact .inr (.inr (.inr (.inl ⟨h9, by decide⟩)))
  have q61 : ((c.toNat : Int) != 61) = true := byte_neN (n := 61) (by decide) h61
  have q32 : ((c.toNat : Int) == 32) = false := byte_ne (n := 32) (by decide) h32
  have q9 : ((c.toNat : Int) == 9) = false := byte_ne (n := 9) (by decide) h9
  have hb : (c == 32 || c == 9) = false := by rw [beq_eq_false_iff_ne.2 h32, beq_eq_false_iff_ne.2 h9]; rfl
  by_cases a1 : 33 ≤ (c.toNat : Int)
  · by_cases a2 : (c.toNat : Int) ≤ 126
    · refine .inl ⟨a1, a2, q61, fun l => ?_⟩
      rw [Cd.plain_eq, Cd.vis_eq, decide_eq_true a1, decide_eq_true a2, q61]; rfl
    · refine .inr (.inr (.inr (.inr (.inr ⟨by omega, a1, q32, q9, fun l => ?_⟩))))
      rw [Cd.plain_eq, Cd.vis_eq, decide_eq_false a2, hb]; simp
  · refine .inr (.inr (.inr (.inr (.inl ⟨by omega, q32, q9, fun l => ?_⟩))))
    rw [Cd.plain_eq, Cd.vis_eq, decide_eq_false a1, hb]; simp

set_option maxHeartbeats 8000000 in
set_option maxRecDepth 100000 in
theorem quoted_any (s : ByteArray) (w : World) (hs : s.size ≤ 100000000) :
    Calls Tryd.prog 12 #[.string s] w fun e w' => e = .returned (.string ⟨(Cd.quoted s.data.toList).toArray⟩) ∧ Below w.heap.size w w' := by
  have HD := Lib.hid (digitsOf_any ⟨#[48, 49, 50, 51, 52, 53, 54, 55, 56, 57, 65, 66, 67, 68, 69, 70]⟩ w (by decide))
  go_enter Tryd.func12, Tryd.ntmps12
  go_wp2_with fail
  refine HD.out.mono ?_
  rintro e w1 ⟨rfl, hT, hB1⟩
  have hT : Tab w.heap.size 16 (Cd.digF Cd.hexs 16) w1 := hT
  have htl := hT.lt
  have HF := Lib.hid (Bld.fresh w1)
  obtain ⟨b, hb⟩ : ∃ b, w1.heap.size = b := ⟨_, rfl⟩
  have HS := Lib.hid hb
  rw [hb] at htl
  generalize hL : s.data.toList = L
  have HLL := Lib.hid hL
  clear hL
  go_wp2
  go_loopw [5, 15] (fun wv i wr => ∃ (k q : Nat) (out : List UInt8), k ≤ s.size ∧ i = .int .i64 k ∧ wv = .int .i64 q ∧ q ≤ 76 ∧ out.length ≤ 5 * k ∧ Hid (Cd.Qi L out q (s.data.toList.drop k)) ∧ Bld b b out wr ∧ Below b w1 wr) (fun _ i _ => s.size - (intOf i).toNat)
  case atStart => exact ⟨0, 0, [], Nat.zero_le _, rfl, rfl, by omega, by simp, by rw [← HLL.out]; exact List.nil_append _, by rw [← hb]; exact HF.out, by rw [← hb]; exact (Below.refl _ w1).alloc (Nat.le_refl _) _⟩
  case round =>
    obtain ⟨k, q, out, hk, rfl, rfl, hq, hol, hU, hBl, hBe⟩ := hrel
    clear hb HF
    have hTr := hT.below hBe htl
    have hsz : b ≤ wr.heap.size := by have := hBe.size; have := HS.out; omega
    by_cases hlt : k < s.size
    · have hd := drop_next s k hlt
      obtain ⟨c, hc⟩ : ∃ c, s[k] = c := ⟨_, rfl⟩
      rw [hc] at hd
      have hU2 := hU.out
      rw [hd] at hU2
      clear hd hU
      have cl := UInt8.toNat_lt c
      by_cases h10 : c = 10
      · subst h10
        have HN := Lib.hid hU2.nl
        clear hU2
        go_wp2_with (first
          | (go_at_call 23; refine (wb_any b b _ 10 _ hBl (by omega) hsz).mono ?_; rintro e w2 ⟨rfl, hBl2, hB2, -⟩))
        go_roundw
        case rel => exact ⟨k + 1, 0, out ++ [10], by omega, by go_num, rfl, by omega, by simp; omega, HN.out, hBl2, hBe.trans hB2⟩
        case measure => simp [intOf]; omega
      · have q10 := byte_ne (n := 10) (by decide) h10
        by_cases hk1 : k + 1 = s.size
        · have hla : Cd.lastB (s.data.toList.drop (k + 1)) = true := by
            rw [List.drop_eq_nil_of_le (by rw [← Lib.size_eq]; omega)]; rfl
          have hb1 : ((k : Int) + 1 == (s.size : Int)) = true := by rw [beq_iff_eq]; omega
          have hk2 : k + 1 ≤ s.size := by omega
          have hk3 : s.size ≤ k + 1 := by omega
          clear hk1
          rcases kinds c with ⟨a1, a2, a3, hpl⟩ | ⟨rfl, hpl⟩ | ⟨rfl, hpl⟩ | ⟨rfl, hpl⟩ | ⟨a1, a2, a3, hpl⟩ | ⟨a1, a2, a3, a4, hpl⟩
          · by_cases hov : (76 : Int) < (q : Int) + 1
            · have hov2 : 76 < q + 1 := by omega
              have hF : Cd.form c (Cd.lastB (s.data.toList.drop (k + 1))) = [c] := by rw [hla]; exact Cd.form_plain (hpl true)
              have HN := Lib.hid (hU2.brk h10 hF (by rw [hla]; simp [Cd.limit]; omega))
              clear hU2 hF hpl hla h10
              go_wp2_with (first
                | (go_at_call 34; refine (ws_any b b out ⟨#[61, 10]⟩ _ hBl (by simp [ByteArray.size]; omega) hsz).mono ?_; rintro e w2 ⟨rfl, hBl2, hB2, -⟩; have hsz2 := Nat.le_trans hsz hB2.size; have hTr2 := hTr.below hB2 htl; have hol2 : (out ++ (⟨#[61, 10]⟩ : ByteArray).data.toList).length ≤ 5 * k + 2 := by simp; omega)
                | (go_at_call 23; refine (wb_any b b _ c _ hBl2 (by omega) hsz2).mono ?_; rintro e w3 ⟨rfl, hBl3, hB3, -⟩))
              go_roundw
              case rel => exact ⟨k + 1, 1, (out ++ [61, 10] ++ [c]), by omega, by go_num, by rfl, by omega, by simp; omega, HN.out, hBl3, (hBe.trans hB2).trans hB3⟩
              case measure => simp [intOf]; omega
            · have hov2 : q + 1 ≤ 76 := by omega
              have hF : Cd.form c (Cd.lastB (s.data.toList.drop (k + 1))) = [c] := by rw [hla]; exact Cd.form_plain (hpl true)
              have HN := Lib.hid (hU2.keep h10 hF (by rw [hla]; simp [Cd.limit]; omega))
              clear hU2 hF hpl hla h10
              go_wp2_with (first
                | (go_at_call 23; refine (wb_any b b _ c _ hBl (by omega) hsz).mono ?_; rintro e w3 ⟨rfl, hBl3, hB3, -⟩))
              go_roundw
              case rel => exact ⟨k + 1, q + 1, (out ++ [c]), by omega, by go_num, by go_num, by omega, by simp; omega, HN.out, hBl3, hBe.trans hB3⟩
              case measure => simp [intOf]; omega
          · by_cases hov : (76 : Int) < (q : Int) + 3
            · have hov2 : 76 < q + 3 := by omega
              have hF : Cd.form 61 (Cd.lastB (s.data.toList.drop (k + 1))) = [61, Cd.hexD (UInt8.toNat 61 / 16), Cd.hexD (UInt8.toNat 61 % 16)] := by rw [hla]; exact Cd.form_hex (hpl true)
              have HN := Lib.hid (hU2.brk h10 hF (by rw [hla]; simp [Cd.limit]; omega))
              clear hU2 hF hpl hla h10
              go_wp2_with (first
                | (go_at_call 34; refine (ws_any b b out ⟨#[61, 10]⟩ _ hBl (by simp [ByteArray.size]; omega) hsz).mono ?_; rintro e w2 ⟨rfl, hBl2, hB2, -⟩; have hsz2 := Nat.le_trans hsz hB2.size; have hTr2 := hTr.below hB2 htl; have hol2 : (out ++ (⟨#[61, 10]⟩ : ByteArray).data.toList).length ≤ 5 * k + 2 := by simp; omega)
                | (go_at_call 35; refine (writeHex_any b b _ 61 61 _ _ _ hBl2 hTr2 htl (by omega) hsz2).mono ?_; rintro e w3 ⟨rfl, hBl3, hB3, -⟩))
              go_roundw
              case rel => exact ⟨k + 1, 3, (out ++ [61, 10] ++ [61, Cd.hexD (UInt8.toNat 61 / 16), Cd.hexD (UInt8.toNat 61 % 16)]), by omega, by go_num, by rfl, by omega, by simp; omega, HN.out, hBl3, (hBe.trans hB2).trans hB3⟩
              case measure => simp [intOf]; omega
            · have hov2 : q + 3 ≤ 76 := by omega
              have hF : Cd.form 61 (Cd.lastB (s.data.toList.drop (k + 1))) = [61, Cd.hexD (UInt8.toNat 61 / 16), Cd.hexD (UInt8.toNat 61 % 16)] := by rw [hla]; exact Cd.form_hex (hpl true)
              have HN := Lib.hid (hU2.keep h10 hF (by rw [hla]; simp [Cd.limit]; omega))
              clear hU2 hF hpl hla h10
              go_wp2_with (first
                | (go_at_call 35; refine (writeHex_any b b _ 61 61 _ _ _ hBl hTr htl (by omega) hsz).mono ?_; rintro e w3 ⟨rfl, hBl3, hB3, -⟩))
              go_roundw
              case rel => exact ⟨k + 1, q + 3, (out ++ [61, Cd.hexD (UInt8.toNat 61 / 16), Cd.hexD (UInt8.toNat 61 % 16)]), by omega, by go_num, by go_num, by omega, by simp; omega, HN.out, hBl3, hBe.trans hB3⟩
              case measure => simp [intOf]; omega
          · by_cases hov : (76 : Int) < (q : Int) + 3
            · have hov2 : 76 < q + 3 := by omega
              have hF : Cd.form 32 (Cd.lastB (s.data.toList.drop (k + 1))) = [61, Cd.hexD (UInt8.toNat 32 / 16), Cd.hexD (UInt8.toNat 32 % 16)] := by rw [hla]; exact Cd.form_hex (hpl true)
              have HN := Lib.hid (hU2.brk h10 hF (by rw [hla]; simp [Cd.limit]; omega))
              clear hU2 hF hpl hla h10
              go_wp2_with (first
                | (go_at_call 34; refine (ws_any b b out ⟨#[61, 10]⟩ _ hBl (by simp [ByteArray.size]; omega) hsz).mono ?_; rintro e w2 ⟨rfl, hBl2, hB2, -⟩; have hsz2 := Nat.le_trans hsz hB2.size; have hTr2 := hTr.below hB2 htl; have hol2 : (out ++ (⟨#[61, 10]⟩ : ByteArray).data.toList).length ≤ 5 * k + 2 := by simp; omega)
                | (go_at_call 35; refine (writeHex_any b b _ 61 32 _ _ _ hBl2 hTr2 htl (by omega) hsz2).mono ?_; rintro e w3 ⟨rfl, hBl3, hB3, -⟩))
              go_roundw
              case rel => exact ⟨k + 1, 3, (out ++ [61, 10] ++ [61, Cd.hexD (UInt8.toNat 32 / 16), Cd.hexD (UInt8.toNat 32 % 16)]), by omega, by go_num, by rfl, by omega, by simp; omega, HN.out, hBl3, (hBe.trans hB2).trans hB3⟩
              case measure => simp [intOf]; omega
            · have hov2 : q + 3 ≤ 76 := by omega
              have hF : Cd.form 32 (Cd.lastB (s.data.toList.drop (k + 1))) = [61, Cd.hexD (UInt8.toNat 32 / 16), Cd.hexD (UInt8.toNat 32 % 16)] := by rw [hla]; exact Cd.form_hex (hpl true)
              have HN := Lib.hid (hU2.keep h10 hF (by rw [hla]; simp [Cd.limit]; omega))
              clear hU2 hF hpl hla h10
              go_wp2_with (first
                | (go_at_call 35; refine (writeHex_any b b _ 61 32 _ _ _ hBl hTr htl (by omega) hsz).mono ?_; rintro e w3 ⟨rfl, hBl3, hB3, -⟩))
              go_roundw
              case rel => exact ⟨k + 1, q + 3, (out ++ [61, Cd.hexD (UInt8.toNat 32 / 16), Cd.hexD (UInt8.toNat 32 % 16)]), by omega, by go_num, by go_num, by omega, by simp; omega, HN.out, hBl3, hBe.trans hB3⟩
              case measure => simp [intOf]; omega
          · by_cases hov : (76 : Int) < (q : Int) + 3
            · have hov2 : 76 < q + 3 := by omega
              have hF : Cd.form 9 (Cd.lastB (s.data.toList.drop (k + 1))) = [61, Cd.hexD (UInt8.toNat 9 / 16), Cd.hexD (UInt8.toNat 9 % 16)] := by rw [hla]; exact Cd.form_hex (hpl true)
              have HN := Lib.hid (hU2.brk h10 hF (by rw [hla]; simp [Cd.limit]; omega))
              clear hU2 hF hpl hla h10
              go_wp2_with (first
                | (go_at_call 34; refine (ws_any b b out ⟨#[61, 10]⟩ _ hBl (by simp [ByteArray.size]; omega) hsz).mono ?_; rintro e w2 ⟨rfl, hBl2, hB2, -⟩; have hsz2 := Nat.le_trans hsz hB2.size; have hTr2 := hTr.below hB2 htl; have hol2 : (out ++ (⟨#[61, 10]⟩ : ByteArray).data.toList).length ≤ 5 * k + 2 := by simp; omega)
                | (go_at_call 35; refine (writeHex_any b b _ 61 9 _ _ _ hBl2 hTr2 htl (by omega) hsz2).mono ?_; rintro e w3 ⟨rfl, hBl3, hB3, -⟩))
              go_roundw
              case rel => exact ⟨k + 1, 3, (out ++ [61, 10] ++ [61, Cd.hexD (UInt8.toNat 9 / 16), Cd.hexD (UInt8.toNat 9 % 16)]), by omega, by go_num, by rfl, by omega, by simp; omega, HN.out, hBl3, (hBe.trans hB2).trans hB3⟩
              case measure => simp [intOf]; omega
            · have hov2 : q + 3 ≤ 76 := by omega
              have hF : Cd.form 9 (Cd.lastB (s.data.toList.drop (k + 1))) = [61, Cd.hexD (UInt8.toNat 9 / 16), Cd.hexD (UInt8.toNat 9 % 16)] := by rw [hla]; exact Cd.form_hex (hpl true)
              have HN := Lib.hid (hU2.keep h10 hF (by rw [hla]; simp [Cd.limit]; omega))
              clear hU2 hF hpl hla h10
              go_wp2_with (first
                | (go_at_call 35; refine (writeHex_any b b _ 61 9 _ _ _ hBl hTr htl (by omega) hsz).mono ?_; rintro e w3 ⟨rfl, hBl3, hB3, -⟩))
              go_roundw
              case rel => exact ⟨k + 1, q + 3, (out ++ [61, Cd.hexD (UInt8.toNat 9 / 16), Cd.hexD (UInt8.toNat 9 % 16)]), by omega, by go_num, by go_num, by omega, by simp; omega, HN.out, hBl3, hBe.trans hB3⟩
              case measure => simp [intOf]; omega
          · by_cases hov : (76 : Int) < (q : Int) + 3
            · have hov2 : 76 < q + 3 := by omega
              have hF : Cd.form c (Cd.lastB (s.data.toList.drop (k + 1))) = [61, Cd.hexD (UInt8.toNat c / 16), Cd.hexD (UInt8.toNat c % 16)] := by rw [hla]; exact Cd.form_hex (hpl true)
              have HN := Lib.hid (hU2.brk h10 hF (by rw [hla]; simp [Cd.limit]; omega))
              clear hU2 hF hpl hla h10
              go_wp2_with (first
                | (go_at_call 34; refine (ws_any b b out ⟨#[61, 10]⟩ _ hBl (by simp [ByteArray.size]; omega) hsz).mono ?_; rintro e w2 ⟨rfl, hBl2, hB2, -⟩; have hsz2 := Nat.le_trans hsz hB2.size; have hTr2 := hTr.below hB2 htl; have hol2 : (out ++ (⟨#[61, 10]⟩ : ByteArray).data.toList).length ≤ 5 * k + 2 := by simp; omega)
                | (go_at_call 35; refine (writeHex_any b b _ 61 c _ _ _ hBl2 hTr2 htl (by omega) hsz2).mono ?_; rintro e w3 ⟨rfl, hBl3, hB3, -⟩))
              go_roundw
              case rel => exact ⟨k + 1, 3, (out ++ [61, 10] ++ [61, Cd.hexD (UInt8.toNat c / 16), Cd.hexD (UInt8.toNat c % 16)]), by omega, by go_num, by rfl, by omega, by simp; omega, HN.out, hBl3, (hBe.trans hB2).trans hB3⟩
              case measure => simp [intOf]; omega
            · have hov2 : q + 3 ≤ 76 := by omega
              have hF : Cd.form c (Cd.lastB (s.data.toList.drop (k + 1))) = [61, Cd.hexD (UInt8.toNat c / 16), Cd.hexD (UInt8.toNat c % 16)] := by rw [hla]; exact Cd.form_hex (hpl true)
              have HN := Lib.hid (hU2.keep h10 hF (by rw [hla]; simp [Cd.limit]; omega))
              clear hU2 hF hpl hla h10
              go_wp2_with (first
                | (go_at_call 35; refine (writeHex_any b b _ 61 c _ _ _ hBl hTr htl (by omega) hsz).mono ?_; rintro e w3 ⟨rfl, hBl3, hB3, -⟩))
              go_roundw
              case rel => exact ⟨k + 1, q + 3, (out ++ [61, Cd.hexD (UInt8.toNat c / 16), Cd.hexD (UInt8.toNat c % 16)]), by omega, by go_num, by go_num, by omega, by simp; omega, HN.out, hBl3, hBe.trans hB3⟩
              case measure => simp [intOf]; omega
          · by_cases hov : (76 : Int) < (q : Int) + 3
            · have hov2 : 76 < q + 3 := by omega
              have hF : Cd.form c (Cd.lastB (s.data.toList.drop (k + 1))) = [61, Cd.hexD (UInt8.toNat c / 16), Cd.hexD (UInt8.toNat c % 16)] := by rw [hla]; exact Cd.form_hex (hpl true)
              have HN := Lib.hid (hU2.brk h10 hF (by rw [hla]; simp [Cd.limit]; omega))
              clear hU2 hF hpl hla h10
              go_wp2_with (first
                | (go_at_call 34; refine (ws_any b b out ⟨#[61, 10]⟩ _ hBl (by simp [ByteArray.size]; omega) hsz).mono ?_; rintro e w2 ⟨rfl, hBl2, hB2, -⟩; have hsz2 := Nat.le_trans hsz hB2.size; have hTr2 := hTr.below hB2 htl; have hol2 : (out ++ (⟨#[61, 10]⟩ : ByteArray).data.toList).length ≤ 5 * k + 2 := by simp; omega)
                | (go_at_call 35; refine (writeHex_any b b _ 61 c _ _ _ hBl2 hTr2 htl (by omega) hsz2).mono ?_; rintro e w3 ⟨rfl, hBl3, hB3, -⟩))
              go_roundw
              case rel => exact ⟨k + 1, 3, (out ++ [61, 10] ++ [61, Cd.hexD (UInt8.toNat c / 16), Cd.hexD (UInt8.toNat c % 16)]), by omega, by go_num, by rfl, by omega, by simp; omega, HN.out, hBl3, (hBe.trans hB2).trans hB3⟩
              case measure => simp [intOf]; omega
            · have hov2 : q + 3 ≤ 76 := by omega
              have hF : Cd.form c (Cd.lastB (s.data.toList.drop (k + 1))) = [61, Cd.hexD (UInt8.toNat c / 16), Cd.hexD (UInt8.toNat c % 16)] := by rw [hla]; exact Cd.form_hex (hpl true)
              have HN := Lib.hid (hU2.keep h10 hF (by rw [hla]; simp [Cd.limit]; omega))
              clear hU2 hF hpl hla h10
              go_wp2_with (first
                | (go_at_call 35; refine (writeHex_any b b _ 61 c _ _ _ hBl hTr htl (by omega) hsz).mono ?_; rintro e w3 ⟨rfl, hBl3, hB3, -⟩))
              go_roundw
              case rel => exact ⟨k + 1, q + 3, (out ++ [61, Cd.hexD (UInt8.toNat c / 16), Cd.hexD (UInt8.toNat c % 16)]), by omega, by go_num, by go_num, by omega, by simp; omega, HN.out, hBl3, hBe.trans hB3⟩
              case measure => simp [intOf]; omega
        · have hk2 : k + 1 < s.size := by omega
          have hb1 : ((k : Int) + 1 == (s.size : Int)) = false := by rw [beq_eq_false_iff_ne]; omega
          obtain ⟨d, hdk⟩ : ∃ d, s[k + 1] = d := ⟨_, rfl⟩
          have hdr := drop_next s (k + 1) hk2
          rw [hdk] at hdr
          clear hk1
          by_cases hd10 : d = 10
          · subst hd10
            have hla : Cd.lastB (s.data.toList.drop (k + 1)) = true := by rw [hdr]; rfl
            clear hdr
            rcases kinds c with ⟨a1, a2, a3, hpl⟩ | ⟨rfl, hpl⟩ | ⟨rfl, hpl⟩ | ⟨rfl, hpl⟩ | ⟨a1, a2, a3, hpl⟩ | ⟨a1, a2, a3, a4, hpl⟩
            · by_cases hov : (76 : Int) < (q : Int) + 1
              · have hov2 : 76 < q + 1 := by omega
                have hF : Cd.form c (Cd.lastB (s.data.toList.drop (k + 1))) = [c] := by rw [hla]; exact Cd.form_plain (hpl true)
                have HN := Lib.hid (hU2.brk h10 hF (by rw [hla]; simp [Cd.limit]; omega))
                clear hU2 hF hpl hla h10
                go_wp2_with (first
                  | (go_at_call 34; refine (ws_any b b out ⟨#[61, 10]⟩ _ hBl (by simp [ByteArray.size]; omega) hsz).mono ?_; rintro e w2 ⟨rfl, hBl2, hB2, -⟩; have hsz2 := Nat.le_trans hsz hB2.size; have hTr2 := hTr.below hB2 htl; have hol2 : (out ++ (⟨#[61, 10]⟩ : ByteArray).data.toList).length ≤ 5 * k + 2 := by simp; omega)
                  | (go_at_call 23; refine (wb_any b b _ c _ hBl2 (by omega) hsz2).mono ?_; rintro e w3 ⟨rfl, hBl3, hB3, -⟩))
                go_roundw
                case rel => exact ⟨k + 1, 1, (out ++ [61, 10] ++ [c]), by omega, by go_num, by rfl, by omega, by simp; omega, HN.out, hBl3, (hBe.trans hB2).trans hB3⟩
                case measure => simp [intOf]; omega
              · have hov2 : q + 1 ≤ 76 := by omega
                have hF : Cd.form c (Cd.lastB (s.data.toList.drop (k + 1))) = [c] := by rw [hla]; exact Cd.form_plain (hpl true)
                have HN := Lib.hid (hU2.keep h10 hF (by rw [hla]; simp [Cd.limit]; omega))
                clear hU2 hF hpl hla h10
                go_wp2_with (first
                  | (go_at_call 23; refine (wb_any b b _ c _ hBl (by omega) hsz).mono ?_; rintro e w3 ⟨rfl, hBl3, hB3, -⟩))
                go_roundw
                case rel => exact ⟨k + 1, q + 1, (out ++ [c]), by omega, by go_num, by go_num, by omega, by simp; omega, HN.out, hBl3, hBe.trans hB3⟩
                case measure => simp [intOf]; omega
            · by_cases hov : (76 : Int) < (q : Int) + 3
              · have hov2 : 76 < q + 3 := by omega
                have hF : Cd.form 61 (Cd.lastB (s.data.toList.drop (k + 1))) = [61, Cd.hexD (UInt8.toNat 61 / 16), Cd.hexD (UInt8.toNat 61 % 16)] := by rw [hla]; exact Cd.form_hex (hpl true)
                have HN := Lib.hid (hU2.brk h10 hF (by rw [hla]; simp [Cd.limit]; omega))
                clear hU2 hF hpl hla h10
                go_wp2_with (first
                  | (go_at_call 34; refine (ws_any b b out ⟨#[61, 10]⟩ _ hBl (by simp [ByteArray.size]; omega) hsz).mono ?_; rintro e w2 ⟨rfl, hBl2, hB2, -⟩; have hsz2 := Nat.le_trans hsz hB2.size; have hTr2 := hTr.below hB2 htl; have hol2 : (out ++ (⟨#[61, 10]⟩ : ByteArray).data.toList).length ≤ 5 * k + 2 := by simp; omega)
                  | (go_at_call 35; refine (writeHex_any b b _ 61 61 _ _ _ hBl2 hTr2 htl (by omega) hsz2).mono ?_; rintro e w3 ⟨rfl, hBl3, hB3, -⟩))
                go_roundw
                case rel => exact ⟨k + 1, 3, (out ++ [61, 10] ++ [61, Cd.hexD (UInt8.toNat 61 / 16), Cd.hexD (UInt8.toNat 61 % 16)]), by omega, by go_num, by rfl, by omega, by simp; omega, HN.out, hBl3, (hBe.trans hB2).trans hB3⟩
                case measure => simp [intOf]; omega
              · have hov2 : q + 3 ≤ 76 := by omega
                have hF : Cd.form 61 (Cd.lastB (s.data.toList.drop (k + 1))) = [61, Cd.hexD (UInt8.toNat 61 / 16), Cd.hexD (UInt8.toNat 61 % 16)] := by rw [hla]; exact Cd.form_hex (hpl true)
                have HN := Lib.hid (hU2.keep h10 hF (by rw [hla]; simp [Cd.limit]; omega))
                clear hU2 hF hpl hla h10
                go_wp2_with (first
                  | (go_at_call 35; refine (writeHex_any b b _ 61 61 _ _ _ hBl hTr htl (by omega) hsz).mono ?_; rintro e w3 ⟨rfl, hBl3, hB3, -⟩))
                go_roundw
                case rel => exact ⟨k + 1, q + 3, (out ++ [61, Cd.hexD (UInt8.toNat 61 / 16), Cd.hexD (UInt8.toNat 61 % 16)]), by omega, by go_num, by go_num, by omega, by simp; omega, HN.out, hBl3, hBe.trans hB3⟩
                case measure => simp [intOf]; omega
            · by_cases hov : (76 : Int) < (q : Int) + 3
              · have hov2 : 76 < q + 3 := by omega
                have hF : Cd.form 32 (Cd.lastB (s.data.toList.drop (k + 1))) = [61, Cd.hexD (UInt8.toNat 32 / 16), Cd.hexD (UInt8.toNat 32 % 16)] := by rw [hla]; exact Cd.form_hex (hpl true)
                have HN := Lib.hid (hU2.brk h10 hF (by rw [hla]; simp [Cd.limit]; omega))
                clear hU2 hF hpl hla h10
                go_wp2_with (first
                  | (go_at_call 34; refine (ws_any b b out ⟨#[61, 10]⟩ _ hBl (by simp [ByteArray.size]; omega) hsz).mono ?_; rintro e w2 ⟨rfl, hBl2, hB2, -⟩; have hsz2 := Nat.le_trans hsz hB2.size; have hTr2 := hTr.below hB2 htl; have hol2 : (out ++ (⟨#[61, 10]⟩ : ByteArray).data.toList).length ≤ 5 * k + 2 := by simp; omega)
                  | (go_at_call 35; refine (writeHex_any b b _ 61 32 _ _ _ hBl2 hTr2 htl (by omega) hsz2).mono ?_; rintro e w3 ⟨rfl, hBl3, hB3, -⟩))
                go_roundw
                case rel => exact ⟨k + 1, 3, (out ++ [61, 10] ++ [61, Cd.hexD (UInt8.toNat 32 / 16), Cd.hexD (UInt8.toNat 32 % 16)]), by omega, by go_num, by rfl, by omega, by simp; omega, HN.out, hBl3, (hBe.trans hB2).trans hB3⟩
                case measure => simp [intOf]; omega
              · have hov2 : q + 3 ≤ 76 := by omega
                have hF : Cd.form 32 (Cd.lastB (s.data.toList.drop (k + 1))) = [61, Cd.hexD (UInt8.toNat 32 / 16), Cd.hexD (UInt8.toNat 32 % 16)] := by rw [hla]; exact Cd.form_hex (hpl true)
                have HN := Lib.hid (hU2.keep h10 hF (by rw [hla]; simp [Cd.limit]; omega))
                clear hU2 hF hpl hla h10
                go_wp2_with (first
                  | (go_at_call 35; refine (writeHex_any b b _ 61 32 _ _ _ hBl hTr htl (by omega) hsz).mono ?_; rintro e w3 ⟨rfl, hBl3, hB3, -⟩))
                go_roundw
                case rel => exact ⟨k + 1, q + 3, (out ++ [61, Cd.hexD (UInt8.toNat 32 / 16), Cd.hexD (UInt8.toNat 32 % 16)]), by omega, by go_num, by go_num, by omega, by simp; omega, HN.out, hBl3, hBe.trans hB3⟩
                case measure => simp [intOf]; omega
            · by_cases hov : (76 : Int) < (q : Int) + 3
              · have hov2 : 76 < q + 3 := by omega
                have hF : Cd.form 9 (Cd.lastB (s.data.toList.drop (k + 1))) = [61, Cd.hexD (UInt8.toNat 9 / 16), Cd.hexD (UInt8.toNat 9 % 16)] := by rw [hla]; exact Cd.form_hex (hpl true)
                have HN := Lib.hid (hU2.brk h10 hF (by rw [hla]; simp [Cd.limit]; omega))
                clear hU2 hF hpl hla h10
                go_wp2_with (first
                  | (go_at_call 34; refine (ws_any b b out ⟨#[61, 10]⟩ _ hBl (by simp [ByteArray.size]; omega) hsz).mono ?_; rintro e w2 ⟨rfl, hBl2, hB2, -⟩; have hsz2 := Nat.le_trans hsz hB2.size; have hTr2 := hTr.below hB2 htl; have hol2 : (out ++ (⟨#[61, 10]⟩ : ByteArray).data.toList).length ≤ 5 * k + 2 := by simp; omega)
                  | (go_at_call 35; refine (writeHex_any b b _ 61 9 _ _ _ hBl2 hTr2 htl (by omega) hsz2).mono ?_; rintro e w3 ⟨rfl, hBl3, hB3, -⟩))
                go_roundw
                case rel => exact ⟨k + 1, 3, (out ++ [61, 10] ++ [61, Cd.hexD (UInt8.toNat 9 / 16), Cd.hexD (UInt8.toNat 9 % 16)]), by omega, by go_num, by rfl, by omega, by simp; omega, HN.out, hBl3, (hBe.trans hB2).trans hB3⟩
                case measure => simp [intOf]; omega
              · have hov2 : q + 3 ≤ 76 := by omega
                have hF : Cd.form 9 (Cd.lastB (s.data.toList.drop (k + 1))) = [61, Cd.hexD (UInt8.toNat 9 / 16), Cd.hexD (UInt8.toNat 9 % 16)] := by rw [hla]; exact Cd.form_hex (hpl true)
                have HN := Lib.hid (hU2.keep h10 hF (by rw [hla]; simp [Cd.limit]; omega))
                clear hU2 hF hpl hla h10
                go_wp2_with (first
                  | (go_at_call 35; refine (writeHex_any b b _ 61 9 _ _ _ hBl hTr htl (by omega) hsz).mono ?_; rintro e w3 ⟨rfl, hBl3, hB3, -⟩))
                go_roundw
                case rel => exact ⟨k + 1, q + 3, (out ++ [61, Cd.hexD (UInt8.toNat 9 / 16), Cd.hexD (UInt8.toNat 9 % 16)]), by omega, by go_num, by go_num, by omega, by simp; omega, HN.out, hBl3, hBe.trans hB3⟩
                case measure => simp [intOf]; omega
            · by_cases hov : (76 : Int) < (q : Int) + 3
              · have hov2 : 76 < q + 3 := by omega
                have hF : Cd.form c (Cd.lastB (s.data.toList.drop (k + 1))) = [61, Cd.hexD (UInt8.toNat c / 16), Cd.hexD (UInt8.toNat c % 16)] := by rw [hla]; exact Cd.form_hex (hpl true)
                have HN := Lib.hid (hU2.brk h10 hF (by rw [hla]; simp [Cd.limit]; omega))
                clear hU2 hF hpl hla h10
                go_wp2_with (first
                  | (go_at_call 34; refine (ws_any b b out ⟨#[61, 10]⟩ _ hBl (by simp [ByteArray.size]; omega) hsz).mono ?_; rintro e w2 ⟨rfl, hBl2, hB2, -⟩; have hsz2 := Nat.le_trans hsz hB2.size; have hTr2 := hTr.below hB2 htl; have hol2 : (out ++ (⟨#[61, 10]⟩ : ByteArray).data.toList).length ≤ 5 * k + 2 := by simp; omega)
                  | (go_at_call 35; refine (writeHex_any b b _ 61 c _ _ _ hBl2 hTr2 htl (by omega) hsz2).mono ?_; rintro e w3 ⟨rfl, hBl3, hB3, -⟩))
                go_roundw
                case rel => exact ⟨k + 1, 3, (out ++ [61, 10] ++ [61, Cd.hexD (UInt8.toNat c / 16), Cd.hexD (UInt8.toNat c % 16)]), by omega, by go_num, by rfl, by omega, by simp; omega, HN.out, hBl3, (hBe.trans hB2).trans hB3⟩
                case measure => simp [intOf]; omega
              · have hov2 : q + 3 ≤ 76 := by omega
                have hF : Cd.form c (Cd.lastB (s.data.toList.drop (k + 1))) = [61, Cd.hexD (UInt8.toNat c / 16), Cd.hexD (UInt8.toNat c % 16)] := by rw [hla]; exact Cd.form_hex (hpl true)
                have HN := Lib.hid (hU2.keep h10 hF (by rw [hla]; simp [Cd.limit]; omega))
                clear hU2 hF hpl hla h10
                go_wp2_with (first
                  | (go_at_call 35; refine (writeHex_any b b _ 61 c _ _ _ hBl hTr htl (by omega) hsz).mono ?_; rintro e w3 ⟨rfl, hBl3, hB3, -⟩))
                go_roundw
                case rel => exact ⟨k + 1, q + 3, (out ++ [61, Cd.hexD (UInt8.toNat c / 16), Cd.hexD (UInt8.toNat c % 16)]), by omega, by go_num, by go_num, by omega, by simp; omega, HN.out, hBl3, hBe.trans hB3⟩
                case measure => simp [intOf]; omega
            · by_cases hov : (76 : Int) < (q : Int) + 3
              · have hov2 : 76 < q + 3 := by omega
                have hF : Cd.form c (Cd.lastB (s.data.toList.drop (k + 1))) = [61, Cd.hexD (UInt8.toNat c / 16), Cd.hexD (UInt8.toNat c % 16)] := by rw [hla]; exact Cd.form_hex (hpl true)
                have HN := Lib.hid (hU2.brk h10 hF (by rw [hla]; simp [Cd.limit]; omega))
                clear hU2 hF hpl hla h10
                go_wp2_with (first
                  | (go_at_call 34; refine (ws_any b b out ⟨#[61, 10]⟩ _ hBl (by simp [ByteArray.size]; omega) hsz).mono ?_; rintro e w2 ⟨rfl, hBl2, hB2, -⟩; have hsz2 := Nat.le_trans hsz hB2.size; have hTr2 := hTr.below hB2 htl; have hol2 : (out ++ (⟨#[61, 10]⟩ : ByteArray).data.toList).length ≤ 5 * k + 2 := by simp; omega)
                  | (go_at_call 35; refine (writeHex_any b b _ 61 c _ _ _ hBl2 hTr2 htl (by omega) hsz2).mono ?_; rintro e w3 ⟨rfl, hBl3, hB3, -⟩))
                go_roundw
                case rel => exact ⟨k + 1, 3, (out ++ [61, 10] ++ [61, Cd.hexD (UInt8.toNat c / 16), Cd.hexD (UInt8.toNat c % 16)]), by omega, by go_num, by rfl, by omega, by simp; omega, HN.out, hBl3, (hBe.trans hB2).trans hB3⟩
                case measure => simp [intOf]; omega
              · have hov2 : q + 3 ≤ 76 := by omega
                have hF : Cd.form c (Cd.lastB (s.data.toList.drop (k + 1))) = [61, Cd.hexD (UInt8.toNat c / 16), Cd.hexD (UInt8.toNat c % 16)] := by rw [hla]; exact Cd.form_hex (hpl true)
                have HN := Lib.hid (hU2.keep h10 hF (by rw [hla]; simp [Cd.limit]; omega))
                clear hU2 hF hpl hla h10
                go_wp2_with (first
                  | (go_at_call 35; refine (writeHex_any b b _ 61 c _ _ _ hBl hTr htl (by omega) hsz).mono ?_; rintro e w3 ⟨rfl, hBl3, hB3, -⟩))
                go_roundw
                case rel => exact ⟨k + 1, q + 3, (out ++ [61, Cd.hexD (UInt8.toNat c / 16), Cd.hexD (UInt8.toNat c % 16)]), by omega, by go_num, by go_num, by omega, by simp; omega, HN.out, hBl3, hBe.trans hB3⟩
                case measure => simp [intOf]; omega
          · have hla : Cd.lastB (s.data.toList.drop (k + 1)) = false := by rw [hdr]; exact beq_eq_false_iff_ne.2 hd10
            have qd : ((d.toNat : Int) == 10) = false := byte_ne (n := 10) (by decide) hd10
            have qd2 : (!((d.toNat : Int) == 10)) = true := by rw [qd]; rfl
            clear hdr hd10
            rcases kinds c with ⟨a1, a2, a3, hpl⟩ | ⟨rfl, hpl⟩ | ⟨rfl, hpl⟩ | ⟨rfl, hpl⟩ | ⟨a1, a2, a3, hpl⟩ | ⟨a1, a2, a3, a4, hpl⟩
            · by_cases hov : (75 : Int) < (q : Int) + 1
              · have hov2 : 75 < q + 1 := by omega
                have hF : Cd.form c (Cd.lastB (s.data.toList.drop (k + 1))) = [c] := by rw [hla]; exact Cd.form_plain (hpl false)
                have HN := Lib.hid (hU2.brk h10 hF (by rw [hla]; simp [Cd.limit]; omega))
                clear hU2 hF hpl hla h10
                go_wp2_with (first
                  | (go_at_call 34; refine (ws_any b b out ⟨#[61, 10]⟩ _ hBl (by simp [ByteArray.size]; omega) hsz).mono ?_; rintro e w2 ⟨rfl, hBl2, hB2, -⟩; have hsz2 := Nat.le_trans hsz hB2.size; have hTr2 := hTr.below hB2 htl; have hol2 : (out ++ (⟨#[61, 10]⟩ : ByteArray).data.toList).length ≤ 5 * k + 2 := by simp; omega)
                  | (go_at_call 23; refine (wb_any b b _ c _ hBl2 (by omega) hsz2).mono ?_; rintro e w3 ⟨rfl, hBl3, hB3, -⟩))
                go_roundw
                case rel => exact ⟨k + 1, 1, (out ++ [61, 10] ++ [c]), by omega, by go_num, by rfl, by omega, by simp; omega, HN.out, hBl3, (hBe.trans hB2).trans hB3⟩
                case measure => simp [intOf]; omega
              · have hov2 : q + 1 ≤ 75 := by omega
                have hF : Cd.form c (Cd.lastB (s.data.toList.drop (k + 1))) = [c] := by rw [hla]; exact Cd.form_plain (hpl false)
                have HN := Lib.hid (hU2.keep h10 hF (by rw [hla]; simp [Cd.limit]; omega))
                clear hU2 hF hpl hla h10
                go_wp2_with (first
                  | (go_at_call 23; refine (wb_any b b _ c _ hBl (by omega) hsz).mono ?_; rintro e w3 ⟨rfl, hBl3, hB3, -⟩))
                go_roundw
                case rel => exact ⟨k + 1, q + 1, (out ++ [c]), by omega, by go_num, by go_num, by omega, by simp; omega, HN.out, hBl3, hBe.trans hB3⟩
                case measure => simp [intOf]; omega
            · by_cases hov : (75 : Int) < (q : Int) + 3
              · have hov2 : 75 < q + 3 := by omega
                have hF : Cd.form 61 (Cd.lastB (s.data.toList.drop (k + 1))) = [61, Cd.hexD (UInt8.toNat 61 / 16), Cd.hexD (UInt8.toNat 61 % 16)] := by rw [hla]; exact Cd.form_hex (hpl false)
                have HN := Lib.hid (hU2.brk h10 hF (by rw [hla]; simp [Cd.limit]; omega))
                clear hU2 hF hpl hla h10
                go_wp2_with (first
                  | (go_at_call 34; refine (ws_any b b out ⟨#[61, 10]⟩ _ hBl (by simp [ByteArray.size]; omega) hsz).mono ?_; rintro e w2 ⟨rfl, hBl2, hB2, -⟩; have hsz2 := Nat.le_trans hsz hB2.size; have hTr2 := hTr.below hB2 htl; have hol2 : (out ++ (⟨#[61, 10]⟩ : ByteArray).data.toList).length ≤ 5 * k + 2 := by simp; omega)
                  | (go_at_call 35; refine (writeHex_any b b _ 61 61 _ _ _ hBl2 hTr2 htl (by omega) hsz2).mono ?_; rintro e w3 ⟨rfl, hBl3, hB3, -⟩))
                go_roundw
                case rel => exact ⟨k + 1, 3, (out ++ [61, 10] ++ [61, Cd.hexD (UInt8.toNat 61 / 16), Cd.hexD (UInt8.toNat 61 % 16)]), by omega, by go_num, by rfl, by omega, by simp; omega, HN.out, hBl3, (hBe.trans hB2).trans hB3⟩
                case measure => simp [intOf]; omega
              · have hov2 : q + 3 ≤ 75 := by omega
                have hF : Cd.form 61 (Cd.lastB (s.data.toList.drop (k + 1))) = [61, Cd.hexD (UInt8.toNat 61 / 16), Cd.hexD (UInt8.toNat 61 % 16)] := by rw [hla]; exact Cd.form_hex (hpl false)
                have HN := Lib.hid (hU2.keep h10 hF (by rw [hla]; simp [Cd.limit]; omega))
                clear hU2 hF hpl hla h10
                go_wp2_with (first
                  | (go_at_call 35; refine (writeHex_any b b _ 61 61 _ _ _ hBl hTr htl (by omega) hsz).mono ?_; rintro e w3 ⟨rfl, hBl3, hB3, -⟩))
                go_roundw
                case rel => exact ⟨k + 1, q + 3, (out ++ [61, Cd.hexD (UInt8.toNat 61 / 16), Cd.hexD (UInt8.toNat 61 % 16)]), by omega, by go_num, by go_num, by omega, by simp; omega, HN.out, hBl3, hBe.trans hB3⟩
                case measure => simp [intOf]; omega
            · by_cases hov : (75 : Int) < (q : Int) + 1
              · have hov2 : 75 < q + 1 := by omega
                have hF : Cd.form 32 (Cd.lastB (s.data.toList.drop (k + 1))) = [32] := by rw [hla]; exact Cd.form_plain (hpl false)
                have HN := Lib.hid (hU2.brk h10 hF (by rw [hla]; simp [Cd.limit]; omega))
                clear hU2 hF hpl hla h10
                go_wp2_with (first
                  | (go_at_call 34; refine (ws_any b b out ⟨#[61, 10]⟩ _ hBl (by simp [ByteArray.size]; omega) hsz).mono ?_; rintro e w2 ⟨rfl, hBl2, hB2, -⟩; have hsz2 := Nat.le_trans hsz hB2.size; have hTr2 := hTr.below hB2 htl; have hol2 : (out ++ (⟨#[61, 10]⟩ : ByteArray).data.toList).length ≤ 5 * k + 2 := by simp; omega)
                  | (go_at_call 23; refine (wb_any b b _ 32 _ hBl2 (by omega) hsz2).mono ?_; rintro e w3 ⟨rfl, hBl3, hB3, -⟩))
                go_roundw
                case rel => exact ⟨k + 1, 1, (out ++ [61, 10] ++ [32]), by omega, by go_num, by rfl, by omega, by simp; omega, HN.out, hBl3, (hBe.trans hB2).trans hB3⟩
                case measure => simp [intOf]; omega
              · have hov2 : q + 1 ≤ 75 := by omega
                have hF : Cd.form 32 (Cd.lastB (s.data.toList.drop (k + 1))) = [32] := by rw [hla]; exact Cd.form_plain (hpl false)
                have HN := Lib.hid (hU2.keep h10 hF (by rw [hla]; simp [Cd.limit]; omega))
                clear hU2 hF hpl hla h10
                go_wp2_with (first
                  | (go_at_call 23; refine (wb_any b b _ 32 _ hBl (by omega) hsz).mono ?_; rintro e w3 ⟨rfl, hBl3, hB3, -⟩))
                go_roundw
                case rel => exact ⟨k + 1, q + 1, (out ++ [32]), by omega, by go_num, by go_num, by omega, by simp; omega, HN.out, hBl3, hBe.trans hB3⟩
                case measure => simp [intOf]; omega
            · by_cases hov : (75 : Int) < (q : Int) + 1
              · have hov2 : 75 < q + 1 := by omega
                have hF : Cd.form 9 (Cd.lastB (s.data.toList.drop (k + 1))) = [9] := by rw [hla]; exact Cd.form_plain (hpl false)
                have HN := Lib.hid (hU2.brk h10 hF (by rw [hla]; simp [Cd.limit]; omega))
                clear hU2 hF hpl hla h10
                go_wp2_with (first
                  | (go_at_call 34; refine (ws_any b b out ⟨#[61, 10]⟩ _ hBl (by simp [ByteArray.size]; omega) hsz).mono ?_; rintro e w2 ⟨rfl, hBl2, hB2, -⟩; have hsz2 := Nat.le_trans hsz hB2.size; have hTr2 := hTr.below hB2 htl; have hol2 : (out ++ (⟨#[61, 10]⟩ : ByteArray).data.toList).length ≤ 5 * k + 2 := by simp; omega)
                  | (go_at_call 23; refine (wb_any b b _ 9 _ hBl2 (by omega) hsz2).mono ?_; rintro e w3 ⟨rfl, hBl3, hB3, -⟩))
                go_roundw
                case rel => exact ⟨k + 1, 1, (out ++ [61, 10] ++ [9]), by omega, by go_num, by rfl, by omega, by simp; omega, HN.out, hBl3, (hBe.trans hB2).trans hB3⟩
                case measure => simp [intOf]; omega
              · have hov2 : q + 1 ≤ 75 := by omega
                have hF : Cd.form 9 (Cd.lastB (s.data.toList.drop (k + 1))) = [9] := by rw [hla]; exact Cd.form_plain (hpl false)
                have HN := Lib.hid (hU2.keep h10 hF (by rw [hla]; simp [Cd.limit]; omega))
                clear hU2 hF hpl hla h10
                go_wp2_with (first
                  | (go_at_call 23; refine (wb_any b b _ 9 _ hBl (by omega) hsz).mono ?_; rintro e w3 ⟨rfl, hBl3, hB3, -⟩))
                go_roundw
                case rel => exact ⟨k + 1, q + 1, (out ++ [9]), by omega, by go_num, by go_num, by omega, by simp; omega, HN.out, hBl3, hBe.trans hB3⟩
                case measure => simp [intOf]; omega
            · by_cases hov : (75 : Int) < (q : Int) + 3
              · have hov2 : 75 < q + 3 := by omega
                have hF : Cd.form c (Cd.lastB (s.data.toList.drop (k + 1))) = [61, Cd.hexD (UInt8.toNat c / 16), Cd.hexD (UInt8.toNat c % 16)] := by rw [hla]; exact Cd.form_hex (hpl false)
                have HN := Lib.hid (hU2.brk h10 hF (by rw [hla]; simp [Cd.limit]; omega))
                clear hU2 hF hpl hla h10
                go_wp2_with (first
                  | (go_at_call 34; refine (ws_any b b out ⟨#[61, 10]⟩ _ hBl (by simp [ByteArray.size]; omega) hsz).mono ?_; rintro e w2 ⟨rfl, hBl2, hB2, -⟩; have hsz2 := Nat.le_trans hsz hB2.size; have hTr2 := hTr.below hB2 htl; have hol2 : (out ++ (⟨#[61, 10]⟩ : ByteArray).data.toList).length ≤ 5 * k + 2 := by simp; omega)
                  | (go_at_call 35; refine (writeHex_any b b _ 61 c _ _ _ hBl2 hTr2 htl (by omega) hsz2).mono ?_; rintro e w3 ⟨rfl, hBl3, hB3, -⟩))
                go_roundw
                case rel => exact ⟨k + 1, 3, (out ++ [61, 10] ++ [61, Cd.hexD (UInt8.toNat c / 16), Cd.hexD (UInt8.toNat c % 16)]), by omega, by go_num, by rfl, by omega, by simp; omega, HN.out, hBl3, (hBe.trans hB2).trans hB3⟩
                case measure => simp [intOf]; omega
              · have hov2 : q + 3 ≤ 75 := by omega
                have hF : Cd.form c (Cd.lastB (s.data.toList.drop (k + 1))) = [61, Cd.hexD (UInt8.toNat c / 16), Cd.hexD (UInt8.toNat c % 16)] := by rw [hla]; exact Cd.form_hex (hpl false)
                have HN := Lib.hid (hU2.keep h10 hF (by rw [hla]; simp [Cd.limit]; omega))
                clear hU2 hF hpl hla h10
                go_wp2_with (first
                  | (go_at_call 35; refine (writeHex_any b b _ 61 c _ _ _ hBl hTr htl (by omega) hsz).mono ?_; rintro e w3 ⟨rfl, hBl3, hB3, -⟩))
                go_roundw
                case rel => exact ⟨k + 1, q + 3, (out ++ [61, Cd.hexD (UInt8.toNat c / 16), Cd.hexD (UInt8.toNat c % 16)]), by omega, by go_num, by go_num, by omega, by simp; omega, HN.out, hBl3, hBe.trans hB3⟩
                case measure => simp [intOf]; omega
            · by_cases hov : (75 : Int) < (q : Int) + 3
              · have hov2 : 75 < q + 3 := by omega
                have hF : Cd.form c (Cd.lastB (s.data.toList.drop (k + 1))) = [61, Cd.hexD (UInt8.toNat c / 16), Cd.hexD (UInt8.toNat c % 16)] := by rw [hla]; exact Cd.form_hex (hpl false)
                have HN := Lib.hid (hU2.brk h10 hF (by rw [hla]; simp [Cd.limit]; omega))
                clear hU2 hF hpl hla h10
                go_wp2_with (first
                  | (go_at_call 34; refine (ws_any b b out ⟨#[61, 10]⟩ _ hBl (by simp [ByteArray.size]; omega) hsz).mono ?_; rintro e w2 ⟨rfl, hBl2, hB2, -⟩; have hsz2 := Nat.le_trans hsz hB2.size; have hTr2 := hTr.below hB2 htl; have hol2 : (out ++ (⟨#[61, 10]⟩ : ByteArray).data.toList).length ≤ 5 * k + 2 := by simp; omega)
                  | (go_at_call 35; refine (writeHex_any b b _ 61 c _ _ _ hBl2 hTr2 htl (by omega) hsz2).mono ?_; rintro e w3 ⟨rfl, hBl3, hB3, -⟩))
                go_roundw
                case rel => exact ⟨k + 1, 3, (out ++ [61, 10] ++ [61, Cd.hexD (UInt8.toNat c / 16), Cd.hexD (UInt8.toNat c % 16)]), by omega, by go_num, by rfl, by omega, by simp; omega, HN.out, hBl3, (hBe.trans hB2).trans hB3⟩
                case measure => simp [intOf]; omega
              · have hov2 : q + 3 ≤ 75 := by omega
                have hF : Cd.form c (Cd.lastB (s.data.toList.drop (k + 1))) = [61, Cd.hexD (UInt8.toNat c / 16), Cd.hexD (UInt8.toNat c % 16)] := by rw [hla]; exact Cd.form_hex (hpl false)
                have HN := Lib.hid (hU2.keep h10 hF (by rw [hla]; simp [Cd.limit]; omega))
                clear hU2 hF hpl hla h10
                go_wp2_with (first
                  | (go_at_call 35; refine (writeHex_any b b _ 61 c _ _ _ hBl hTr htl (by omega) hsz).mono ?_; rintro e w3 ⟨rfl, hBl3, hB3, -⟩))
                go_roundw
                case rel => exact ⟨k + 1, q + 3, (out ++ [61, Cd.hexD (UInt8.toNat c / 16), Cd.hexD (UInt8.toNat c % 16)]), by omega, by go_num, by go_num, by omega, by simp; omega, HN.out, hBl3, hBe.trans hB3⟩
                case measure => simp [intOf]; omega
    · obtain rfl : k = s.size := by omega
      have he : s.data.toList.drop s.size = [] := List.drop_eq_nil_of_le (by rw [Lib.size_eq]; exact Nat.le_refl _)
      have hU2 := hU.out
      rw [he] at hU2
      have HE : Hid (out = Cd.quoted L) := by show _ = _; unfold Cd.Qi at hU2; rw [Cd.quo, List.append_nil] at hU2; exact hU2
      clear hU he hU2
      go_wp2_with (go_at_call 24; refine (str_any b b _ _ hBl hsz).mono ?_; rintro e w2 ⟨rfl, hB2, -⟩)
      go_ret
      exact ⟨retS (by rw [HE.out, HLL.out]), hB1.trans ((hBe.trans hB2).mono (by have := hB1.size; have := HS.out; omega))⟩
end Go.Proofs.YtehnjoggilomfaaDoor
