/-
  The law on letters: its walk.
-/
import Derived.Test.YtpigplnnmhjbkaaDoorMap
namespace Go.Proofs.YtpigplnnmhjbkaaDoor
open Go Go.RowKit Go.Shelf
namespace Tx
theorem byte_all {P : UInt8 → Prop} (h : ∀ n : Fin 256, P (UInt8.ofNat n.val)) (c : UInt8) : P c := by
  have := h ⟨c.toNat, UInt8.toNat_lt c⟩
  simpa using this
theorem low_low (c : UInt8) : lowB (lowB c) = lowB c := byte_all (P := fun c => lowB (lowB c) = lowB c) (by decide +kernel) c
theorem up_up (c : UInt8) : upB (upB c) = upB c := byte_all (P := fun c => upB (upB c) = upB c) (by decide +kernel) c
theorem low_up (c : UInt8) : lowB (upB c) = lowB c := byte_all (P := fun c => lowB (upB c) = lowB c) (by decide +kernel) c
theorem up_low (c : UInt8) : upB (lowB c) = upB c := byte_all (P := fun c => upB (lowB c) = upB c) (by decide +kernel) c
theorem lowL_lowL (l : List UInt8) : lowL (lowL l) = lowL l := by simp [lowL, low_low]
theorem upL_upL (l : List UInt8) : upL (upL l) = upL l := by simp [upL, up_up]
theorem lowL_upL (l : List UInt8) : lowL (upL l) = lowL l := by simp [lowL, upL, low_up]
theorem upL_lowL (l : List UInt8) : upL (lowL l) = upL l := by simp [lowL, upL, up_low]
theorem same_up (a b : List UInt8) : same a b = (upL a == upL b) := by
  unfold same
  rw [Bool.eq_iff_iff, beq_iff_eq, beq_iff_eq]
  constructor
  · intro h; rw [← upL_lowL a, h, upL_lowL]
  · intro h; rw [← lowL_upL a, h, lowL_upL]
theorem same_self_up (a : List UInt8) : same a (upL a) = true := by unfold same; rw [lowL_upL]; simp
theorem same_refl (a : List UInt8) : same a a = true := by unfold same; simp
end Tx

theorem sameV {a b : ByteArray} {g : Bool} (hg : Tx.same a.data.toList b.data.toList = g) (ha : a.size ≤ 9223372036854775807) (W : World) :
    Calls Tryd.prog 16 #[.string a, .string b] W fun e w' => e = .returned (.bool g) ∧ ∃ n, w' = W.drewN n :=
  (same_any a b W ha).mono fun _ _ ⟨h1, h2⟩ => ⟨by rw [h1, hg], h2⟩
theorem lowerS_to {s A : ByteArray} (h : Tx.lowL s.data.toList = A.data.toList) (hs : s.size ≤ 9223372036854775807) (w : World) :
    Calls Tryd.prog 12 #[.string s] w fun e w' => e = .returned (.string A) ∧ Below w.heap.size w w' :=
  (lowerS_any s w hs).mono fun _ _ ⟨h1, h2⟩ => ⟨by rw [h1, h, Lib.mk_data], h2⟩
theorem upperS_to {s A : ByteArray} (h : Tx.upL s.data.toList = A.data.toList) (hs : s.size ≤ 9223372036854775807) (w : World) :
    Calls Tryd.prog 14 #[.string s] w fun e w' => e = .returned (.string A) ∧ Below w.heap.size w w' :=
  (upperS_any s w hs).mono fun _ _ ⟨h1, h2⟩ => ⟨by rw [h1, h, Lib.mk_data], h2⟩

set_option maxHeartbeats 4000000 in
set_option maxRecDepth 100000 in
theorem cases_short (s t A U V : ByteArray) (g : Bool) (w : World) (hm : MaxAt w) (hs : s.size ≤ 300) (ht : t.size ≤ 300) (hA : Tx.lowL s.data.toList = A.data.toList) (hU : Tx.upL s.data.toList = U.data.toList) (hV : Tx.upL t.data.toList = V.data.toList)
    (hg : Tx.same s.data.toList t.data.toList = g) (hg2 : (U.toList == V.toList) = g) :
    Calls Tryd.prog 4 #[.string s, .string t] w fun e w' => e = .returned (.bool true) ∧ Below w.heap.size w w' := by
  have hAs : A.size = s.size := by rw [Lib.size_eq, ← hA, Lib.size_eq]; simp [Tx.lowL]
  have hUs : U.size = s.size := by rw [Lib.size_eq, ← hU, Lib.size_eq]; simp [Tx.upL]
  have HM := Lib.hid hm
  have H1 := Lib.hid (fun W => lowerS_to hA (by omega) W)
  have H2 := Lib.hid (fun W => upperS_to hU (by omega) W)
  have H3 := Lib.hid (fun W => lowerS_to (s := A) (A := A) (by rw [← hA, Tx.lowL_lowL]) (by omega) W)
  have H4 := Lib.hid (fun W => upperS_to (s := U) (A := U) (by rw [← hU, Tx.upL_upL]) (by omega) W)
  have H5 := Lib.hid (fun W => lowerS_to (s := U) (A := A) (by rw [← hU, Tx.lowL_upL, hA]) (by omega) W)
  have H6 := Lib.hid (fun W => upperS_to (s := A) (A := U) (by rw [← hA, Tx.upL_lowL, hU]) (by omega) W)
  have H7 := Lib.hid (fun W => sameV hg (by omega) W)
  have H8 := Lib.hid (fun W => upperS_to hV (by omega) W)
  have H9 := Lib.hid (fun W => sameV (a := s) (b := U) (g := true) (by rw [← hU]; exact Tx.same_self_up _) (by omega) W)
  have HA := Lib.hid hA
  have hn1 : ((A.size : Int) != (s.size : Int)) = false := by rw [hAs]; simp
  have hn2 : ((U.size : Int) != (s.size : Int)) = false := by rw [hUs]; simp
  have HAs := Lib.hid hAs
  clear hm hA hU hV hg hAs hUs
  go_enter Tryd.func4, Tryd.ntmps4
  go_wp2_with fail
  refine (small_any _ HM.out).mono ?_
  rintro e w1 ⟨rfl, hB1⟩
  go_wp2_with fail
  refine (H1.out _).mono ?_
  rintro e w2 ⟨rfl, hB2⟩
  go_wp2_with fail
  refine (H2.out _).mono ?_
  rintro e w3 ⟨rfl, hB3⟩
  go_wp2_with fail
  refine (H3.out _).mono ?_
  rintro e w4 ⟨rfl, hB4⟩
  go_wp2_with fail
  refine (H4.out _).mono ?_
  rintro e w5 ⟨rfl, hB5⟩
  go_wp2_with fail
  refine (H5.out _).mono ?_
  rintro e w6 ⟨rfl, hB6⟩
  go_wp2_with fail
  refine (H6.out _).mono ?_
  rintro e w7 ⟨rfl, hB7⟩
  have l1 := hB1.size; have l2 := hB2.size; have l3 := hB3.size; have l4 := hB4.size; have l5 := hB5.size; have l6 := hB6.size; have l7 := hB7.size
  have hbw : Below w.heap.size w w7 := (((((hB1.trans (hB2.mono (by omega))).trans (hB3.mono (by omega))).trans (hB4.mono (by omega))).trans (hB5.mono (by omega))).trans (hB6.mono (by omega))).trans (hB7.mono (by omega))
  clear hB1 hB2 hB3 hB4 hB5 hB6 hB7 l1 l2 l3 l4 l5 l6 l7
  go_wp2_with fail
  go_loopw [8] (fun i wr => ∃ k : Nat, i = .int .i64 k ∧ k ≤ s.size ∧ Below w.heap.size w wr) (fun i _ => s.size - (intOf i).toNat)
  case atStart => exact ⟨0, rfl, Nat.zero_le _, hbw⟩
  case round =>
    obtain ⟨k, rfl, hk, hbr⟩ := hrel
    by_cases hlt : k < s.size
    · have hltA : k < A.size := by rw [HAs.out]; exact hlt
      have hAk : A[k] = Tx.lowB s[k] := by
        have h1 := Tx.get_of A k hltA
        rw [← HA.out, Tx.lowL, List.getElem?_map, Tx.get_of s k hlt] at h1
        simpa using h1.symm
      obtain ⟨c, hck⟩ : ∃ c, s[k] = c := ⟨_, rfl⟩
      obtain ⟨a, hak⟩ : ∃ a, A[k] = a := ⟨_, rfl⟩
      rw [hck, hak] at hAk
      by_cases hup : 65 ≤ c.toNat ∧ c.toNat ≤ 90
      · have hlo := Tx.lowB_lo c hup
        rw [← hAk] at hlo
        have e1 : ((a.toNat : Int) != (c.toNat : Int)) = true := by rw [bne_iff_ne]; omega
        have e2 : decide ((a.toNat : Int) < 97) = false := decide_eq_false (by omega)
        have e3 : decide (122 < (a.toNat : Int)) = false := decide_eq_false (by omega)
        have e4 : IntKind.u8.wrap ((a.toNat : Int) - (c.toNat : Int)) = 32 := by
          rw [show (a.toNat : Int) - (c.toNat : Int) = 32 from by omega]; rfl
        have HL := Lib.hid hlo
        clear hlo hAk hup
        go_wp2
        go_quiet (fail)
        go_wp2
        go_roundw
        case rel => exact ⟨k + 1, by go_num, by omega, below_drews hbr _⟩
        case measure => simp [intOf]; omega
      · have hlo := Tx.lowB_no c hup
        rw [← hAk] at hlo
        have e1 : ((a.toNat : Int) != (c.toNat : Int)) = false := by rw [hlo]; simp
        have HL := Lib.hid hlo
        clear hlo hAk hup
        go_wp2
        go_quiet (fail)
        go_wp2
        go_roundw
        case rel => exact ⟨k + 1, by go_num, by omega, below_drews hbr _⟩
        case measure => simp [intOf]; omega
    · cases g
      · go_wp2_with fail
        refine (H7.out _).mono ?_
        rintro e x1 ⟨rfl, n1, rfl⟩
        go_wp2_with fail
        refine (H2.out _).mono ?_
        rintro e x2 ⟨rfl, hC2⟩
        go_wp2_with fail
        refine (H8.out _).mono ?_
        rintro e x3 ⟨rfl, hC3⟩
        go_wp2_with fail
        refine (H9.out _).mono ?_
        rintro e x4 ⟨rfl, n4, rfl⟩
        go_wp2
        go_ret
        have l1 := hbr.size; have l2 := hC2.size; have l3 := hC3.size
        exact ⟨rfl, below_drews (((below_drews hbr n1).trans (hC2.mono l1)).trans (hC3.mono (Nat.le_trans l1 l2))) _⟩
      · go_wp2_with fail
        refine (H7.out _).mono ?_
        rintro e x1 ⟨rfl, n1, rfl⟩
        go_wp2_with fail
        refine (H2.out _).mono ?_
        rintro e x2 ⟨rfl, hC2⟩
        go_wp2_with fail
        refine (H8.out _).mono ?_
        rintro e x3 ⟨rfl, hC3⟩
        go_wp2_with fail
        refine (H9.out _).mono ?_
        rintro e x4 ⟨rfl, n4, rfl⟩
        go_wp2
        go_ret
        have l1 := hbr.size; have l2 := hC2.size; have l3 := hC3.size
        exact ⟨rfl, below_drews (((below_drews hbr n1).trans (hC2.mono l1)).trans (hC3.mono (Nat.le_trans l1 l2))) _⟩

set_option maxHeartbeats 1000000 in
set_option maxRecDepth 100000 in
theorem cases_long (s t : ByteArray) (w : World) (hm : MaxAt w) (hs : s.size ≤ 9223372036854775807) (ht : t.size ≤ 9223372036854775807) (hl : 300 < s.size ∨ 300 < t.size) :
    Calls Tryd.prog 4 #[.string s, .string t] w fun e w' => e = .returned (.bool true) ∧ Below w.heap.size w w' := by
  have HM := Lib.hid hm
  clear hm
  by_cases h1 : 300 < s.size
  · clear hl
    go_enter Tryd.func4, Tryd.ntmps4
    go_wp2_with fail
    refine (small_any _ HM.out).mono ?_
    rintro e w1 ⟨rfl, hB1⟩
    go_wp2
    go_ret
    exact ⟨rfl, hB1⟩
  · have h2 : 300 < t.size := by omega
    clear hl
    go_enter Tryd.func4, Tryd.ntmps4
    go_wp2_with fail
    refine (small_any _ HM.out).mono ?_
    rintro e w1 ⟨rfl, hB1⟩
    go_wp2
    go_ret
    exact ⟨rfl, hB1⟩

theorem cases_any (s t : ByteArray) (w : World) (hm : MaxAt w) (hs : s.size ≤ 9223372036854775807) (ht : t.size ≤ 9223372036854775807) :
    Calls Tryd.prog 4 #[.string s, .string t] w fun e w' => e = .returned (.bool true) ∧ Below w.heap.size w w' := by
  by_cases hl : 300 < s.size ∨ 300 < t.size
  · exact cases_long s t w hm hs ht hl
  · refine cases_short s t ⟨(Tx.lowL s.data.toList).toArray⟩ ⟨(Tx.upL s.data.toList).toArray⟩ ⟨(Tx.upL t.data.toList).toArray⟩ _ w hm (by omega) (by omega) (by simp) (by simp) (by simp) rfl ?_
    rw [Tx.same_up, Lib.toList_data, Lib.toList_data]
end Go.Proofs.YtpigplnnmhjbkaaDoor
