/-
  DigestDetects's law.
-/
import Derived.Test.YtdiolhhfbllfeaaDoorDFlipW
namespace Go.Proofs.YtdiolhhfbllfeaaDoor
open Go Go.RowKit Go.Shelf
theorem int_range {n : Int} (h : (Lit.int .i64 n).wf = true) : -9223372036854775808 ≤ n ∧ n ≤ 9223372036854775807 := by
  have h2 : (decide (IntKind.i64.min ≤ n) && decide (n ≤ IntKind.i64.max)) = true := h
  simp only [Bool.and_eq_true, decide_eq_true_eq] at h2
  exact h2
set_option maxHeartbeats 4000000 in
set_option maxRecDepth 100000 in
theorem detects_law (s : ByteArray) (bit p : Int) (hp : -9223372036854775808 ≤ p ∧ p ≤ 9223372036854775807) (w : World) (hE : Env w) :
    Calls Tryd.prog 5 #[.string s, .int .i64 bit, .int .i64 p] w fun e w' => e = .returned (.bool true) ∧ Below w.heap.size w w' := by
  have HE := Lib.hid hE
  have HS := Lib.hid (small_any w hE)
  clear hE
  by_cases h1 : 2000 < s.size
  · go_enter Tryd.func5, Tryd.ntmps5
    go_wp2_with fail
    refine HS.out.mono ?_
    rintro e w1 ⟨rfl, hb⟩
    go_wp2
    go_ret
    exact ⟨rfl, hb⟩
  have hs8 : s.size ≤ 2000 := by omega
  by_cases h2 : bit < 0
  · go_enter Tryd.func5, Tryd.ntmps5
    go_wp2_with fail
    refine HS.out.mono ?_
    rintro e w1 ⟨rfl, hb⟩
    go_wp2
    go_ret
    exact ⟨rfl, hb⟩
  by_cases h3 : 8 * (s.size : Int) ≤ bit
  · go_enter Tryd.func5, Tryd.ntmps5
    go_wp2_with fail
    refine HS.out.mono ?_
    rintro e w1 ⟨rfl, hb⟩
    go_wp2
    go_ret
    exact ⟨rfl, hb⟩
  obtain ⟨b, rfl⟩ : ∃ b : Nat, bit = (b : Int) := ⟨bit.toNat, by omega⟩
  have hb8 : b < 8 * s.size := by omega
  have hz := Lib.size_eq s
  obtain ⟨T, hT⟩ : ∃ T : ByteArray, Dg.flipN (pbit p) b s.data.toList 32 = T.data.toList := ⟨⟨(Dg.flipN (pbit p) b s.data.toList 32).toArray⟩, rfl⟩
  have hTz : T.size = s.size := by rw [Lib.size_eq, ← hT, Dg.flipN_length, ← hz]
  have CF : Hid (∀ w0 : World, Calls Tryd.prog 27 #[.string s, .int .i64 b, .int .i64 p] w0 fun e w' => e = .returned (.string T) ∧ Below w0.heap.size w0 w') := fun w0 =>
    (flipped_any s b p hp hs8 hb8 w0).mono fun e w' ⟨q1, q2⟩ => ⟨by rw [q1, hT, str_back], q2⟩
  have C1 := Lib.hid (fun (w0 : World) (h : Env w0) => crc_any s (by omega) w0 h)
  have C2 := Lib.hid (fun (w0 : World) (h : Env w0) => crc_any T (by omega) w0 h)
  have hd := Dg.crc_detects (pbit p) b s.data.toList (by rw [← hz]; exact hb8)
  rw [hT] at hd
  by_cases heq : T = s
  · subst heq
    obtain ⟨A, hA⟩ : ∃ A, (Dg.crc T.data.toList).toNat = A := ⟨_, rfl⟩
    rw [hA] at C1
    clear hd hT hTz hz C2 hA
    go_enter Tryd.func5, Tryd.ntmps5
    go_wp2_with fail
    refine HS.out.mono ?_
    rintro e w1 ⟨rfl, hb⟩
    have B1 := Lib.hid hb
    clear hb
    go_wp2_with fail
    refine (CF.out w1).mono ?_
    rintro e w2 ⟨rfl, hb⟩
    have B2 := Lib.hid (B1.out.trans (hb.mono B1.out.size))
    clear hb
    go_wp2_with fail
    refine (C1.out w2 (HE.out.new B2.out)).mono ?_
    rintro e w3 ⟨rfl, rfl⟩
    go_wp2_with fail
    refine (C1.out w2 (HE.out.new B2.out)).mono ?_
    rintro e w3 ⟨rfl, rfl⟩
    go_wp2
    go_ret
    exact ⟨by simp, B2.out⟩
  · have hne : (Dg.crc s.data.toList).toNat ≠ (Dg.crc T.data.toList).toNat := fun e => heq (by
      have := hd (BitVec.eq_of_toNat_eq e)
      rw [← str_back T, this, str_back])
    have hse : ¬ (s.toList = T.toList) := fun e => by
      rw [ByteArray.toList_eq, ByteArray.toList_eq] at e
      exact heq (by rw [← str_back T, ← e, str_back])
    obtain ⟨A, hA⟩ : ∃ A, (Dg.crc s.data.toList).toNat = A := ⟨_, rfl⟩
    obtain ⟨B, hB⟩ : ∃ A, (Dg.crc T.data.toList).toNat = A := ⟨_, rfl⟩
    rw [hA] at C1 hne
    rw [hB] at C2 hne
    have hne4 : ¬ ((A : Int) = (B : Int)) := by omega
    clear hd hT hTz hz hA hB
    go_enter Tryd.func5, Tryd.ntmps5
    go_wp2_with fail
    refine HS.out.mono ?_
    rintro e w1 ⟨rfl, hb⟩
    have B1 := Lib.hid hb
    clear hb
    go_wp2_with fail
    refine (CF.out w1).mono ?_
    rintro e w2 ⟨rfl, hb⟩
    have B2 := Lib.hid (B1.out.trans (hb.mono B1.out.size))
    clear hb
    go_wp2_with fail
    refine (C1.out w2 (HE.out.new B2.out)).mono ?_
    rintro e w3 ⟨rfl, rfl⟩
    go_wp2_with fail
    refine (C2.out w2 (HE.out.new B2.out)).mono ?_
    rintro e w3 ⟨rfl, rfl⟩
    go_wp2
    go_ret
    refine ⟨?_, B2.out⟩
    have r1 : (s.toList == T.toList) = false := beq_eq_false_iff_ne.2 hse
    have r2 : ((A : Int) == (B : Int)) = false := beq_eq_false_iff_ne.2 hne4
    simp [r1, r2]
end Go.Proofs.YtdiolhhfbllfeaaDoor
