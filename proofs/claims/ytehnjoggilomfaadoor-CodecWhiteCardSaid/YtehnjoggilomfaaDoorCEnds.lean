/-
  codec.endsLine, skipLineEnd, isUnreserved.
-/
import Derived.Test.YtehnjoggilomfaaDoorCLeaf
namespace Go.Proofs.YtehnjoggilomfaaDoor
open Go Go.RowKit Go.Shelf

theorem hasPrefix_any (s p : ByteArray) (w : World) : Calls Tryd.prog 42 #[.string s, .string p] w fun e w' => e = .returned (.bool (Lib.hasPrefix s.data.toList p.data.toList)) ∧ w = w' :=
  (Any.strings_HasPrefix Tryd.lays99 s p w).mono fun _ _ ⟨h1, h2⟩ => ⟨h1, h2.symm⟩
theorem trimPrefix_any (s p : ByteArray) (w : World) : Calls Tryd.prog 51 #[.string s, .string p] w fun e w' => e = .returned (.string ⟨(Lib.trimPrefix s.data.toList p.data.toList).toArray⟩) ∧ w = w' :=
  (Any.strings_TrimPrefix Tryd.lays101 s p w).mono fun _ _ ⟨h1, h2⟩ => ⟨h1, h2.symm⟩
theorem index_free (c : UInt8) (w : World) : Calls Tryd.prog 52 #[.string ⟨#[45, 46, 95, 126]⟩, .int .u8 c.toNat] w fun e w' => e = .returned (.int .i64 (Lib.indexByte [45, 46, 95, 126] c)) ∧ w = w' :=
  (Any.strings_IndexByte Tryd.lays137 ⟨#[45, 46, 95, 126]⟩ (c.toNat : Int) w).mono fun _ _ ⟨h1, h2⟩ => ⟨by rw [h1]; simp, h2.symm⟩
theorem retB {a b : Bool} (h : b = a) : Ending.returned (.bool a) = .returned (.bool b) := by rw [h]
theorem string_nil {t : ByteArray} (h : t.data.toList = []) : t.toList.isEmpty = true := by rw [Lib.toList_data, h]; rfl
theorem string_cons {t : ByteArray} {c : UInt8} {r : List UInt8} (h : t.data.toList = c :: r) : t.toList.isEmpty = false := by rw [Lib.toList_data, h]; rfl
theorem head_at {t : ByteArray} {c : UInt8} {r : List UInt8} (h : t.data.toList = c :: r) : ∃ h0 : 0 < t.size, t[0]'h0 = c := by
  have h1 := Lib.size_eq t
  rw [h] at h1
  have h0 : 0 < t.size := by simp at h1; omega
  refine ⟨h0, ?_⟩
  have := Tx.get_of t 0 h0
  rw [h] at this
  simpa using this.symm
namespace Cd
theorem ends_pre (c : UInt8) (r : List UInt8) (h : c ≠ 10) : endsB (c :: r) = Lib.hasPrefix (c :: r) [13, 10] := by
  have hc : (c == 10) = false := by rw [beq_eq_false_iff_ne]; exact h
  cases r with
  | nil => simp [endsB, Lib.hasPrefix, hc, List.isPrefixOf]
  | cons d r =>
    have e1 : ((13 : UInt8) == c) = (c == 13) := by rw [Bool.beq_comm]
    have e2 : ((10 : UInt8) == d) = (d == 10) := by rw [Bool.beq_comm]
    simp [endsB, Lib.hasPrefix, hc, List.isPrefixOf, e1, e2]
theorem free_eq (c : UInt8) : freeB c = ((decide (97 ≤ (c.toNat : Int)) && decide ((c.toNat : Int) ≤ 122)) || (decide (65 ≤ (c.toNat : Int)) && decide ((c.toNat : Int) ≤ 90)) || (decide (48 ≤ (c.toNat : Int)) && decide ((c.toNat : Int) ≤ 57)) || decide (0 ≤ Lib.indexByte [45, 46, 95, 126] c)) := by
  have H : ∀ k : Fin 256, freeB (UInt8.ofNat k.val) = ((decide (97 ≤ (k.val : Int)) && decide ((k.val : Int) ≤ 122)) || (decide (65 ≤ (k.val : Int)) && decide ((k.val : Int) ≤ 90)) || (decide (48 ≤ (k.val : Int)) && decide ((k.val : Int) ≤ 57)) || decide (0 ≤ Lib.indexByte [45, 46, 95, 126] (UInt8.ofNat k.val))) := by decide +kernel
  have := H ⟨c.toNat, UInt8.toNat_lt c⟩
  simpa only [UInt8.ofNat_toNat] using this
theorem skip_eq (l : List UInt8) : skipB l = Lib.trimPrefix (Lib.trimPrefix l [13]) [10] := by
  unfold skipB
  split
  · simp [Lib.trimPrefix, Lib.hasPrefix]
  · rename_i r h
    cases r with
    | nil => simp [Lib.trimPrefix, Lib.hasPrefix]
    | cons d r =>
      have hd : d ≠ 10 := by rintro rfl; exact h r rfl
      simp [Lib.trimPrefix, Lib.hasPrefix, Ne.symm hd]
  · simp [Lib.trimPrefix, Lib.hasPrefix]
  · rename_i h1 h2 h3
    cases l with
    | nil => simp [Lib.trimPrefix, Lib.hasPrefix]
    | cons d r =>
      have hd : d ≠ 10 := by rintro rfl; exact h3 r rfl
      have he : d ≠ 13 := by rintro rfl; exact h2 r rfl
      simp [Lib.trimPrefix, Lib.hasPrefix, Ne.symm hd, Ne.symm he]
end Cd

set_option maxHeartbeats 1000000 in
set_option maxRecDepth 100000 in
theorem endsLine_any (s : ByteArray) (w : World) : Calls Tryd.prog 32 #[.string s] w fun e w' => e = .returned (.bool (Cd.endsB s.data.toList)) ∧ w = w' := by
  cases hl : s.data.toList with
  | nil =>
    have he := string_nil hl
    clear hl
    go_enter Tryd.func32, Tryd.ntmps32
    go_wp2
    go_ret
    exact ⟨rfl, rfl⟩
  | cons c r =>
    have he := string_cons hl
    obtain ⟨h0, hc⟩ := head_at hl
    have cl := UInt8.toNat_lt c
    by_cases h10 : c = 10
    · subst h10
      clear hl
      go_enter Tryd.func32, Tryd.ntmps32
      go_wp2
      go_ret
      exact ⟨rfl, rfl⟩
    · have hb : ((c.toNat : Int) == 10) = false := by
        rw [beq_eq_false_iff_ne]; intro e; exact h10 (UInt8.toNat_inj.1 (by simp; omega))
      rw [Cd.ends_pre c r h10]
      have HP := hasPrefix_any s ⟨#[13, 10]⟩ w
      rw [hl] at HP
      have HP' := Lib.hid HP
      clear hl h10 HP
      go_enter Tryd.func32, Tryd.ntmps32
      go_wp2_with (go_at_call 42; refine HP'.out.mono ?_; rintro e w' ⟨rfl, rfl⟩)
      go_ret
      exact ⟨rfl, rfl⟩

set_option maxHeartbeats 1000000 in
set_option maxRecDepth 100000 in
theorem skipLineEnd_any (s : ByteArray) (w : World) : Calls Tryd.prog 33 #[.string s] w fun e w' => e = .returned (.string ⟨(Cd.skipB s.data.toList).toArray⟩) ∧ w = w' := by
  rw [Cd.skip_eq]
  go_enter Tryd.func33, Tryd.ntmps33
  go_wp2_with fail
  refine (trimPrefix_any s ⟨#[13]⟩ w).mono ?_
  rintro e w' ⟨rfl, rfl⟩
  go_wp2_with fail
  refine (trimPrefix_any _ ⟨#[10]⟩ w).mono ?_
  rintro e w' ⟨rfl, rfl⟩
  go_wp2
  go_ret
  exact ⟨rfl, rfl⟩

set_option maxHeartbeats 2000000 in
set_option maxRecDepth 100000 in
theorem isUnreserved_any (c : UInt8) (w : World) : Calls Tryd.prog 36 #[.int .u8 c.toNat] w fun e w' => e = .returned (.bool (Cd.freeB c)) ∧ w = w' := by
  have cl := UInt8.toNat_lt c
  have HI := Lib.hid (index_free c w)
  go_enter Tryd.func36, Tryd.ntmps36
  go_wp2_with (go_at_call 52; refine HI.out.mono ?_; rintro e w' ⟨rfl, rfl⟩)
  all_goals go_ret
  all_goals refine ⟨retB ?_, rfl⟩
  all_goals rw [Cd.free_eq c]
  all_goals
    by_cases a1 : 97 ≤ (c.toNat : Int) <;> by_cases a2 : (c.toNat : Int) ≤ 122 <;> by_cases a3 : 65 ≤ (c.toNat : Int) <;> by_cases a4 : (c.toNat : Int) ≤ 90 <;> by_cases a5 : 48 ≤ (c.toNat : Int) <;> by_cases a6 : (c.toNat : Int) ≤ 57 <;>
      first | (exfalso; omega) | simp [a1, a2, a3, a4, a5, a6]
end Go.Proofs.YtehnjoggilomfaaDoor
