/-
  text.Trim, whatever is given to it; when nothing is left.
-/
import Derived.Test.YtdkocjdhekomoaaGreatDoorHLib2
import Derived.Test.YtdkocjdhekomoaaGreatDoorTrims
import Derived.Test.YtdkocjdhekomoaaGreatDoorHPl
namespace Go.Proofs.YtdkocjdhekomoaaGreatDoor
open Go Go.RowKit Go.Shelf
theorem trim_any (s : ByteArray) (w : World) (hs : s.size ≤ 9223372036854775807) :
    Calls Tryz.prog 53 #[.string s, .string ⟨#[9, 10, 13, 32]⟩] w fun e w' => e = .returned (.string ⟨(Lib.trimS s.data.toList [9, 10, 13, 32]).toArray⟩) ∧ Below w.heap.size w w' :=
  Any.strings_Trim_laid Tryz.lays160 info60 s ⟨#[9, 10, 13, 32]⟩ w hs (by decide) (ascii_of_all (by decide))
set_option maxHeartbeats 1000000 in
set_option maxRecDepth 100000 in
theorem trimT_any (s : ByteArray) (hs : s.size ≤ 9223372036854775807) (w : World) :
    Calls Tryz.prog 23 #[.string s] w fun e w' => e = .returned (.string ⟨(Tx.trim s.data.toList).toArray⟩) ∧ Below w.heap.size w w' := by
  have H := Lib.hid (trim_any s w hs)
  go_enter Tryz.func23, Tryz.ntmps23
  go_wp2_with fail
  refine H.out.mono ?_
  rintro e w1 ⟨rfl, hB⟩
  go_wp2
  go_ret
  exact ⟨rfl, hB⟩
namespace Ch
theorem trim_nil {l : List UInt8} (h : Tx.trim l = []) : ∀ c ∈ l, Tx.isW c = true := by
  have hc : ∀ c : UInt8, ([9, 10, 13, 32] : List UInt8).contains c = true → Tx.isW c = true := fun c h => by rw [← Tx.isW_eq]; exact h
  have h1 : ∀ (p : UInt8 → Bool) (l : List UInt8), l.dropWhile p = [] → ∀ c ∈ l, p c = true := by
    intro p l
    induction l with
    | nil => intro _ c hc; cases hc
    | cons a r ih =>
      intro h c hm
      by_cases ha : p a = true
      · rw [List.dropWhile_cons_of_pos ha] at h
        rcases List.mem_cons.1 hm with rfl | hm
        · exact ha
        · exact ih h c hm
      · rw [List.dropWhile_cons_of_neg ha] at h; cases h
  have h2 := h1 _ _ h
  intro c hm
  by_cases hw : Tx.isW c = true
  · exact hw
  · refine hc c (h2 c ?_)
    have hp : ([9, 10, 13, 32] : List UInt8).contains c = false := by
      cases e : ([9, 10, 13, 32] : List UInt8).contains c with
      | false => rfl
      | true => exact absurd (hc c e) hw
    have hk : ∀ (l : List UInt8), c ∈ l → c ∈ l.dropWhile fun c => ([9, 10, 13, 32] : List UInt8).contains c := by
      intro l
      induction l with
      | nil => intro h; exact h
      | cons a r ih =>
        intro h
        by_cases ha : ([9, 10, 13, 32] : List UInt8).contains a = true
        · rw [List.dropWhile_cons_of_pos (by exact ha)]
          rcases List.mem_cons.1 h with rfl | h
          · rw [hp] at ha; cases ha
          · exact ih h
        · rw [List.dropWhile_cons_of_neg (by exact ha)]; exact h
    exact List.mem_reverse.1 (by simpa [Lib.trimRightS] using hk l.reverse (List.mem_reverse.2 hm))
theorem trim_all {l : List UInt8} (h : l.all Tx.isW = true) : Tx.trim l = [] := by
  unfold Tx.trim Lib.trimS
  have e : Lib.trimRightS l [9, 10, 13, 32] = [] := by
    unfold Lib.trimRightS
    have : l.reverse.dropWhile (fun c => ([9, 10, 13, 32] : List UInt8).contains c) = [] := by
      have H : ∀ (p : UInt8 → Bool) (m : List UInt8), (∀ c ∈ m, p c = true) → m.dropWhile p = [] := by
        intro p m
        induction m with
        | nil => intro _; rfl
        | cons a r ih => intro h; rw [List.dropWhile_cons_of_pos (h a (by simp))]; exact ih fun c hc => h c (by simp [hc])
      refine H _ _ fun c hc => ?_
      rw [Tx.isW_eq]
      exact List.all_eq_true.1 h c (List.mem_reverse.1 hc)
    rw [this]; rfl
  rw [e]; rfl
/-- Whether the gap is written. -/
theorem trim_is (l : List UInt8) : (Tx.trim l == []) = l.all Tx.isW := by
  cases h : l.all Tx.isW with
  | true => rw [trim_all h]; rfl
  | false =>
    rw [beq_eq_false_iff_ne]
    intro e
    have := List.all_eq_true.2 (trim_nil e)
    rw [h] at this; cases this
end Ch
end Go.Proofs.YtdkocjdhekomoaaGreatDoor
