/-
  CodecBack: the law walked.
-/
import Derived.Test.YtehnjoggilomfaaDoorCBack6
import Derived.Test.YtehnjoggilomfaaDoorCSmall
namespace Go.Proofs.YtehnjoggilomfaaDoor
open Go Go.RowKit Go.Shelf
namespace Cd
theorem form_len (c : UInt8) (last : Bool) : (form c last).length ≤ 3 := by
  unfold form; split <;> simp
theorem quo_len : ∀ (l : List UInt8) (w : Nat), (quo w l).length ≤ 5 * l.length
  | [], _ => Nat.le_refl _
  | c :: r, w => by
    have hf := form_len c (lastB r)
    rw [quo]
    split
    · have := quo_len r 0
      simp only [List.length_cons]; omega
    · split
      · have := quo_len r (form c (lastB r)).length
        simp only [List.length_cons, List.length_append]; omega
      · have := quo_len r (w + (form c (lastB r)).length)
        simp only [List.length_cons, List.length_append]; omega
theorem base_len (l : List UInt8) : (base64 l).length ≤ 77 * l.length := by
  have e : base64 l = lins l (parts 57 l.length) := rfl
  have h1 := lins_le l (parts 57 l.length) (by
    intro x hx
    obtain ⟨k, _, rfl⟩ := List.mem_map.1 hx
    exact Nat.min_le_left _ _)
  have h2 := parts_len 57 l.length
  have h3 := cnt_le 57 l.length (by decide)
  rw [e]; omega
end Cd
theorem ret_true {b : Bool} (h : b = true) : Ending.returned (.bool b) = .returned (.bool true) := by rw [h]

set_option maxHeartbeats 2000000 in
set_option maxRecDepth 100000 in
theorem back_any (s : ByteArray) (w : World) (hm : MaxAt w) (hs : s.size ≤ 9223372036854775807) :
    Calls Tryd.prog 3 #[.string s] w fun e w' => e = .returned (.bool true) ∧ Below w.heap.size w w' := by
  have HSm := Lib.hid (small_any w hm)
  have hp := hm.pos
  by_cases h2 : 2000 < (s.size : Int)
  · go_enter Tryd.func3, Tryd.ntmps3
    go_wp2_with fail
    refine HSm.out.mono ?_
    rintro e w1 ⟨rfl, hB1⟩
    go_wp2
    go_ret
    exact ⟨rfl, hB1⟩
  · have h3 : (s.size : Int) ≤ 2000 := by omega
    have hl := Lib.size_eq s
    have b1 := Cd.base_len s.data.toList
    have b2 := Cd.quo_len s.data.toList 0
    have b3 := Cd.percent_len s.data.toList
    have HB := Lib.hid (fun w => base64_any s w (by omega))
    have HQ := Lib.hid (fun w => quoted_any s w (by omega))
    have HP := Lib.hid (fun w => percent_any s w (by omega))
    have e6 := Cd.unb_base64 s.data.toList
    have eq := Cd.unq_quoted s.data.toList
    have ep := Cd.unp_per s.data.toList
    have HUB := Lib.hid (fun w h => unbase64_to (s := ⟨(Cd.base64 s.data.toList).toArray⟩) e6 (by rw [Tx.bs_len]; omega) w h)
    have HUQ := Lib.hid (fun w => unquoted_to (s := ⟨(Cd.quoted s.data.toList).toArray⟩) eq (by rw [Tx.bs_len]; unfold Cd.quoted; omega) w)
    have HUP := Lib.hid (fun w => unpercent_to (s := ⟨(Cd.percent s.data.toList).toArray⟩) ep (by rw [Tx.bs_len]; omega) w)
    rw [Lib.mk_data] at HUB HUQ HUP
    clear e6 eq ep b1 b2 b3 hl h2
    go_enter Tryd.func3, Tryd.ntmps3
    go_wp2_with fail
    refine HSm.out.mono ?_
    rintro e w1 ⟨rfl, hB1⟩
    have hm1 := hm.below hB1 hp
    go_wp2_with fail
    refine (HB.out _).mono ?_
    rintro e w2 ⟨rfl, hB2⟩
    have hm2 := hm1.below (hB2.mono hB1.size) hp
    have hs2 := Nat.le_trans hB1.size hB2.size
    go_wp2_with fail
    refine (HUB.out _ hm2).mono ?_
    rintro e w3 ⟨rfl, hB3⟩
    have hs3 := Nat.le_trans hs2 hB3.size
    go_wp2_with fail
    refine (HQ.out _).mono ?_
    rintro e w4 ⟨rfl, hB4⟩
    have hs4 := Nat.le_trans hs3 hB4.size
    go_wp2_with fail
    refine (HUQ.out _).mono ?_
    rintro e w5 ⟨rfl, hB5⟩
    have hs5 := Nat.le_trans hs4 hB5.size
    go_wp2_with fail
    refine (HP.out _).mono ?_
    rintro e w6 ⟨rfl, hB6⟩
    have hs6 := Nat.le_trans hs5 hB6.size
    go_wp2_with fail
    refine (HUP.out _).mono ?_
    rintro e w7 ⟨rfl, hB7⟩
    have hB := (((((hB1.trans (hB2.mono hB1.size)).trans (hB3.mono hs2)).trans (hB4.mono hs3)).trans (hB5.mono hs4)).trans (hB6.mono hs5)).trans (hB7.mono hs6)
    go_wp2
    go_ret
    exact ⟨ret_true (by simp), hB⟩
end Go.Proofs.YtehnjoggilomfaaDoor
