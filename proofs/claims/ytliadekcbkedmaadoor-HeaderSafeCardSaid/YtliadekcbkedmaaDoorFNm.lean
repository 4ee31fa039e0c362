/-
  missiveref09.Named, white, Fold.
-/
import Derived.Test.YtliadekcbkedmaaDoorFTk
namespace Go.Proofs.YtliadekcbkedmaaDoor
open Go Go.RowKit Go.Shelf
set_option maxHeartbeats 2000000 in
set_option maxRecDepth 100000 in
theorem namedR_any (s : ByteArray) (w : World) (hs : s.size ≤ 1000000) :
    Calls Tryd.prog 18 #[.string s] w fun e w' => e = .returned (.bool (Hd.named s.data.toList)) ∧ Drew w w' := by
  have hv : Hd.named s.data.toList = (decide (s.data.toList.length ≤ 200) && (!s.data.toList.isEmpty && s.data.toList.all Hd.inR && !Hd.hasB [58] s.data.toList)) := by
    unfold Hd.named
    rw [Hd.vis_parts]
  have HPr := Lib.hid (fun W => printable_any s W hs)
  have HHs := Lib.hid (fun W => has_any s ⟨#[58]⟩ W hs (by decide))
  rw [show (⟨#[58]⟩ : ByteArray).data.toList = [58] from rfl] at HHs
  rw [hv]
  have hq := Lib.toList_data s
  have hl := Lib.size_eq s
  obtain ⟨a, ha⟩ : ∃ a, s.data.toList.isEmpty = a := ⟨_, rfl⟩
  obtain ⟨b, hb⟩ : ∃ b, s.data.toList.all Hd.inR = b := ⟨_, rfl⟩
  obtain ⟨c, hc⟩ : ∃ c, Hd.hasB [58] s.data.toList = c := ⟨_, rfl⟩
  have q1 : s.toList.isEmpty = a := by rw [hq, ha]
  rw [ha, hb, hc, ← hl]
  rw [hb] at HPr
  rw [hc] at HHs
  clear hq ha hb hc hv hl
  by_cases h2 : s.size ≤ 200
  · have q2 : (s.size : Int) ≤ 200 := by omega
    rw [decide_eq_true h2]
    cases a <;> cases b <;> cases c
    all_goals
      go_enter Tryd.func18, Tryd.ntmps18
      go_wp2_with (first
        | (go_at_call 37; with_reducible refine (HPr.out _).mono ?_; rintro e w1 ⟨rfl, rfl⟩)
        | (go_at_call 38; with_reducible refine (HHs.out _).mono ?_; rintro e w2 ⟨rfl, hd2⟩))
      go_ret
      exact ⟨rfl, by first | assumption | exact ⟨0, rfl⟩⟩
  · have q2 : ¬ ((s.size : Int) ≤ 200) := by omega
    have q3 : decide ((s.size : Int) ≤ 200) = false := decide_eq_false q2
    rw [decide_eq_false h2, Bool.false_and]
    cases a
    all_goals
      go_enter Tryd.func18, Tryd.ntmps18
      go_wp2
      go_ret
      exact ⟨rfl, ⟨0, rfl⟩⟩
theorem whiteR_any (c : UInt8) (w : World) :
    Calls Tryd.prog 53 #[.int .u8 c.toNat] w fun e w' => e = .returned (.bool (Hd.blank c)) ∧ w = w' := by
  have key : Hd.blank c = (((c.toNat : Int) == 32) || ((c.toNat : Int) == 9)) :=
    byte_all (P := fun c => Hd.blank c = (((c.toNat : Int) == 32) || ((c.toNat : Int) == 9))) (by decide +kernel) c
  rw [key]
  clear key
  generalize (c.toNat : Int) = z
  go_enter Tryd.func53, Tryd.ntmps53
  go_wp2
  all_goals
    go_ret
    simp_all
end Go.Proofs.YtliadekcbkedmaaDoor
