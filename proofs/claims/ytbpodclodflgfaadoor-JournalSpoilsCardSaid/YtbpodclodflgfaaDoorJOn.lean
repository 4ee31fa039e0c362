/-
  Open of a file that is malformed; what stands behind the rows does not matter.
-/
import Derived.Test.YtbpodclodflgfaaDoorJRc
namespace Go.Proofs.YtbpodclodflgfaaDoor
open Go Go.RowKit
section
variable {w0 w : World} {g : Nat} {D : Dk.Disk}
set_option maxHeartbeats 2000000 in
set_option maxRecDepth 100000 in
theorem open_no (h : Mine w0 w g D) (hE : EnvJ w0) (f : Nat) (hf : f ≤ 6) (hd : D.down = false) (hp : Jn.parse (Dk.read D f) = none) :
    Calls Tryd.prog 13 #[.pointer (some ⟨g, 0, none⟩), .int .i64 (f : Int)] w fun e w' => e = .returned (.tuple #[.pointer none, .int .i64 2]) ∧ Below w.heap.size w w' := by
  have hrd := Dk.read_up' hd f (by omega)
  have hlen : (Dk.read D f).length ≤ 16777216 := by
    obtain ⟨vs, q, kk, hv⟩ := h.at_
    exact hv.good.read f (by omega)
  have CR := Lib.hid (read_any g D (f : Int) w h.at_)
  rw [hrd] at CR
  obtain ⟨S, hS⟩ : ∃ S, enc (Dk.read D f) = S := ⟨_, rfl⟩
  have hSl : S.data.toList = Dk.read D f := by rw [← hS]; rfl
  have hSs : S.size ≤ 100000000 := by rw [Lib.size_eq, hSl]; omega
  rw [← hSl] at hp
  have CP := Lib.hid (fun (w1 : World) (hb : Below w.heap.size w w1) => parse_no S hSs w1 ((hE.below h.below).below hb) hp)
  have CR2 : RowKit.Hid (Calls Tryd.prog 30 #[.pointer (some ⟨g, 0, none⟩), .int .i64 (f : Int)] w fun e w' => e = .returned (.tuple #[.string S, .int .i64 0]) ∧ Below w.heap.size w w') := by
    rw [← hS]; exact CR
  have f1 : ¬ ((f : Int) < 0) := by omega
  have f2 : ¬ (6 < (f : Int)) := by omega
  have f3 : decide (6 < f) = false := by simp; omega
  have f4 : decide ((6 : Int) < (f : Int)) = false := by simp; omega
  clear h hE hrd hlen CR hS hSl hp
  go_enter Tryd.func13, Tryd.ntmps13
  go_wp2_with (first | (go_at_call 30; with_reducible refine CR2.out.mono ?_; rintro _ w1 ⟨rfl, hb1⟩; have HB1 := Lib.hid hb1; clear hb1) | (go_at_call 39; with_reducible refine (CP.out _ HB1.out).mono ?_; rintro _ w2 ⟨rfl, hb2⟩; have HB2 := Lib.hid (below_to HB1.out (Nat.le_refl _) hb2); clear hb2))
  go_ret2
  exact ⟨rfl, HB2.out⟩
end
namespace Jn
theorem val_more (s r : B) (h : 8 ≤ s.length) : val (s ++ r) = val s := by
  unfold val
  rw [valN_congr 8 (m := s) (fun i hi => by rw [List.getD_eq_getElem?_getD, List.getD_eq_getElem?_getD, List.getElem?_append_left (by omega)])]
theorem parse_more {s : B} (r : B) {L : List B} {k : Nat} (h16 : 16 ≤ s.length) (h : parse s = some (L, k)) : parse (s ++ r) = some (L, k) := by
  unfold parse at h ⊢
  rw [val_more s r (by omega), List.drop_append_of_le_length (by omega), val_more (s.drop 8) r (by rw [List.length_drop]; omega)]
  by_cases hv : val s = 0
  · rw [if_pos (.inr hv)] at h ⊢
    exact h
  · have h1 : ¬ (s.length < 16 ∨ val s = 0) := by omega
    have h2 : ¬ ((s ++ r).length < 16 ∨ val s = 0) := by rw [List.length_append]; omega
    rw [if_neg h1] at h
    rw [if_neg h2]
    by_cases h3 : val s < 16 ∨ (s.length : Int) < val s
    · rw [if_pos h3] at h; cases h
    · rw [if_neg h3] at h
      rw [if_neg (by rw [List.length_append]; push_cast; omega), List.take_append_of_le_length (by omega)]
      exact h
end Jn
end Go.Proofs.YtbpodclodflgfaaDoor
