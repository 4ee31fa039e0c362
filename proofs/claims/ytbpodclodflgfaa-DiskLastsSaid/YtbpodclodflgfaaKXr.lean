/-
  DiskReorders: the law returns true, whatever the strings, and what is kept.
-/
import Derived.Test.YtbpodclodflgfaaKW
import Derived.Test.YtbpodclodflgfaaKV
namespace Go.Proofs.Ytbpodclodflgfaa
open Go Go.RowKit
namespace Dk
theorem size_ne (s : ByteArray) (h : s.data.toList ≠ []) : s.toList.isEmpty = false := by
  rw [ByteArray.toList_eq]
  cases e : s.data.toList with
  | nil => exact absurd e h
  | cons x l => rfl
theorem nil_of (s : ByteArray) (h : s.data.toList = []) : s = ⟨#[]⟩ := by
  have : s = enc s.data.toList := rfl
  rw [this, h]; rfl
end Dk
theorem calls_to {P : Program} {f : FuncId} {args : Array Value} {w : World} {p q : Ending → World → Prop} (h : Calls P f args w p) (hm : ∀ e w', p e w' → q e w') : Calls P f args w q := h.mono hm
theorem reord_steps (w : World) (g : Nat) (a b c : ByteArray) (ha : a.data.toList ≠ []) (hb : b.data.toList ≠ []) (hc : c.data.toList ≠ []) (la : a.size ≤ 64) (lb : b.size ≤ 64) (lc : c.size ≤ 64) (k0 k1 k2 : Int) (ka : Option Addr) (kb koff kcap : Nat) (hk : IR w ka kb koff [k0, k1, k2]) :
    ∃ (d0 d1 d2 d3 d4 d5 d6 d7 : Dk.Disk) (S5 S6 : ByteArray), d0 = Dk.new ∧
      S5.data.toList = (if Dk.kept b.data.toList k2 = [] then Dk.kept a.data.toList k0 else Dk.kept a.data.toList k0 ++ List.replicate (64 - (Dk.kept a.data.toList k0).length) 0 ++ Dk.kept b.data.toList k2) ∧
      S6.data.toList = (if Dk.kept c.data.toList k1 = [] then [] else List.replicate 128 0 ++ Dk.kept c.data.toList k1) ∧
      (∀ w1, Mine w w1 g d0 → Calls Try.prog 12 #[.pointer (some ⟨g, 0, none⟩), .int .i64 5, .int .i64 0, .string a] w1 fun e w' => e = .returned (.int .i64 0) ∧ Mine w w' g d1) ∧
      (∀ w1, Mine w w1 g d1 → Calls Try.prog 12 #[.pointer (some ⟨g, 0, none⟩), .int .i64 6, .int .i64 128, .string c] w1 fun e w' => e = .returned (.int .i64 0) ∧ Mine w w' g d2) ∧
      (∀ w1, Mine w w1 g d2 → Calls Try.prog 12 #[.pointer (some ⟨g, 0, none⟩), .int .i64 5, .int .i64 64, .string b] w1 fun e w' => e = .returned (.int .i64 0) ∧ Mine w w' g d3) ∧
      (∀ w1, Mine w w1 g d3 → Calls Try.prog 13 #[.pointer (some ⟨g, 0, none⟩), .slice ka 3 kcap] w1 fun e w' => (∃ v, e = .returned v) ∧ Mine w w' g d4) ∧
      (∀ w1, Mine w w1 g d4 → Calls Try.prog 13 #[.pointer (some ⟨g, 0, none⟩), .slice (some ⟨w1.heap.size, 0, none⟩) 3 3] (w1.alloc (.cells #[.int .i64 1, .int .i64 1, .int .i64 1] 3)) fun e w' => (∃ v, e = .returned v) ∧ Mine w w' g d4) ∧
      (∀ w1, Mine w w1 g d4 → Calls Try.prog 21 #[.pointer (some ⟨g, 0, none⟩)] w1 fun e w' => (∃ v, e = .returned v) ∧ Mine w w' g d5) ∧
      (∀ w1, Mine w w1 g d5 → Calls Try.prog 13 #[.pointer (some ⟨g, 0, none⟩), .slice (some ⟨w1.heap.size, 0, none⟩) 3 3] (w1.alloc (.cells #[.int .i64 1, .int .i64 1, .int .i64 1] 3)) fun e w' => (∃ v, e = .returned v) ∧ Mine w w' g d6) ∧
      (∀ w1, Mine w w1 g d6 → Calls Try.prog 21 #[.pointer (some ⟨g, 0, none⟩)] w1 fun e w' => (∃ v, e = .returned v) ∧ Mine w w' g d7) ∧
      (∀ w1, Mine w w1 g d7 → Calls Try.prog 23 #[.pointer (some ⟨g, 0, none⟩), .int .i64 5] w1 fun e w' => e = .returned (.tuple #[.string S5, .int .i64 0]) ∧ Mine w w' g d7) ∧
      (∀ w1, Mine w w1 g d7 → Calls Try.prog 23 #[.pointer (some ⟨g, 0, none⟩), .int .i64 6] w1 fun e w' => e = .returned (.tuple #[.string S6, .int .i64 0]) ∧ Mine w w' g d7) := by
  have za := Lib.size_eq a
  have zb := Lib.size_eq b
  have zc := Lib.size_eq c
  obtain ⟨w1, w2, w3, l5, l6⟩ := Dk.reorders a.data.toList b.data.toList c.data.toList ha hb hc (by omega) (by omega) (by omega) k0 k1 k2
  obtain ⟨d1, h1⟩ : ∃ d, Dk.add Dk.new 5 0 a.data.toList = d := ⟨_, rfl⟩
  have q1 := Dk.add_queue Dk.new 5 0 a.data.toList
  rw [h1] at w1 w2 w3 l5 l6 q1
  obtain ⟨d2, h2⟩ : ∃ d, Dk.add d1 6 128 c.data.toList = d := ⟨_, rfl⟩
  have q2 := Dk.add_queue d1 6 128 c.data.toList
  rw [h2] at w2 w3 l5 l6 q2
  obtain ⟨d3, h3⟩ : ∃ d, Dk.add d2 5 64 b.data.toList = d := ⟨_, rfl⟩
  rw [h3] at w3 l5 l6
  have hdown : d3.down = false := by rw [← h3, ← h2, ← h1]; rfl
  obtain ⟨d4, h4⟩ : ∃ d, Dk.crash d3 [k0, k1, k2] = d := ⟨_, rfl⟩
  rw [h4] at l5 l6
  have hd4 : d4.down = true := by rw [← h4]; exact Dk.crash_down_ _ _
  have hq4 : d4.queue = [] := by rw [← h4]; unfold Dk.crash; rw [hdown]; rfl
  have q0 : Dk.new.queue.length = 0 := rfl
  have hread : ∀ f : Nat, f ≤ 11 → Dk.readE (Dk.start (Dk.crash (Dk.start d4) [1, 1, 1])) (f : Int) = (d4.last f, .ok) := fun f hf => by
    have e := Dk.crash_quiet (d := Dk.start d4) rfl (by show d4.queue = []; exact hq4) [1, 1, 1] f
    unfold Dk.readE
    rw [Dk.may_file (d := Dk.start (Dk.crash (Dk.start d4) [1, 1, 1])) rfl (by omega) (by omega), Int.toNat_natCast, e]
    rfl
  refine ⟨Dk.new, d1, d2, d3, d4, Dk.start d4, Dk.crash (Dk.start d4) [1, 1, 1], Dk.start (Dk.crash (Dk.start d4) [1, 1, 1]), enc (d4.last 5), enc (d4.last 6), rfl, l5, l6, ?_, ?_, ?_, ?_, ?_, ?_, ?_, ?_, ?_, ?_⟩
  · exact fun _ h => (mine_write h 5 0 (by decide) (by decide) a (by omega) (by omega)).mono fun _ _ ⟨x, y⟩ => by rw [w1] at x y; exact ⟨x, y⟩
  · exact fun _ h => (mine_write h 6 128 (by decide) (by decide) c (by omega) (by omega)).mono fun _ _ ⟨x, y⟩ => by rw [w2] at x y; exact ⟨x, y⟩
  · exact fun _ h => (mine_write h 5 64 (by decide) (by decide) b (by omega) (by omega)).mono fun _ _ ⟨x, y⟩ => by rw [w3] at x y; exact ⟨x, y⟩
  · exact fun _ h => (mine_crash_arg h ka kb koff 3 kcap [k0, k1, k2] hk rfl).mono fun _ _ ⟨x, y⟩ => by rw [h4] at y; exact ⟨x, y⟩
  · exact fun _ h => (mine_crash_lit h [1, 1, 1] (by decide)).mono fun _ _ ⟨x, y⟩ => by rw [Dk.down_crash hd4] at y; exact ⟨x, y⟩
  · exact fun _ h => mine_start h
  · exact fun _ h => mine_crash_lit h [1, 1, 1] (by decide)
  · exact fun _ h => mine_start h
  · exact fun _ h => (mine_read h 5).mono fun _ _ ⟨x, y⟩ => by rw [show (5 : Int) = ((5 : Nat) : Int) from rfl, hread 5 (by omega)] at x; exact ⟨x, y⟩
  · exact fun _ h => (mine_read h 6).mono fun _ _ ⟨x, y⟩ => by rw [show (6 : Int) = ((6 : Nat) : Int) from rfl, hread 6 (by omega)] at x; exact ⟨x, y⟩
set_option maxHeartbeats 1000000 in
set_option maxRecDepth 100000 in
theorem reord_end0 (a b c : ByteArray) (ka : Option Addr) (n kcap : Nat) (w : World) (h0 : a.data.toList = []) : Calls Try.prog 5 #[.string a, .string b, .string c, .slice ka n kcap] w fun e w' => e = .returned (.bool true) ∧ Below w.heap.size w w' := by
  have C0 := Lib.hid (small_any w)
  obtain rfl := Dk.nil_of a h0
  go_enter Try.func5, Try.ntmps5
  go_wp2_with (first | (go_at_call 6; with_reducible refine C0.out.mono ?_; rintro _ w2 ⟨rfl, hb0⟩; have HB0 := Lib.hid hb0; clear hb0) | (go_at_call 7; with_reducible refine (mine_new _).mono ?_; rintro _ w3 ⟨rfl, hm⟩; have HM := Lib.hid hm; clear hm))
  go_ret
  exact ⟨rfl, below_to HB0.out (Nat.le_refl _) HM.out.below⟩
set_option maxHeartbeats 1000000 in
set_option maxRecDepth 100000 in
theorem reord_end1 (a b c : ByteArray) (ka : Option Addr) (n kcap : Nat) (w : World) (ha : a.data.toList ≠ []) (h0 : b.data.toList = []) : Calls Try.prog 5 #[.string a, .string b, .string c, .slice ka n kcap] w fun e w' => e = .returned (.bool true) ∧ Below w.heap.size w w' := by
  have C0 := Lib.hid (small_any w)
  have na := Dk.size_ne a ha
  have na2 : (a.toList == []) = false := by cases e : a.toList with | nil => rw [e] at na; cases na | cons x l => rfl
  obtain rfl := Dk.nil_of b h0
  go_enter Try.func5, Try.ntmps5
  go_wp2_with (first | (go_at_call 6; with_reducible refine C0.out.mono ?_; rintro _ w2 ⟨rfl, hb0⟩; have HB0 := Lib.hid hb0; clear hb0) | (go_at_call 7; with_reducible refine (mine_new _).mono ?_; rintro _ w3 ⟨rfl, hm⟩; have HM := Lib.hid hm; clear hm))
  go_ret
  exact ⟨rfl, below_to HB0.out (Nat.le_refl _) HM.out.below⟩
set_option maxHeartbeats 1000000 in
set_option maxRecDepth 100000 in
theorem reord_end2 (a b c : ByteArray) (ka : Option Addr) (n kcap : Nat) (w : World) (ha : a.data.toList ≠ []) (hb : b.data.toList ≠ []) (h0 : c.data.toList = []) : Calls Try.prog 5 #[.string a, .string b, .string c, .slice ka n kcap] w fun e w' => e = .returned (.bool true) ∧ Below w.heap.size w w' := by
  have C0 := Lib.hid (small_any w)
  have na := Dk.size_ne a ha
  have na2 : (a.toList == []) = false := by cases e : a.toList with | nil => rw [e] at na; cases na | cons x l => rfl
  have nb := Dk.size_ne b hb
  have nb2 : (b.toList == []) = false := by cases e : b.toList with | nil => rw [e] at nb; cases nb | cons x l => rfl
  obtain rfl := Dk.nil_of c h0
  go_enter Try.func5, Try.ntmps5
  go_wp2_with (first | (go_at_call 6; with_reducible refine C0.out.mono ?_; rintro _ w2 ⟨rfl, hb0⟩; have HB0 := Lib.hid hb0; clear hb0) | (go_at_call 7; with_reducible refine (mine_new _).mono ?_; rintro _ w3 ⟨rfl, hm⟩; have HM := Lib.hid hm; clear hm))
  go_ret
  exact ⟨rfl, below_to HB0.out (Nat.le_refl _) HM.out.below⟩
set_option maxHeartbeats 1000000 in
set_option maxRecDepth 100000 in
theorem reord_end3 (a b c : ByteArray) (ka : Option Addr) (n kcap : Nat) (w : World) (ha : a.data.toList ≠ []) (hb : b.data.toList ≠ []) (hc : c.data.toList ≠ []) (h0 : 64 < a.size) : Calls Try.prog 5 #[.string a, .string b, .string c, .slice ka n kcap] w fun e w' => e = .returned (.bool true) ∧ Below w.heap.size w w' := by
  have C0 := Lib.hid (small_any w)
  have na := Dk.size_ne a ha
  have na2 : (a.toList == []) = false := by cases e : a.toList with | nil => rw [e] at na; cases na | cons x l => rfl
  have nb := Dk.size_ne b hb
  have nb2 : (b.toList == []) = false := by cases e : b.toList with | nil => rw [e] at nb; cases nb | cons x l => rfl
  have nc := Dk.size_ne c hc
  have nc2 : (c.toList == []) = false := by cases e : c.toList with | nil => rw [e] at nc; cases nc | cons x l => rfl
  have la1 : (64 : Int) < (a.size : Int) := by omega
  have la2 : 64 < a.size := by omega
  go_enter Try.func5, Try.ntmps5
  go_wp2_with (first | (go_at_call 6; with_reducible refine C0.out.mono ?_; rintro _ w2 ⟨rfl, hb0⟩; have HB0 := Lib.hid hb0; clear hb0) | (go_at_call 7; with_reducible refine (mine_new _).mono ?_; rintro _ w3 ⟨rfl, hm⟩; have HM := Lib.hid hm; clear hm))
  go_ret
  exact ⟨rfl, below_to HB0.out (Nat.le_refl _) HM.out.below⟩
set_option maxHeartbeats 1000000 in
set_option maxRecDepth 100000 in
theorem reord_end4 (a b c : ByteArray) (ka : Option Addr) (n kcap : Nat) (w : World) (ha : a.data.toList ≠ []) (hb : b.data.toList ≠ []) (hc : c.data.toList ≠ []) (za : a.size ≤ 64) (h0 : 64 < b.size) : Calls Try.prog 5 #[.string a, .string b, .string c, .slice ka n kcap] w fun e w' => e = .returned (.bool true) ∧ Below w.heap.size w w' := by
  have C0 := Lib.hid (small_any w)
  have na := Dk.size_ne a ha
  have na2 : (a.toList == []) = false := by cases e : a.toList with | nil => rw [e] at na; cases na | cons x l => rfl
  have nb := Dk.size_ne b hb
  have nb2 : (b.toList == []) = false := by cases e : b.toList with | nil => rw [e] at nb; cases nb | cons x l => rfl
  have nc := Dk.size_ne c hc
  have nc2 : (c.toList == []) = false := by cases e : c.toList with | nil => rw [e] at nc; cases nc | cons x l => rfl
  have la1 : ¬ ((64 : Int) < (a.size : Int)) := by omega
  have la2 : ¬ 64 < a.size := by omega
  have la3 : decide ((64 : Int) < (a.size : Int)) = false := by simpa using la1
  have la4 : decide (64 < a.size) = false := by simpa using la2
  have lb1 : (64 : Int) < (b.size : Int) := by omega
  have lb2 : 64 < b.size := by omega
  go_enter Try.func5, Try.ntmps5
  go_wp2_with (first | (go_at_call 6; with_reducible refine C0.out.mono ?_; rintro _ w2 ⟨rfl, hb0⟩; have HB0 := Lib.hid hb0; clear hb0) | (go_at_call 7; with_reducible refine (mine_new _).mono ?_; rintro _ w3 ⟨rfl, hm⟩; have HM := Lib.hid hm; clear hm))
  go_ret
  exact ⟨rfl, below_to HB0.out (Nat.le_refl _) HM.out.below⟩
set_option maxHeartbeats 1000000 in
set_option maxRecDepth 100000 in
theorem reord_end5 (a b c : ByteArray) (ka : Option Addr) (n kcap : Nat) (w : World) (ha : a.data.toList ≠ []) (hb : b.data.toList ≠ []) (hc : c.data.toList ≠ []) (za : a.size ≤ 64) (zb : b.size ≤ 64) (h0 : 64 < c.size) : Calls Try.prog 5 #[.string a, .string b, .string c, .slice ka n kcap] w fun e w' => e = .returned (.bool true) ∧ Below w.heap.size w w' := by
  have C0 := Lib.hid (small_any w)
  have na := Dk.size_ne a ha
  have na2 : (a.toList == []) = false := by cases e : a.toList with | nil => rw [e] at na; cases na | cons x l => rfl
  have nb := Dk.size_ne b hb
  have nb2 : (b.toList == []) = false := by cases e : b.toList with | nil => rw [e] at nb; cases nb | cons x l => rfl
  have nc := Dk.size_ne c hc
  have nc2 : (c.toList == []) = false := by cases e : c.toList with | nil => rw [e] at nc; cases nc | cons x l => rfl
  have la1 : ¬ ((64 : Int) < (a.size : Int)) := by omega
  have la2 : ¬ 64 < a.size := by omega
  have la3 : decide ((64 : Int) < (a.size : Int)) = false := by simpa using la1
  have la4 : decide (64 < a.size) = false := by simpa using la2
  have lb1 : ¬ ((64 : Int) < (b.size : Int)) := by omega
  have lb2 : ¬ 64 < b.size := by omega
  have lb3 : decide ((64 : Int) < (b.size : Int)) = false := by simpa using lb1
  have lb4 : decide (64 < b.size) = false := by simpa using lb2
  have lc1 : (64 : Int) < (c.size : Int) := by omega
  have lc2 : 64 < c.size := by omega
  go_enter Try.func5, Try.ntmps5
  go_wp2_with (first | (go_at_call 6; with_reducible refine C0.out.mono ?_; rintro _ w2 ⟨rfl, hb0⟩; have HB0 := Lib.hid hb0; clear hb0) | (go_at_call 7; with_reducible refine (mine_new _).mono ?_; rintro _ w3 ⟨rfl, hm⟩; have HM := Lib.hid hm; clear hm))
  go_ret
  exact ⟨rfl, below_to HB0.out (Nat.le_refl _) HM.out.below⟩
set_option maxHeartbeats 1000000 in
set_option maxRecDepth 100000 in
theorem reord_end6 (a b c : ByteArray) (ka : Option Addr) (n kcap : Nat) (w : World) (ha : a.data.toList ≠ []) (hb : b.data.toList ≠ []) (hc : c.data.toList ≠ []) (za : a.size ≤ 64) (zb : b.size ≤ 64) (zc : c.size ≤ 64) (h0 : n ≠ 3) : Calls Try.prog 5 #[.string a, .string b, .string c, .slice ka n kcap] w fun e w' => e = .returned (.bool true) ∧ Below w.heap.size w w' := by
  have C0 := Lib.hid (small_any w)
  have na := Dk.size_ne a ha
  have na2 : (a.toList == []) = false := by cases e : a.toList with | nil => rw [e] at na; cases na | cons x l => rfl
  have nb := Dk.size_ne b hb
  have nb2 : (b.toList == []) = false := by cases e : b.toList with | nil => rw [e] at nb; cases nb | cons x l => rfl
  have nc := Dk.size_ne c hc
  have nc2 : (c.toList == []) = false := by cases e : c.toList with | nil => rw [e] at nc; cases nc | cons x l => rfl
  have la1 : ¬ ((64 : Int) < (a.size : Int)) := by omega
  have la2 : ¬ 64 < a.size := by omega
  have la3 : decide ((64 : Int) < (a.size : Int)) = false := by simpa using la1
  have la4 : decide (64 < a.size) = false := by simpa using la2
  have lb1 : ¬ ((64 : Int) < (b.size : Int)) := by omega
  have lb2 : ¬ 64 < b.size := by omega
  have lb3 : decide ((64 : Int) < (b.size : Int)) = false := by simpa using lb1
  have lb4 : decide (64 < b.size) = false := by simpa using lb2
  have lc1 : ¬ ((64 : Int) < (c.size : Int)) := by omega
  have lc2 : ¬ 64 < c.size := by omega
  have lc3 : decide ((64 : Int) < (c.size : Int)) = false := by simpa using lc1
  have lc4 : decide (64 < c.size) = false := by simpa using lc2
  have n1 : ((n : Int) != 3) = true := by rw [bne_iff_ne]; omega
  have n2 : ¬ ((n : Int) = 3) := by omega
  go_enter Try.func5, Try.ntmps5
  go_wp2_with (first | (go_at_call 6; with_reducible refine C0.out.mono ?_; rintro _ w2 ⟨rfl, hb0⟩; have HB0 := Lib.hid hb0; clear hb0) | (go_at_call 7; with_reducible refine (mine_new _).mono ?_; rintro _ w3 ⟨rfl, hm⟩; have HM := Lib.hid hm; clear hm))
  go_ret
  exact ⟨rfl, below_to HB0.out (Nat.le_refl _) HM.out.below⟩
end Go.Proofs.Ytbpodclodflgfaa
