/-
  DiskReorders: the way through.
-/
import Derived.Test.YtalhilmpjnejbaaKXr
namespace Go.Proofs.Ytalhilmpjnejbaa
open Go Go.RowKit
set_option maxHeartbeats 4000000 in
set_option maxRecDepth 100000 in
theorem reord_main11 (a b c : ByteArray) (ha : a.data.toList ≠ []) (hb : b.data.toList ≠ []) (hc : c.data.toList ≠ []) (za : a.size ≤ 64) (zb : b.size ≤ 64) (zc : c.size ≤ 64) (k0 k1 k2 : Int) (ka : Option Addr) (kb koff kcap : Nat) (w : World) (hk : IR w ka kb koff [k0, k1, k2])
    (hY : Dk.kept c.data.toList k1 = []) (hZ : Dk.kept b.data.toList k2 = []) :
    Calls Try.prog 9 #[.string a, .string b, .string c, .slice ka 3 kcap] w fun e w' => e = .returned (.bool true) ∧ Below w.heap.size w w' := by
  have C0 := Lib.hid (small_any w)
  have na := Dk.size_ne a ha
  have na2 : (a.toList == []) = false := by cases e : a.toList with | nil => rw [e] at na; cases na | cons x l => rfl
  have nb := Dk.size_ne b hb
  have nb2 : (b.toList == []) = false := by cases e : b.toList with | nil => rw [e] at nb; cases nb | cons x l => rfl
  have nc := Dk.size_ne c hc
  have nc2 : (c.toList == []) = false := by cases e : c.toList with | nil => rw [e] at nc; cases nc | cons x l => rfl
  have la1 : ¬ ((64 : Int) < (a.size : Int)) := by omega
  have la2 : ¬ 64 < a.size := by omega
  have la3 : decide ((64 : Int) < (a.size : Int)) = false := by simpa using la1
  have la4 : decide (64 < a.size) = false := by simpa using la2
  have lb1 : ¬ ((64 : Int) < (b.size : Int)) := by omega
  have lb2 : ¬ 64 < b.size := by omega
  have lb3 : decide ((64 : Int) < (b.size : Int)) = false := by simpa using lb1
  have lb4 : decide (64 < b.size) = false := by simpa using lb2
  have lc1 : ¬ ((64 : Int) < (c.size : Int)) := by omega
  have lc2 : ¬ 64 < c.size := by omega
  have lc3 : decide ((64 : Int) < (c.size : Int)) = false := by simpa using lc1
  have lc4 : decide (64 < c.size) = false := by simpa using lc2
  have P0 := Lib.hid (fun w1 : World => part_any a k0 w1)
  have P1 := Lib.hid (fun w1 : World => part_any c k1 w1)
  have P2 := Lib.hid (fun w1 : World => part_any b k2 w1)
  have HK := Lib.hid hk
  obtain rfl := hk.addr (by simp)
  clear hk
  go_enter Try.func9, Try.ntmps9
  go_wp2_with (go_at_call 10; with_reducible refine C0.out.mono ?_; rintro _ w2 ⟨rfl, hb0⟩; have HB0 := Lib.hid hb0; clear hb0)
  have hk2 := HK.out.below HB0.out
  refine (mine_new _).mono ?_
  rintro _ w3 ⟨rfl, hm⟩
  obtain ⟨d0, d1, d2, d3, d4, d5, d6, d7, S5, S6, hd0, hS5, hS6, sW1, sW2, sW3, sK1, sK2, sT1, sK3, sT2, sR5, sR6⟩ := reord_steps w2 w2.heap.size a b c ha hb hc za zb zc k0 k1 k2 _ kb koff kcap hk2
  rw [← hd0] at hm
  have HM := Lib.hid hm
  have KC := Lib.hid (fun (w1 : World) (h : Mine w2 w1 w2.heap.size d7) => show w1.cell? ⟨kb, koff, none⟩ = some (.int .i64 k0) ∧ w1.cell? ⟨kb, koff + 1, none⟩ = some (.int .i64 k1) ∧ w1.cell? ⟨kb, koff + 2, none⟩ = some (.int .i64 k2) from by
    have hi := hk2.below h.below
    exact ⟨hi.cell 0 (by simp), hi.cell 1 (by simp), hi.cell 2 (by simp)⟩)
  have W1 := Lib.hid sW1
  have W2 := Lib.hid sW2
  have W3 := Lib.hid sW3
  have K1 := Lib.hid sK1
  have K2 := Lib.hid sK2
  have T1 := Lib.hid sT1
  have K3 := Lib.hid sK3
  have T2 := Lib.hid sT2
  have R5 := Lib.hid sR5
  have R6 := Lib.hid sR6
  clear hd0 hm hk2 sW1 sW2 sW3 sK1 sK2 sT1 sK3 sT2 sR5 sR6
  obtain ⟨X, hX⟩ : ∃ X, enc (Dk.kept a.data.toList k0) = X := ⟨_, rfl⟩
  have hXl : X.data.toList = Dk.kept a.data.toList k0 := by rw [← hX]; rfl
  have hXs : X.size ≤ 64 := by
    rw [Lib.size_eq X, hXl]
    have h9 := Lib.size_eq a
    unfold Dk.kept
    split
    · omega
    · split
      · rw [List.length_take]; omega
      · exact Nat.zero_le _
  rw [hX] at P0
  rw [← hXl] at hS5
  rw [if_pos hY] at hS6
  obtain rfl := Dk.nil_of S6 hS6
  rw [hY] at P1
  change Hid (∀ w1 : World, Calls Try.prog 36 #[.string c, .int .i64 k1] w1 fun e w' => e = .returned (.string ⟨#[]⟩) ∧ w1 = w') at P1
  rw [if_pos hZ] at hS5
  have e5 : S5 = X := by
    have h2 : S5 = enc S5.data.toList := rfl
    rw [h2, hS5]; rfl
  subst e5
  rw [hZ] at P2
  change Hid (∀ w1 : World, Calls Try.prog 36 #[.string b, .int .i64 k2] w1 fun e w' => e = .returned (.string ⟨#[]⟩) ∧ w1 = w') at P2
  clear hY hZ hX hXl
  go_wp2_with (first | (go_at_call 16; with_reducible refine (W1.out _ HM.out).mono ?_; rintro _ w4 ⟨rfl, hm⟩; have HM := Lib.hid hm; clear hm) | (go_at_call 16; with_reducible refine (W2.out _ HM.out).mono ?_; rintro _ w4 ⟨rfl, hm⟩; have HM := Lib.hid hm; clear hm) | (go_at_call 16; with_reducible refine (W3.out _ HM.out).mono ?_; rintro _ w4 ⟨rfl, hm⟩; have HM := Lib.hid hm; clear hm) | (go_at_call 17; with_reducible refine (K1.out _ HM.out).mono ?_; rintro _ w4 ⟨⟨v9, rfl⟩, hm⟩; have HM := Lib.hid hm; clear hm) | (go_at_call 17; with_reducible refine (K2.out _ HM.out).mono ?_; rintro _ w4 ⟨⟨v9, rfl⟩, hm⟩; have HM := Lib.hid hm; clear hm) | (go_at_call 25; with_reducible refine (T1.out _ HM.out).mono ?_; rintro _ w4 ⟨⟨v9, rfl⟩, hm⟩; have HM := Lib.hid hm; clear hm) | (go_at_call 17; with_reducible refine (K3.out _ HM.out).mono ?_; rintro _ w4 ⟨⟨v9, rfl⟩, hm⟩; have HM := Lib.hid hm; clear hm) | (go_at_call 25; with_reducible refine (T2.out _ HM.out).mono ?_; rintro _ w4 ⟨⟨v9, rfl⟩, hm⟩; have HM := Lib.hid hm; clear hm) | (go_at_call 27; with_reducible refine (R5.out _ HM.out).mono ?_; rintro _ w4 ⟨rfl, hm⟩; have HM := Lib.hid hm; clear hm) | (go_at_call 27; with_reducible refine (R6.out _ HM.out).mono ?_; rintro _ w4 ⟨rfl, hm⟩; obtain ⟨q0, q1, q2⟩ := KC.out _ hm; have HM := Lib.hid hm; clear hm) | (go_at_call 36; with_reducible refine (P0.out _).mono ?_; rintro _ w5 ⟨rfl, rfl⟩) | (go_at_call 36; with_reducible refine (P1.out _).mono ?_; rintro _ w5 ⟨rfl, rfl⟩) | (go_at_call 36; with_reducible refine (P2.out _).mono ?_; rintro _ w5 ⟨rfl, rfl⟩))
  go_ret
  exact ⟨rfl, below_to HB0.out (Nat.le_refl _) HM.out.below⟩
set_option maxHeartbeats 4000000 in
set_option maxRecDepth 100000 in
theorem reord_main10 (a b c : ByteArray) (ha : a.data.toList ≠ []) (hb : b.data.toList ≠ []) (hc : c.data.toList ≠ []) (za : a.size ≤ 64) (zb : b.size ≤ 64) (zc : c.size ≤ 64) (k0 k1 k2 : Int) (ka : Option Addr) (kb koff kcap : Nat) (w : World) (hk : IR w ka kb koff [k0, k1, k2])
    (hY : Dk.kept c.data.toList k1 = []) (hZ : Dk.kept b.data.toList k2 ≠ []) :
    Calls Try.prog 9 #[.string a, .string b, .string c, .slice ka 3 kcap] w fun e w' => e = .returned (.bool true) ∧ Below w.heap.size w w' := by
  have C0 := Lib.hid (small_any w)
  have na := Dk.size_ne a ha
  have na2 : (a.toList == []) = false := by cases e : a.toList with | nil => rw [e] at na; cases na | cons x l => rfl
  have nb := Dk.size_ne b hb
  have nb2 : (b.toList == []) = false := by cases e : b.toList with | nil => rw [e] at nb; cases nb | cons x l => rfl
  have nc := Dk.size_ne c hc
  have nc2 : (c.toList == []) = false := by cases e : c.toList with | nil => rw [e] at nc; cases nc | cons x l => rfl
  have la1 : ¬ ((64 : Int) < (a.size : Int)) := by omega
  have la2 : ¬ 64 < a.size := by omega
  have la3 : decide ((64 : Int) < (a.size : Int)) = false := by simpa using la1
  have la4 : decide (64 < a.size) = false := by simpa using la2
  have lb1 : ¬ ((64 : Int) < (b.size : Int)) := by omega
  have lb2 : ¬ 64 < b.size := by omega
  have lb3 : decide ((64 : Int) < (b.size : Int)) = false := by simpa using lb1
  have lb4 : decide (64 < b.size) = false := by simpa using lb2
  have lc1 : ¬ ((64 : Int) < (c.size : Int)) := by omega
  have lc2 : ¬ 64 < c.size := by omega
  have lc3 : decide ((64 : Int) < (c.size : Int)) = false := by simpa using lc1
  have lc4 : decide (64 < c.size) = false := by simpa using lc2
  have P0 := Lib.hid (fun w1 : World => part_any a k0 w1)
  have P1 := Lib.hid (fun w1 : World => part_any c k1 w1)
  have P2 := Lib.hid (fun w1 : World => part_any b k2 w1)
  have HK := Lib.hid hk
  obtain rfl := hk.addr (by simp)
  clear hk
  go_enter Try.func9, Try.ntmps9
  go_wp2_with (go_at_call 10; with_reducible refine C0.out.mono ?_; rintro _ w2 ⟨rfl, hb0⟩; have HB0 := Lib.hid hb0; clear hb0)
  have hk2 := HK.out.below HB0.out
  refine (mine_new _).mono ?_
  rintro _ w3 ⟨rfl, hm⟩
  obtain ⟨d0, d1, d2, d3, d4, d5, d6, d7, S5, S6, hd0, hS5, hS6, sW1, sW2, sW3, sK1, sK2, sT1, sK3, sT2, sR5, sR6⟩ := reord_steps w2 w2.heap.size a b c ha hb hc za zb zc k0 k1 k2 _ kb koff kcap hk2
  rw [← hd0] at hm
  have HM := Lib.hid hm
  have KC := Lib.hid (fun (w1 : World) (h : Mine w2 w1 w2.heap.size d7) => show w1.cell? ⟨kb, koff, none⟩ = some (.int .i64 k0) ∧ w1.cell? ⟨kb, koff + 1, none⟩ = some (.int .i64 k1) ∧ w1.cell? ⟨kb, koff + 2, none⟩ = some (.int .i64 k2) from by
    have hi := hk2.below h.below
    exact ⟨hi.cell 0 (by simp), hi.cell 1 (by simp), hi.cell 2 (by simp)⟩)
  have W1 := Lib.hid sW1
  have W2 := Lib.hid sW2
  have W3 := Lib.hid sW3
  have K1 := Lib.hid sK1
  have K2 := Lib.hid sK2
  have T1 := Lib.hid sT1
  have K3 := Lib.hid sK3
  have T2 := Lib.hid sT2
  have R5 := Lib.hid sR5
  have R6 := Lib.hid sR6
  clear hd0 hm hk2 sW1 sW2 sW3 sK1 sK2 sT1 sK3 sT2 sR5 sR6
  obtain ⟨X, hX⟩ : ∃ X, enc (Dk.kept a.data.toList k0) = X := ⟨_, rfl⟩
  have hXl : X.data.toList = Dk.kept a.data.toList k0 := by rw [← hX]; rfl
  have hXs : X.size ≤ 64 := by
    rw [Lib.size_eq X, hXl]
    have h9 := Lib.size_eq a
    unfold Dk.kept
    split
    · omega
    · split
      · rw [List.length_take]; omega
      · exact Nat.zero_le _
  rw [hX] at P0
  rw [← hXl] at hS5
  rw [if_pos hY] at hS6
  obtain rfl := Dk.nil_of S6 hS6
  rw [hY] at P1
  change Hid (∀ w1 : World, Calls Try.prog 36 #[.string c, .int .i64 k1] w1 fun e w' => e = .returned (.string ⟨#[]⟩) ∧ w1 = w') at P1
  rw [if_neg hZ] at hS5
  obtain ⟨Z, hZe⟩ : ∃ Y, enc (Dk.kept b.data.toList k2) = Y := ⟨_, rfl⟩
  have hZl : Z.data.toList = Dk.kept b.data.toList k2 := by rw [← hZe]; rfl
  rw [hZe] at P2
  obtain ⟨Z2, hZ2⟩ : ∃ Z1, enc (List.replicate (64 - X.size) 0) = Z1 := ⟨_, rfl⟩
  have e5 : S5 = (X ++ Z2) ++ Z := by
    have : S5.data.toList = ((X ++ Z2) ++ Z).data.toList := by rw [hS5, ByteArray.data_append, Array.toList_append, ByteArray.data_append, Array.toList_append, ← hZ2, hZl, ← Lib.size_eq X]; rfl
    have h2 : S5 = enc S5.data.toList := rfl
    rw [h2, this]; rfl
  subst e5
  have nZ := Dk.size_ne Z (by rw [hZl]; exact hZ)
  have nZ2 : (Z.toList == []) = false := by cases e : Z.toList with | nil => rw [e] at nZ; cases nZ | cons x l => rfl
  have CV2 := Lib.hid (fun (w9 : World) (v9 : Value) (h9 : w9.ownsRow 0 5 1 v9 (List.replicate (64 - X.size) (0 : UInt8)).length (bv (List.replicate (64 - X.size) 0))) => conv_own h9)
  rw [hZ2] at CV2
  have sZ : Z.size ≤ 64 := by
    rw [Lib.size_eq Z, hZl]
    have h9 := Lib.size_eq b
    unfold Dk.kept
    split
    · omega
    · split
      · rw [List.length_take]; omega
      · exact Nat.zero_le _
  have sZ2 : Z2.size ≤ 64 := by rw [Lib.size_eq Z2, ← hZ2]; show (List.replicate (64 - X.size) (0 : UInt8)).length ≤ 64; rw [List.length_replicate]; omega
  have hadd2 := fun w' : World => run_string_add_sum (P := Try.prog) (w := w') X Z2 (by omega)
  have hadd3 := fun w' : World => run_string_add_sum (P := Try.prog) (w := w') (X ++ Z2) Z (by rw [ByteArray.size_append]; omega)
  clear hS5 hZe hZl hZ2 sZ sZ2
  clear hY hZ hX hXl
  go_wp2_with (first | (go_at_call 16; with_reducible refine (W1.out _ HM.out).mono ?_; rintro _ w4 ⟨rfl, hm⟩; have HM := Lib.hid hm; clear hm) | (go_at_call 16; with_reducible refine (W2.out _ HM.out).mono ?_; rintro _ w4 ⟨rfl, hm⟩; have HM := Lib.hid hm; clear hm) | (go_at_call 16; with_reducible refine (W3.out _ HM.out).mono ?_; rintro _ w4 ⟨rfl, hm⟩; have HM := Lib.hid hm; clear hm) | (go_at_call 17; with_reducible refine (K1.out _ HM.out).mono ?_; rintro _ w4 ⟨⟨v9, rfl⟩, hm⟩; have HM := Lib.hid hm; clear hm) | (go_at_call 17; with_reducible refine (K2.out _ HM.out).mono ?_; rintro _ w4 ⟨⟨v9, rfl⟩, hm⟩; have HM := Lib.hid hm; clear hm) | (go_at_call 25; with_reducible refine (T1.out _ HM.out).mono ?_; rintro _ w4 ⟨⟨v9, rfl⟩, hm⟩; have HM := Lib.hid hm; clear hm) | (go_at_call 17; with_reducible refine (K3.out _ HM.out).mono ?_; rintro _ w4 ⟨⟨v9, rfl⟩, hm⟩; have HM := Lib.hid hm; clear hm) | (go_at_call 25; with_reducible refine (T2.out _ HM.out).mono ?_; rintro _ w4 ⟨⟨v9, rfl⟩, hm⟩; have HM := Lib.hid hm; clear hm) | (go_at_call 27; with_reducible refine (R5.out _ HM.out).mono ?_; rintro _ w4 ⟨rfl, hm⟩; have HM := Lib.hid hm; clear hm) | (go_at_call 27; with_reducible refine (R6.out _ HM.out).mono ?_; rintro _ w4 ⟨rfl, hm⟩; obtain ⟨q0, q1, q2⟩ := KC.out _ hm; have HM := Lib.hid hm; clear hm) | (go_at_call 36; with_reducible refine (P0.out _).mono ?_; rintro _ w5 ⟨rfl, rfl⟩) | (go_at_call 36; with_reducible refine (P1.out _).mono ?_; rintro _ w5 ⟨rfl, rfl⟩) | (go_at_call 36; with_reducible refine (P2.out _).mono ?_; rintro _ w5 ⟨rfl, rfl⟩) | (refine wpList_make_want rfl _ _ rfl _ _ _ _ (64 - X.size) rfl rfl (by omega) (by omega) (by omega) ?_; intro v8 w8 ho8 hb8; have hcv8 := CV2.out w8 v8 ho8.out; have HB8 := Lib.hid hb8.out; clear ho8 hb8))
  go_ret
  exact ⟨rfl, below_to HB0.out (Nat.le_refl _) (HM.out.quiet HB8.out).below⟩
set_option maxHeartbeats 4000000 in
set_option maxRecDepth 100000 in
theorem reord_main01 (a b c : ByteArray) (ha : a.data.toList ≠ []) (hb : b.data.toList ≠ []) (hc : c.data.toList ≠ []) (za : a.size ≤ 64) (zb : b.size ≤ 64) (zc : c.size ≤ 64) (k0 k1 k2 : Int) (ka : Option Addr) (kb koff kcap : Nat) (w : World) (hk : IR w ka kb koff [k0, k1, k2])
    (hY : Dk.kept c.data.toList k1 ≠ []) (hZ : Dk.kept b.data.toList k2 = []) :
    Calls Try.prog 9 #[.string a, .string b, .string c, .slice ka 3 kcap] w fun e w' => e = .returned (.bool true) ∧ Below w.heap.size w w' := by
  have C0 := Lib.hid (small_any w)
  have na := Dk.size_ne a ha
  have na2 : (a.toList == []) = false := by cases e : a.toList with | nil => rw [e] at na; cases na | cons x l => rfl
  have nb := Dk.size_ne b hb
  have nb2 : (b.toList == []) = false := by cases e : b.toList with | nil => rw [e] at nb; cases nb | cons x l => rfl
  have nc := Dk.size_ne c hc
  have nc2 : (c.toList == []) = false := by cases e : c.toList with | nil => rw [e] at nc; cases nc | cons x l => rfl
  have la1 : ¬ ((64 : Int) < (a.size : Int)) := by omega
  have la2 : ¬ 64 < a.size := by omega
  have la3 : decide ((64 : Int) < (a.size : Int)) = false := by simpa using la1
  have la4 : decide (64 < a.size) = false := by simpa using la2
  have lb1 : ¬ ((64 : Int) < (b.size : Int)) := by omega
  have lb2 : ¬ 64 < b.size := by omega
  have lb3 : decide ((64 : Int) < (b.size : Int)) = false := by simpa using lb1
  have lb4 : decide (64 < b.size) = false := by simpa using lb2
  have lc1 : ¬ ((64 : Int) < (c.size : Int)) := by omega
  have lc2 : ¬ 64 < c.size := by omega
  have lc3 : decide ((64 : Int) < (c.size : Int)) = false := by simpa using lc1
  have lc4 : decide (64 < c.size) = false := by simpa using lc2
  have P0 := Lib.hid (fun w1 : World => part_any a k0 w1)
  have P1 := Lib.hid (fun w1 : World => part_any c k1 w1)
  have P2 := Lib.hid (fun w1 : World => part_any b k2 w1)
  have HK := Lib.hid hk
  obtain rfl := hk.addr (by simp)
  clear hk
  go_enter Try.func9, Try.ntmps9
  go_wp2_with (go_at_call 10; with_reducible refine C0.out.mono ?_; rintro _ w2 ⟨rfl, hb0⟩; have HB0 := Lib.hid hb0; clear hb0)
  have hk2 := HK.out.below HB0.out
  refine (mine_new _).mono ?_
  rintro _ w3 ⟨rfl, hm⟩
  obtain ⟨d0, d1, d2, d3, d4, d5, d6, d7, S5, S6, hd0, hS5, hS6, sW1, sW2, sW3, sK1, sK2, sT1, sK3, sT2, sR5, sR6⟩ := reord_steps w2 w2.heap.size a b c ha hb hc za zb zc k0 k1 k2 _ kb koff kcap hk2
  rw [← hd0] at hm
  have HM := Lib.hid hm
  have KC := Lib.hid (fun (w1 : World) (h : Mine w2 w1 w2.heap.size d7) => show w1.cell? ⟨kb, koff, none⟩ = some (.int .i64 k0) ∧ w1.cell? ⟨kb, koff + 1, none⟩ = some (.int .i64 k1) ∧ w1.cell? ⟨kb, koff + 2, none⟩ = some (.int .i64 k2) from by
    have hi := hk2.below h.below
    exact ⟨hi.cell 0 (by simp), hi.cell 1 (by simp), hi.cell 2 (by simp)⟩)
  have W1 := Lib.hid sW1
  have W2 := Lib.hid sW2
  have W3 := Lib.hid sW3
  have K1 := Lib.hid sK1
  have K2 := Lib.hid sK2
  have T1 := Lib.hid sT1
  have K3 := Lib.hid sK3
  have T2 := Lib.hid sT2
  have R5 := Lib.hid sR5
  have R6 := Lib.hid sR6
  clear hd0 hm hk2 sW1 sW2 sW3 sK1 sK2 sT1 sK3 sT2 sR5 sR6
  obtain ⟨X, hX⟩ : ∃ X, enc (Dk.kept a.data.toList k0) = X := ⟨_, rfl⟩
  have hXl : X.data.toList = Dk.kept a.data.toList k0 := by rw [← hX]; rfl
  have hXs : X.size ≤ 64 := by
    rw [Lib.size_eq X, hXl]
    have h9 := Lib.size_eq a
    unfold Dk.kept
    split
    · omega
    · split
      · rw [List.length_take]; omega
      · exact Nat.zero_le _
  rw [hX] at P0
  rw [← hXl] at hS5
  rw [if_neg hY] at hS6
  obtain ⟨Y, hYe⟩ : ∃ Y, enc (Dk.kept c.data.toList k1) = Y := ⟨_, rfl⟩
  have hYl : Y.data.toList = Dk.kept c.data.toList k1 := by rw [← hYe]; rfl
  rw [hYe] at P1
  obtain ⟨Z1, hZ1⟩ : ∃ Z1, enc (List.replicate 128 0) = Z1 := ⟨_, rfl⟩
  have e6 : S6 = Z1 ++ Y := by
    have : S6.data.toList = (Z1 ++ Y).data.toList := by rw [hS6, ByteArray.data_append, Array.toList_append, ← hZ1, hYl]; rfl
    have h2 : S6 = enc S6.data.toList := rfl
    rw [h2, this]; rfl
  subst e6
  have nY := Dk.size_ne Y (by rw [hYl]; exact hY)
  have nY2 : (Y.toList == []) = false := by cases e : Y.toList with | nil => rw [e] at nY; cases nY | cons x l => rfl
  have nY3 : (Y.toList != []) = true := by rw [bne, nY2]; rfl
  have CV1 := Lib.hid (fun (w9 : World) (v9 : Value) (h9 : w9.ownsRow 0 5 1 v9 (List.replicate 128 (0 : UInt8)).length (bv (List.replicate 128 0))) => conv_own h9)
  rw [hZ1] at CV1
  have sY : Y.size ≤ 64 := by
    rw [Lib.size_eq Y, hYl]
    have h9 := Lib.size_eq c
    unfold Dk.kept
    split
    · omega
    · split
      · rw [List.length_take]; omega
      · exact Nat.zero_le _
  have sZ1 : Z1.size = 128 := by rw [Lib.size_eq Z1, ← hZ1]; show (List.replicate 128 (0 : UInt8)).length = 128; rw [List.length_replicate]
  have hadd1 := fun w' : World => run_string_add_sum (P := Try.prog) (w := w') Z1 Y (by omega)
  clear hS6 hYe hYl hZ1 sY sZ1
  rw [if_pos hZ] at hS5
  have e5 : S5 = X := by
    have h2 : S5 = enc S5.data.toList := rfl
    rw [h2, hS5]; rfl
  subst e5
  rw [hZ] at P2
  change Hid (∀ w1 : World, Calls Try.prog 36 #[.string b, .int .i64 k2] w1 fun e w' => e = .returned (.string ⟨#[]⟩) ∧ w1 = w') at P2
  clear hY hZ hX hXl
  go_wp2_with (first | (go_at_call 16; with_reducible refine (W1.out _ HM.out).mono ?_; rintro _ w4 ⟨rfl, hm⟩; have HM := Lib.hid hm; clear hm) | (go_at_call 16; with_reducible refine (W2.out _ HM.out).mono ?_; rintro _ w4 ⟨rfl, hm⟩; have HM := Lib.hid hm; clear hm) | (go_at_call 16; with_reducible refine (W3.out _ HM.out).mono ?_; rintro _ w4 ⟨rfl, hm⟩; have HM := Lib.hid hm; clear hm) | (go_at_call 17; with_reducible refine (K1.out _ HM.out).mono ?_; rintro _ w4 ⟨⟨v9, rfl⟩, hm⟩; have HM := Lib.hid hm; clear hm) | (go_at_call 17; with_reducible refine (K2.out _ HM.out).mono ?_; rintro _ w4 ⟨⟨v9, rfl⟩, hm⟩; have HM := Lib.hid hm; clear hm) | (go_at_call 25; with_reducible refine (T1.out _ HM.out).mono ?_; rintro _ w4 ⟨⟨v9, rfl⟩, hm⟩; have HM := Lib.hid hm; clear hm) | (go_at_call 17; with_reducible refine (K3.out _ HM.out).mono ?_; rintro _ w4 ⟨⟨v9, rfl⟩, hm⟩; have HM := Lib.hid hm; clear hm) | (go_at_call 25; with_reducible refine (T2.out _ HM.out).mono ?_; rintro _ w4 ⟨⟨v9, rfl⟩, hm⟩; have HM := Lib.hid hm; clear hm) | (go_at_call 27; with_reducible refine (R5.out _ HM.out).mono ?_; rintro _ w4 ⟨rfl, hm⟩; have HM := Lib.hid hm; clear hm) | (go_at_call 27; with_reducible refine (R6.out _ HM.out).mono ?_; rintro _ w4 ⟨rfl, hm⟩; obtain ⟨q0, q1, q2⟩ := KC.out _ hm; have HM := Lib.hid hm; clear hm) | (go_at_call 36; with_reducible refine (P0.out _).mono ?_; rintro _ w5 ⟨rfl, rfl⟩) | (go_at_call 36; with_reducible refine (P1.out _).mono ?_; rintro _ w5 ⟨rfl, rfl⟩) | (go_at_call 36; with_reducible refine (P2.out _).mono ?_; rintro _ w5 ⟨rfl, rfl⟩) | (refine wpList_make_want rfl _ _ rfl _ _ _ _ 128 rfl rfl rfl rfl (by omega) ?_; intro v7 w7 ho7 hb7; have hcv7 := CV1.out w7 v7 ho7.out; have HB7 := Lib.hid (HM.out.quiet hb7.out); clear ho7 hb7))
  go_ret
  exact ⟨rfl, below_to HB0.out (Nat.le_refl _) HB7.out.below⟩
set_option maxHeartbeats 4000000 in
set_option maxRecDepth 100000 in
theorem reord_main00 (a b c : ByteArray) (ha : a.data.toList ≠ []) (hb : b.data.toList ≠ []) (hc : c.data.toList ≠ []) (za : a.size ≤ 64) (zb : b.size ≤ 64) (zc : c.size ≤ 64) (k0 k1 k2 : Int) (ka : Option Addr) (kb koff kcap : Nat) (w : World) (hk : IR w ka kb koff [k0, k1, k2])
    (hY : Dk.kept c.data.toList k1 ≠ []) (hZ : Dk.kept b.data.toList k2 ≠ []) :
    Calls Try.prog 9 #[.string a, .string b, .string c, .slice ka 3 kcap] w fun e w' => e = .returned (.bool true) ∧ Below w.heap.size w w' := by
  have C0 := Lib.hid (small_any w)
  have na := Dk.size_ne a ha
  have na2 : (a.toList == []) = false := by cases e : a.toList with | nil => rw [e] at na; cases na | cons x l => rfl
  have nb := Dk.size_ne b hb
  have nb2 : (b.toList == []) = false := by cases e : b.toList with | nil => rw [e] at nb; cases nb | cons x l => rfl
  have nc := Dk.size_ne c hc
  have nc2 : (c.toList == []) = false := by cases e : c.toList with | nil => rw [e] at nc; cases nc | cons x l => rfl
  have la1 : ¬ ((64 : Int) < (a.size : Int)) := by omega
  have la2 : ¬ 64 < a.size := by omega
  have la3 : decide ((64 : Int) < (a.size : Int)) = false := by simpa using la1
  have la4 : decide (64 < a.size) = false := by simpa using la2
  have lb1 : ¬ ((64 : Int) < (b.size : Int)) := by omega
  have lb2 : ¬ 64 < b.size := by omega
  have lb3 : decide ((64 : Int) < (b.size : Int)) = false := by simpa using lb1
  have lb4 : decide (64 < b.size) = false := by simpa using lb2
  have lc1 : ¬ ((64 : Int) < (c.size : Int)) := by omega
  have lc2 : ¬ 64 < c.size := by omega
  have lc3 : decide ((64 : Int) < (c.size : Int)) = false := by simpa using lc1
  have lc4 : decide (64 < c.size) = false := by simpa using lc2
  have P0 := Lib.hid (fun w1 : World => part_any a k0 w1)
  have P1 := Lib.hid (fun w1 : World => part_any c k1 w1)
  have P2 := Lib.hid (fun w1 : World => part_any b k2 w1)
  have HK := Lib.hid hk
  obtain rfl := hk.addr (by simp)
  clear hk
  go_enter Try.func9, Try.ntmps9
  go_wp2_with (go_at_call 10; with_reducible refine C0.out.mono ?_; rintro _ w2 ⟨rfl, hb0⟩; have HB0 := Lib.hid hb0; clear hb0)
  have hk2 := HK.out.below HB0.out
  refine (mine_new _).mono ?_
  rintro _ w3 ⟨rfl, hm⟩
  obtain ⟨d0, d1, d2, d3, d4, d5, d6, d7, S5, S6, hd0, hS5, hS6, sW1, sW2, sW3, sK1, sK2, sT1, sK3, sT2, sR5, sR6⟩ := reord_steps w2 w2.heap.size a b c ha hb hc za zb zc k0 k1 k2 _ kb koff kcap hk2
  rw [← hd0] at hm
  have HM := Lib.hid hm
  have KC := Lib.hid (fun (w1 : World) (h : Mine w2 w1 w2.heap.size d7) => show w1.cell? ⟨kb, koff, none⟩ = some (.int .i64 k0) ∧ w1.cell? ⟨kb, koff + 1, none⟩ = some (.int .i64 k1) ∧ w1.cell? ⟨kb, koff + 2, none⟩ = some (.int .i64 k2) from by
    have hi := hk2.below h.below
    exact ⟨hi.cell 0 (by simp), hi.cell 1 (by simp), hi.cell 2 (by simp)⟩)
  have W1 := Lib.hid sW1
  have W2 := Lib.hid sW2
  have W3 := Lib.hid sW3
  have K1 := Lib.hid sK1
  have K2 := Lib.hid sK2
  have T1 := Lib.hid sT1
  have K3 := Lib.hid sK3
  have T2 := Lib.hid sT2
  have R5 := Lib.hid sR5
  have R6 := Lib.hid sR6
  clear hd0 hm hk2 sW1 sW2 sW3 sK1 sK2 sT1 sK3 sT2 sR5 sR6
  obtain ⟨X, hX⟩ : ∃ X, enc (Dk.kept a.data.toList k0) = X := ⟨_, rfl⟩
  have hXl : X.data.toList = Dk.kept a.data.toList k0 := by rw [← hX]; rfl
  have hXs : X.size ≤ 64 := by
    rw [Lib.size_eq X, hXl]
    have h9 := Lib.size_eq a
    unfold Dk.kept
    split
    · omega
    · split
      · rw [List.length_take]; omega
      · exact Nat.zero_le _
  rw [hX] at P0
  rw [← hXl] at hS5
  rw [if_neg hY] at hS6
  obtain ⟨Y, hYe⟩ : ∃ Y, enc (Dk.kept c.data.toList k1) = Y := ⟨_, rfl⟩
  have hYl : Y.data.toList = Dk.kept c.data.toList k1 := by rw [← hYe]; rfl
  rw [hYe] at P1
  obtain ⟨Z1, hZ1⟩ : ∃ Z1, enc (List.replicate 128 0) = Z1 := ⟨_, rfl⟩
  have e6 : S6 = Z1 ++ Y := by
    have : S6.data.toList = (Z1 ++ Y).data.toList := by rw [hS6, ByteArray.data_append, Array.toList_append, ← hZ1, hYl]; rfl
    have h2 : S6 = enc S6.data.toList := rfl
    rw [h2, this]; rfl
  subst e6
  have nY := Dk.size_ne Y (by rw [hYl]; exact hY)
  have nY2 : (Y.toList == []) = false := by cases e : Y.toList with | nil => rw [e] at nY; cases nY | cons x l => rfl
  have nY3 : (Y.toList != []) = true := by rw [bne, nY2]; rfl
  have CV1 := Lib.hid (fun (w9 : World) (v9 : Value) (h9 : w9.ownsRow 0 5 1 v9 (List.replicate 128 (0 : UInt8)).length (bv (List.replicate 128 0))) => conv_own h9)
  rw [hZ1] at CV1
  have sY : Y.size ≤ 64 := by
    rw [Lib.size_eq Y, hYl]
    have h9 := Lib.size_eq c
    unfold Dk.kept
    split
    · omega
    · split
      · rw [List.length_take]; omega
      · exact Nat.zero_le _
  have sZ1 : Z1.size = 128 := by rw [Lib.size_eq Z1, ← hZ1]; show (List.replicate 128 (0 : UInt8)).length = 128; rw [List.length_replicate]
  have hadd1 := fun w' : World => run_string_add_sum (P := Try.prog) (w := w') Z1 Y (by omega)
  clear hS6 hYe hYl hZ1 sY sZ1
  rw [if_neg hZ] at hS5
  obtain ⟨Z, hZe⟩ : ∃ Y, enc (Dk.kept b.data.toList k2) = Y := ⟨_, rfl⟩
  have hZl : Z.data.toList = Dk.kept b.data.toList k2 := by rw [← hZe]; rfl
  rw [hZe] at P2
  obtain ⟨Z2, hZ2⟩ : ∃ Z1, enc (List.replicate (64 - X.size) 0) = Z1 := ⟨_, rfl⟩
  have e5 : S5 = (X ++ Z2) ++ Z := by
    have : S5.data.toList = ((X ++ Z2) ++ Z).data.toList := by rw [hS5, ByteArray.data_append, Array.toList_append, ByteArray.data_append, Array.toList_append, ← hZ2, hZl, ← Lib.size_eq X]; rfl
    have h2 : S5 = enc S5.data.toList := rfl
    rw [h2, this]; rfl
  subst e5
  have nZ := Dk.size_ne Z (by rw [hZl]; exact hZ)
  have nZ2 : (Z.toList == []) = false := by cases e : Z.toList with | nil => rw [e] at nZ; cases nZ | cons x l => rfl
  have CV2 := Lib.hid (fun (w9 : World) (v9 : Value) (h9 : w9.ownsRow 0 5 1 v9 (List.replicate (64 - X.size) (0 : UInt8)).length (bv (List.replicate (64 - X.size) 0))) => conv_own h9)
  rw [hZ2] at CV2
  have sZ : Z.size ≤ 64 := by
    rw [Lib.size_eq Z, hZl]
    have h9 := Lib.size_eq b
    unfold Dk.kept
    split
    · omega
    · split
      · rw [List.length_take]; omega
      · exact Nat.zero_le _
  have sZ2 : Z2.size ≤ 64 := by rw [Lib.size_eq Z2, ← hZ2]; show (List.replicate (64 - X.size) (0 : UInt8)).length ≤ 64; rw [List.length_replicate]; omega
  have hadd2 := fun w' : World => run_string_add_sum (P := Try.prog) (w := w') X Z2 (by omega)
  have hadd3 := fun w' : World => run_string_add_sum (P := Try.prog) (w := w') (X ++ Z2) Z (by rw [ByteArray.size_append]; omega)
  clear hS5 hZe hZl hZ2 sZ sZ2
  clear hY hZ hX hXl
  go_wp2_with (first | (go_at_call 16; with_reducible refine (W1.out _ HM.out).mono ?_; rintro _ w4 ⟨rfl, hm⟩; have HM := Lib.hid hm; clear hm) | (go_at_call 16; with_reducible refine (W2.out _ HM.out).mono ?_; rintro _ w4 ⟨rfl, hm⟩; have HM := Lib.hid hm; clear hm) | (go_at_call 16; with_reducible refine (W3.out _ HM.out).mono ?_; rintro _ w4 ⟨rfl, hm⟩; have HM := Lib.hid hm; clear hm) | (go_at_call 17; with_reducible refine (K1.out _ HM.out).mono ?_; rintro _ w4 ⟨⟨v9, rfl⟩, hm⟩; have HM := Lib.hid hm; clear hm) | (go_at_call 17; with_reducible refine (K2.out _ HM.out).mono ?_; rintro _ w4 ⟨⟨v9, rfl⟩, hm⟩; have HM := Lib.hid hm; clear hm) | (go_at_call 25; with_reducible refine (T1.out _ HM.out).mono ?_; rintro _ w4 ⟨⟨v9, rfl⟩, hm⟩; have HM := Lib.hid hm; clear hm) | (go_at_call 17; with_reducible refine (K3.out _ HM.out).mono ?_; rintro _ w4 ⟨⟨v9, rfl⟩, hm⟩; have HM := Lib.hid hm; clear hm) | (go_at_call 25; with_reducible refine (T2.out _ HM.out).mono ?_; rintro _ w4 ⟨⟨v9, rfl⟩, hm⟩; have HM := Lib.hid hm; clear hm) | (go_at_call 27; with_reducible refine (R5.out _ HM.out).mono ?_; rintro _ w4 ⟨rfl, hm⟩; have HM := Lib.hid hm; clear hm) | (go_at_call 27; with_reducible refine (R6.out _ HM.out).mono ?_; rintro _ w4 ⟨rfl, hm⟩; obtain ⟨q0, q1, q2⟩ := KC.out _ hm; have HM := Lib.hid hm; clear hm) | (go_at_call 36; with_reducible refine (P0.out _).mono ?_; rintro _ w5 ⟨rfl, rfl⟩) | (go_at_call 36; with_reducible refine (P1.out _).mono ?_; rintro _ w5 ⟨rfl, rfl⟩) | (go_at_call 36; with_reducible refine (P2.out _).mono ?_; rintro _ w5 ⟨rfl, rfl⟩) | (refine wpList_make_want rfl _ _ rfl _ _ _ _ 128 rfl rfl rfl rfl (by omega) ?_; intro v7 w7 ho7 hb7; have hcv7 := CV1.out w7 v7 ho7.out; have HB7 := Lib.hid (HM.out.quiet hb7.out); clear ho7 hb7) | (refine wpList_make_want rfl _ _ rfl _ _ _ _ (64 - X.size) rfl rfl (by omega) (by omega) (by omega) ?_; intro v8 w8 ho8 hb8; have hcv8 := CV2.out w8 v8 ho8.out; have HB8 := Lib.hid hb8.out; clear ho8 hb8))
  go_ret
  exact ⟨rfl, below_to HB0.out (Nat.le_refl _) (HB7.out.quiet HB8.out).below⟩
theorem reord_law (a b c : ByteArray) (ks : List Int) (ka : Option Addr) (kb koff n kcap : Nat) (hn : ks.length = n) (w : World) (hk : IR w ka kb koff ks) :
    Calls Try.prog 9 #[.string a, .string b, .string c, .slice ka n kcap] w fun e w' => e = .returned (.bool true) ∧ Below w.heap.size w w' := by
  by_cases ha : a.data.toList = []
  · exact reord_end0 a b c ka n kcap w ha
  by_cases hb : b.data.toList = []
  · exact reord_end1 a b c ka n kcap w ha hb
  by_cases hc : c.data.toList = []
  · exact reord_end2 a b c ka n kcap w ha hb hc
  by_cases la : 64 < a.size
  · exact reord_end3 a b c ka n kcap w ha hb hc la
  by_cases lb : 64 < b.size
  · exact reord_end4 a b c ka n kcap w ha hb hc (by omega) lb
  by_cases lc : 64 < c.size
  · exact reord_end5 a b c ka n kcap w ha hb hc (by omega) (by omega) lc
  by_cases hn3 : n = 3
  · subst hn3
    obtain ⟨k0, k1, k2, rfl⟩ : ∃ k0 k1 k2, ks = [k0, k1, k2] := by
      match ks, hn with
      | [k0, k1, k2], _ => exact ⟨k0, k1, k2, rfl⟩
    by_cases hY : Dk.kept c.data.toList k1 = []
    · by_cases hZ : Dk.kept b.data.toList k2 = []
      · exact reord_main11 a b c ha hb hc (by omega) (by omega) (by omega) k0 k1 k2 ka kb koff kcap w hk hY hZ
      · exact reord_main10 a b c ha hb hc (by omega) (by omega) (by omega) k0 k1 k2 ka kb koff kcap w hk hY hZ
    · by_cases hZ : Dk.kept b.data.toList k2 = []
      · exact reord_main01 a b c ha hb hc (by omega) (by omega) (by omega) k0 k1 k2 ka kb koff kcap w hk hY hZ
      · exact reord_main00 a b c ha hb hc (by omega) (by omega) (by omega) k0 k1 k2 ka kb koff kcap w hk hY hZ
  · exact reord_end6 a b c ka n kcap w ha hb hc (by omega) (by omega) (by omega) hn3
end Go.Proofs.Ytalhilmpjnejbaa
