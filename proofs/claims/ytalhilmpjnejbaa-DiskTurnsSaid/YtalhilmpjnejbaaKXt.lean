/-
  DiskTurns: the law returns true, whatever the contents, the point of the crash, and what is kept.
-/
import Derived.Test.YtalhilmpjnejbaaKXr
namespace Go.Proofs.Ytalhilmpjnejbaa
open Go Go.RowKit
set_option maxHeartbeats 1000000 in
set_option maxRecDepth 100000 in
theorem turns_end0 (a b : ByteArray) (x : Int) (ka : Option Addr) (n kcap : Nat) (w : World) (h0 : 50000 < a.size) : Calls Try.prog 6 #[.string a, .string b, .int .i64 x, .slice ka n kcap] w fun e w' => e = .returned (.bool true) ∧ Below w.heap.size w w' := by
  have C0 := Lib.hid (small_any w)
  have l1 : (50000 : Int) < (a.size : Int) := by omega
  go_enter Try.func6, Try.ntmps6
  go_wp2_with (first | (go_at_call 10; with_reducible refine C0.out.mono ?_; rintro _ w2 ⟨rfl, hb0⟩; have HB0 := Lib.hid hb0; clear hb0) | (go_at_call 11; with_reducible refine (mine_new _).mono ?_; rintro _ w3 ⟨rfl, hm⟩; have HM := Lib.hid hm; clear hm))
  go_ret
  exact ⟨rfl, below_to HB0.out (Nat.le_refl _) HM.out.below⟩
set_option maxHeartbeats 1000000 in
set_option maxRecDepth 100000 in
theorem turns_end1 (a b : ByteArray) (x : Int) (ka : Option Addr) (n kcap : Nat) (w : World) (la : a.size ≤ 50000) (h0 : 50000 < b.size) : Calls Try.prog 6 #[.string a, .string b, .int .i64 x, .slice ka n kcap] w fun e w' => e = .returned (.bool true) ∧ Below w.heap.size w w' := by
  have C0 := Lib.hid (small_any w)
  have l0 : ¬ ((50000 : Int) < (a.size : Int)) := by omega
  have l01 : decide ((50000 : Int) < (a.size : Int)) = false := by simpa using l0
  have l02 : ¬ 50000 < a.size := by omega
  have l03 : decide (50000 < a.size) = false := by simpa using l02
  have l1 : (50000 : Int) < (b.size : Int) := by omega
  go_enter Try.func6, Try.ntmps6
  go_wp2_with (first | (go_at_call 10; with_reducible refine C0.out.mono ?_; rintro _ w2 ⟨rfl, hb0⟩; have HB0 := Lib.hid hb0; clear hb0) | (go_at_call 11; with_reducible refine (mine_new _).mono ?_; rintro _ w3 ⟨rfl, hm⟩; have HM := Lib.hid hm; clear hm))
  go_ret
  exact ⟨rfl, below_to HB0.out (Nat.le_refl _) HM.out.below⟩
theorem turns_stepsA (w : World) (g : Nat) (a b : ByteArray) (la : a.size ≤ 50000) (_lb : b.size ≤ 50000) (ka : Option Addr) (kb koff n kcap : Nat) (ks : List Int) (hn : ks.length = n) (hk : IR w ka kb koff ks) :
    ∃ d0 d1 d2 d5 d6 d7 : Dk.Disk, d0 = Dk.new ∧
      (∀ w1, Mine w w1 g d0 → Calls Try.prog 16 #[.pointer (some ⟨g, 0, none⟩), .int .i64 3, .int .i64 0, .string a] w1 fun e w' => e = .returned (.int .i64 0) ∧ Mine w w' g d1) ∧
      (∀ w1, Mine w w1 g d1 → Calls Try.prog 32 #[.pointer (some ⟨g, 0, none⟩), .int .i64 3] w1 fun e w' => e = .returned (.int .i64 0) ∧ Mine w w' g d2) ∧
      (∀ w1, Mine w w1 g d2 → Calls Try.prog 34 #[.pointer (some ⟨g, 0, none⟩), .int .i64 3, .int .i64 4] w1 fun e w' => e = .returned (.int .i64 0) ∧ Mine w w' g d5) ∧
      (∀ w1, Mine w w1 g d5 → Calls Try.prog 17 #[.pointer (some ⟨g, 0, none⟩), .slice ka n kcap] w1 fun e w' => (∃ v, e = .returned v) ∧ Mine w w' g d6) ∧
      (∀ w1, Mine w w1 g d6 → Calls Try.prog 25 #[.pointer (some ⟨g, 0, none⟩)] w1 fun e w' => (∃ v, e = .returned v) ∧ Mine w w' g d7) ∧
      (∀ w1, Mine w w1 g d7 → Calls Try.prog 27 #[.pointer (some ⟨g, 0, none⟩), .int .i64 3] w1 fun e w' => e = .returned (.tuple #[.string ⟨#[]⟩, .int .i64 0]) ∧ Mine w w' g d7) := by
  have za := Lib.size_eq a
  have zb := Lib.size_eq b
  have q0 : Dk.new.queue.length = 0 := rfl
  obtain ⟨u1, u2⟩ := Dk.wrote Dk.calm_new rfl rfl 3 (by omega) rfl a.data.toList (by omega)
  obtain ⟨d1, h1⟩ : ∃ d, Dk.add Dk.new 3 0 a.data.toList = d := ⟨_, rfl⟩
  have q1 := Dk.add_queue Dk.new 3 0 a.data.toList
  rw [h1] at u1 u2 q1
  obtain ⟨d2, h2⟩ : ∃ d, ({ Dk.new with last := Dk.setLast Dk.new.last 3 a.data.toList, queue := [] } : Dk.Disk) = d := ⟨_, rfl⟩
  rw [h2] at u2
  have c2 : Dk.Calm d2 := by rw [← h2]; exact ⟨rfl, rfl⟩
  have e2 : d2.queue = [] := by rw [← h2]
  have l2 : d2.lost = 0 := by rw [← h2]; rfl
  have f4 : d2.last 4 = [] := by rw [← h2]; rfl
  have f3 : d2.last 3 = a.data.toList := by rw [← h2]; rfl
  have q2 : d2.queue.length = 0 := by rw [e2]; rfl
  obtain ⟨t1, t2, t3⟩ := Dk.turn_done c2 e2 ks
  rw [f4] at t2
  obtain ⟨d5, h5⟩ : ∃ d, (Dk.turn d2 3 4).2 = d := ⟨_, rfl⟩
  rw [h5] at t2 t3
  have hr : Dk.readE (Dk.start (Dk.crash d5 ks)) 3 = ([], .ok) := by
    unfold Dk.readE
    rw [Dk.may_file (d := Dk.start (Dk.crash d5 ks)) rfl (by omega) (by omega)]
    show (Dk.read (Dk.start (Dk.crash d5 ks)) 3, _) = _
    rw [t2]
  refine ⟨Dk.new, d1, d2, d5, Dk.crash d5 ks, Dk.start (Dk.crash d5 ks), rfl, ?_, ?_, ?_, ?_, ?_, ?_⟩
  · exact fun _ h => (mine_write h 3 0 (by decide) (by decide) a (by omega) (by omega)).mono fun _ _ ⟨x, y⟩ => by rw [show (3 : Int) = ((3 : Nat) : Int) from rfl, u1] at x y; exact ⟨x, y⟩
  · exact fun _ h => (mine_flush h 3).mono fun _ _ ⟨x, y⟩ => by rw [show (3 : Int) = ((3 : Nat) : Int) from rfl, u2] at x y; exact ⟨x, y⟩
  · exact fun _ h => (mine_turn h 3 4).mono fun _ _ ⟨x, y⟩ => by rw [t1] at x; rw [h5] at y; exact ⟨x, y⟩
  · exact fun _ h => mine_crash_arg h ka kb koff n kcap ks hk hn
  · exact fun _ h => mine_start h
  · exact fun _ h => (mine_read h 3).mono fun _ _ ⟨x, y⟩ => by rw [hr] at x; exact ⟨x, y⟩
set_option maxHeartbeats 2000000 in
set_option maxRecDepth 100000 in
theorem turns_mainA (a b : ByteArray) (x : Int) (hx : x = 0) (la : a.size ≤ 50000) (lb : b.size ≤ 50000) (ka : Option Addr) (kb koff n kcap : Nat) (ks : List Int) (hn : ks.length = n) (w : World) (hk : IR w ka kb koff ks) :
    Calls Try.prog 6 #[.string a, .string b, .int .i64 x, .slice ka n kcap] w fun e w' => e = .returned (.bool true) ∧ Below w.heap.size w w' := by
  have C0 := Lib.hid (small_any w)
  have l0 : ¬ ((50000 : Int) < (a.size : Int)) := by omega
  have l01 : decide ((50000 : Int) < (a.size : Int)) = false := by simpa using l0
  have l02 : ¬ 50000 < a.size := by omega
  have l03 : decide (50000 < a.size) = false := by simpa using l02
  have l1 : ¬ ((50000 : Int) < (b.size : Int)) := by omega
  have l11 : decide ((50000 : Int) < (b.size : Int)) = false := by simpa using l1
  have l12 : ¬ 50000 < b.size := by omega
  have l13 : decide (50000 < b.size) = false := by simpa using l12
  have HK := Lib.hid hk
  have HN := Lib.hid hn
  clear hk hn
  subst hx
  go_enter Try.func6, Try.ntmps6
  go_wp2_with (go_at_call 10; with_reducible refine C0.out.mono ?_; rintro _ w2 ⟨rfl, hb0⟩; have HB0 := Lib.hid hb0; clear hb0)
  refine (mine_new _).mono ?_
  rintro _ w3 ⟨rfl, hm⟩
  obtain ⟨d0, d1, d2, d5, d6, d7, hd0, sW3, sF3, sT, sK, sS, sR⟩ := turns_stepsA w2 w2.heap.size a b la lb ka kb koff n kcap ks HN.out (HK.out.below HB0.out)
  rw [← hd0] at hm
  have HM := Lib.hid hm
  have W3 := Lib.hid sW3
  have F3 := Lib.hid sF3
  have T := Lib.hid sT
  have K := Lib.hid sK
  have S := Lib.hid sS
  have R := Lib.hid sR
  clear hd0 hm sW3 sF3 sT sK sS sR
  go_wp2_with (first | (go_at_call 16; with_reducible refine (W3.out _ HM.out).mono ?_; rintro _ w4 ⟨rfl, hm⟩; have HM := Lib.hid hm; clear hm) | (go_at_call 32; with_reducible refine (F3.out _ HM.out).mono ?_; rintro _ w4 ⟨rfl, hm⟩; have HM := Lib.hid hm; clear hm) | (go_at_call 34; with_reducible refine (T.out _ HM.out).mono ?_; rintro _ w4 ⟨rfl, hm⟩; have HM := Lib.hid hm; clear hm) | (go_at_call 17; with_reducible refine (K.out _ HM.out).mono ?_; rintro _ w4 ⟨⟨v9, rfl⟩, hm⟩; have HM := Lib.hid hm; clear hm) | (go_at_call 25; with_reducible refine (S.out _ HM.out).mono ?_; rintro _ w4 ⟨⟨v9, rfl⟩, hm⟩; have HM := Lib.hid hm; clear hm) | (go_at_call 27; with_reducible refine (R.out _ HM.out).mono ?_; rintro _ w4 ⟨rfl, hm⟩; have HM := Lib.hid hm; clear hm))
  go_ret
  exact ⟨rfl, below_to HB0.out (Nat.le_refl _) HM.out.below⟩
theorem turns_stepsB (w : World) (g : Nat) (a b : ByteArray) (la : a.size ≤ 50000) (lb : b.size ≤ 50000) (hb : b.data.toList = []) (ka : Option Addr) (kb koff n kcap : Nat) (ks : List Int) (hn : ks.length = n) (hk : IR w ka kb koff ks) :
    ∃ d0 d1 d2 d3 d5 d6 d7 : Dk.Disk, d0 = Dk.new ∧
      (∀ w1, Mine w w1 g d0 → Calls Try.prog 16 #[.pointer (some ⟨g, 0, none⟩), .int .i64 3, .int .i64 0, .string a] w1 fun e w' => e = .returned (.int .i64 0) ∧ Mine w w' g d1) ∧
      (∀ w1, Mine w w1 g d1 → Calls Try.prog 32 #[.pointer (some ⟨g, 0, none⟩), .int .i64 3] w1 fun e w' => e = .returned (.int .i64 0) ∧ Mine w w' g d2) ∧
      (∀ w1, Mine w w1 g d2 → Calls Try.prog 16 #[.pointer (some ⟨g, 0, none⟩), .int .i64 4, .int .i64 0, .string b] w1 fun e w' => e = .returned (.int .i64 0) ∧ Mine w w' g d3) ∧
      (∀ w1, Mine w w1 g d3 → Calls Try.prog 34 #[.pointer (some ⟨g, 0, none⟩), .int .i64 3, .int .i64 4] w1 fun e w' => e = .returned (.int .i64 0) ∧ Mine w w' g d5) ∧
      (∀ w1, Mine w w1 g d5 → Calls Try.prog 17 #[.pointer (some ⟨g, 0, none⟩), .slice ka n kcap] w1 fun e w' => (∃ v, e = .returned v) ∧ Mine w w' g d6) ∧
      (∀ w1, Mine w w1 g d6 → Calls Try.prog 25 #[.pointer (some ⟨g, 0, none⟩)] w1 fun e w' => (∃ v, e = .returned v) ∧ Mine w w' g d7) ∧
      (∀ w1, Mine w w1 g d7 → Calls Try.prog 27 #[.pointer (some ⟨g, 0, none⟩), .int .i64 3] w1 fun e w' => e = .returned (.tuple #[.string ⟨#[]⟩, .int .i64 0]) ∧ Mine w w' g d7) ∧
      (∀ w1, Mine w w1 g d7 → Calls Try.prog 23 #[.pointer (some ⟨g, 0, none⟩), .int .i64 4] w1 fun e w' => e = .returned (.int .i64 0) ∧ Mine w w' g d7) := by
  have za := Lib.size_eq a
  have zb := Lib.size_eq b
  have q0 : Dk.new.queue.length = 0 := rfl
  obtain ⟨u1, u2⟩ := Dk.wrote Dk.calm_new rfl rfl 3 (by omega) rfl a.data.toList (by omega)
  obtain ⟨d1, h1⟩ : ∃ d, Dk.add Dk.new 3 0 a.data.toList = d := ⟨_, rfl⟩
  have q1 := Dk.add_queue Dk.new 3 0 a.data.toList
  rw [h1] at u1 u2 q1
  obtain ⟨d2, h2⟩ : ∃ d, ({ Dk.new with last := Dk.setLast Dk.new.last 3 a.data.toList, queue := [] } : Dk.Disk) = d := ⟨_, rfl⟩
  rw [h2] at u2
  have c2 : Dk.Calm d2 := by rw [← h2]; exact ⟨rfl, rfl⟩
  have e2 : d2.queue = [] := by rw [← h2]
  have l2 : d2.lost = 0 := by rw [← h2]; rfl
  have f4 : d2.last 4 = [] := by rw [← h2]; rfl
  have f3 : d2.last 3 = a.data.toList := by rw [← h2]; rfl
  have q2 : d2.queue.length = 0 := by rw [e2]; rfl
  obtain ⟨u3, u4⟩ := Dk.wrote c2 e2 l2 4 (by omega) f4 b.data.toList (by omega)
  obtain ⟨d3, h3⟩ : ∃ d, Dk.add d2 4 0 b.data.toList = d := ⟨_, rfl⟩
  have q3 := Dk.add_queue d2 4 0 b.data.toList
  rw [h3] at u3 u4 q3
  have c3 : Dk.Calm d3 := by rw [← h3]; exact ⟨c2.down, c2.armed⟩
  have e3 : d3.queue = [] := by rw [← h3, hb]; show d2.queue ++ _ = _; rw [e2, Dk.pieces_nil]; rfl
  obtain ⟨t1, t2, t3⟩ := Dk.turn_done c3 e3 ks
  have g4 : d3.last 4 = [] := by rw [← h3]; exact f4
  rw [g4] at t2
  obtain ⟨d5, h5⟩ : ∃ d, (Dk.turn d3 3 4).2 = d := ⟨_, rfl⟩
  rw [h5] at t2 t3
  have hr : Dk.readE (Dk.start (Dk.crash d5 ks)) 3 = ([], .ok) := by
    unfold Dk.readE
    rw [Dk.may_file (d := Dk.start (Dk.crash d5 ks)) rfl (by omega) (by omega)]
    show (Dk.read (Dk.start (Dk.crash d5 ks)) 3, _) = _
    rw [t2]
  have hz : Dk.size (Dk.start (Dk.crash d5 ks)) 4 = 0 := by unfold Dk.size; rw [if_pos (by omega)]; show (Dk.read (Dk.start (Dk.crash d5 ks)) 4).length = 0; rw [t3]; rfl
  refine ⟨Dk.new, d1, d2, d3, d5, Dk.crash d5 ks, Dk.start (Dk.crash d5 ks), rfl, ?_, ?_, ?_, ?_, ?_, ?_, ?_, ?_⟩
  · exact fun _ h => (mine_write h 3 0 (by decide) (by decide) a (by omega) (by omega)).mono fun _ _ ⟨x, y⟩ => by rw [show (3 : Int) = ((3 : Nat) : Int) from rfl, u1] at x y; exact ⟨x, y⟩
  · exact fun _ h => (mine_flush h 3).mono fun _ _ ⟨x, y⟩ => by rw [show (3 : Int) = ((3 : Nat) : Int) from rfl, u2] at x y; exact ⟨x, y⟩
  · exact fun _ h => (mine_write h 4 0 (by decide) (by decide) b (by omega) (by omega)).mono fun _ _ ⟨x, y⟩ => by rw [show (4 : Int) = ((4 : Nat) : Int) from rfl, u3] at x y; exact ⟨x, y⟩
  · exact fun _ h => (mine_turn h 3 4).mono fun _ _ ⟨x, y⟩ => by rw [t1] at x; rw [h5] at y; exact ⟨x, y⟩
  · exact fun _ h => mine_crash_arg h ka kb koff n kcap ks hk hn
  · exact fun _ h => mine_start h
  · exact fun _ h => (mine_read h 3).mono fun _ _ ⟨x, y⟩ => by rw [hr] at x; exact ⟨x, y⟩
  · exact fun _ h => (mine_size h 4).mono fun _ _ ⟨x, y⟩ => by rw [hz] at x; exact ⟨x, y⟩
set_option maxHeartbeats 2000000 in
set_option maxRecDepth 100000 in
theorem turns_mainB (a b : ByteArray) (x : Int) (hx : x = 1) (la : a.size ≤ 50000) (lb : b.size ≤ 50000) (hb : b.data.toList = []) (ka : Option Addr) (kb koff n kcap : Nat) (ks : List Int) (hn : ks.length = n) (w : World) (hk : IR w ka kb koff ks) :
    Calls Try.prog 6 #[.string a, .string b, .int .i64 x, .slice ka n kcap] w fun e w' => e = .returned (.bool true) ∧ Below w.heap.size w w' := by
  have C0 := Lib.hid (small_any w)
  have l0 : ¬ ((50000 : Int) < (a.size : Int)) := by omega
  have l01 : decide ((50000 : Int) < (a.size : Int)) = false := by simpa using l0
  have l02 : ¬ 50000 < a.size := by omega
  have l03 : decide (50000 < a.size) = false := by simpa using l02
  have l1 : ¬ ((50000 : Int) < (b.size : Int)) := by omega
  have l11 : decide ((50000 : Int) < (b.size : Int)) = false := by simpa using l1
  have l12 : ¬ 50000 < b.size := by omega
  have l13 : decide (50000 < b.size) = false := by simpa using l12
  have HK := Lib.hid hk
  have HN := Lib.hid hn
  clear hk hn
  subst hx
  obtain rfl := Dk.nil_of b hb
  go_enter Try.func6, Try.ntmps6
  go_wp2_with (go_at_call 10; with_reducible refine C0.out.mono ?_; rintro _ w2 ⟨rfl, hb0⟩; have HB0 := Lib.hid hb0; clear hb0)
  refine (mine_new _).mono ?_
  rintro _ w3 ⟨rfl, hm⟩
  obtain ⟨d0, d1, d2, d3, d5, d6, d7, hd0, sW3, sF3, sW4, sT, sK, sS, sR, sZ⟩ := turns_stepsB w2 w2.heap.size a ⟨#[]⟩ la lb rfl ka kb koff n kcap ks HN.out (HK.out.below HB0.out)
  rw [← hd0] at hm
  have HM := Lib.hid hm
  have W3 := Lib.hid sW3
  have F3 := Lib.hid sF3
  have W4 := Lib.hid sW4
  have T := Lib.hid sT
  have K := Lib.hid sK
  have S := Lib.hid sS
  have R := Lib.hid sR
  have Z := Lib.hid sZ
  clear hd0 hm sW3 sF3 sW4 sT sK sS sR sZ
  go_wp2_with (first | (go_at_call 16; with_reducible refine (W3.out _ HM.out).mono ?_; rintro _ w4 ⟨rfl, hm⟩; have HM := Lib.hid hm; clear hm) | (go_at_call 32; with_reducible refine (F3.out _ HM.out).mono ?_; rintro _ w4 ⟨rfl, hm⟩; have HM := Lib.hid hm; clear hm) | (go_at_call 16; with_reducible refine (W4.out _ HM.out).mono ?_; rintro _ w4 ⟨rfl, hm⟩; have HM := Lib.hid hm; clear hm) | (go_at_call 34; with_reducible refine (T.out _ HM.out).mono ?_; rintro _ w4 ⟨rfl, hm⟩; have HM := Lib.hid hm; clear hm) | (go_at_call 17; with_reducible refine (K.out _ HM.out).mono ?_; rintro _ w4 ⟨⟨v9, rfl⟩, hm⟩; have HM := Lib.hid hm; clear hm) | (go_at_call 25; with_reducible refine (S.out _ HM.out).mono ?_; rintro _ w4 ⟨⟨v9, rfl⟩, hm⟩; have HM := Lib.hid hm; clear hm) | (go_at_call 27; with_reducible refine (R.out _ HM.out).mono ?_; rintro _ w4 ⟨rfl, hm⟩; have HM := Lib.hid hm; clear hm) | (go_at_call 23; with_reducible refine (Z.out _ HM.out).mono ?_; rintro _ w4 ⟨rfl, hm⟩; have HM := Lib.hid hm; clear hm))
  go_ret
  exact ⟨rfl, below_to HB0.out (Nat.le_refl _) HM.out.below⟩
theorem turns_stepsC (w : World) (g : Nat) (a b : ByteArray) (la : a.size ≤ 50000) (lb : b.size ≤ 50000) (hb : b.data.toList ≠ []) (ka : Option Addr) (kb koff n kcap : Nat) (ks : List Int) (hn : ks.length = n) (hk : IR w ka kb koff ks) :
    ∃ d0 d1 d2 d3 d5 d6 d7 : Dk.Disk, ∃ z : Nat, z ≤ b.size ∧ d0 = Dk.new ∧
      (∀ w1, Mine w w1 g d0 → Calls Try.prog 16 #[.pointer (some ⟨g, 0, none⟩), .int .i64 3, .int .i64 0, .string a] w1 fun e w' => e = .returned (.int .i64 0) ∧ Mine w w' g d1) ∧
      (∀ w1, Mine w w1 g d1 → Calls Try.prog 32 #[.pointer (some ⟨g, 0, none⟩), .int .i64 3] w1 fun e w' => e = .returned (.int .i64 0) ∧ Mine w w' g d2) ∧
      (∀ w1, Mine w w1 g d2 → Calls Try.prog 16 #[.pointer (some ⟨g, 0, none⟩), .int .i64 4, .int .i64 0, .string b] w1 fun e w' => e = .returned (.int .i64 0) ∧ Mine w w' g d3) ∧
      (∀ w1, Mine w w1 g d3 → Calls Try.prog 34 #[.pointer (some ⟨g, 0, none⟩), .int .i64 3, .int .i64 4] w1 fun e w' => e = .returned (.int .i64 7) ∧ Mine w w' g d5) ∧
      (∀ w1, Mine w w1 g d5 → Calls Try.prog 17 #[.pointer (some ⟨g, 0, none⟩), .slice ka n kcap] w1 fun e w' => (∃ v, e = .returned v) ∧ Mine w w' g d6) ∧
      (∀ w1, Mine w w1 g d6 → Calls Try.prog 25 #[.pointer (some ⟨g, 0, none⟩)] w1 fun e w' => (∃ v, e = .returned v) ∧ Mine w w' g d7) ∧
      (∀ w1, Mine w w1 g d7 → Calls Try.prog 27 #[.pointer (some ⟨g, 0, none⟩), .int .i64 3] w1 fun e w' => e = .returned (.tuple #[.string a, .int .i64 0]) ∧ Mine w w' g d7) ∧
      (∀ w1, Mine w w1 g d7 → Calls Try.prog 23 #[.pointer (some ⟨g, 0, none⟩), .int .i64 4] w1 fun e w' => e = .returned (.int .i64 (z : Int)) ∧ Mine w w' g d7) := by
  have za := Lib.size_eq a
  have zb := Lib.size_eq b
  have q0 : Dk.new.queue.length = 0 := rfl
  obtain ⟨u1, u2⟩ := Dk.wrote Dk.calm_new rfl rfl 3 (by omega) rfl a.data.toList (by omega)
  obtain ⟨d1, h1⟩ : ∃ d, Dk.add Dk.new 3 0 a.data.toList = d := ⟨_, rfl⟩
  have q1 := Dk.add_queue Dk.new 3 0 a.data.toList
  rw [h1] at u1 u2 q1
  obtain ⟨d2, h2⟩ : ∃ d, ({ Dk.new with last := Dk.setLast Dk.new.last 3 a.data.toList, queue := [] } : Dk.Disk) = d := ⟨_, rfl⟩
  rw [h2] at u2
  have c2 : Dk.Calm d2 := by rw [← h2]; exact ⟨rfl, rfl⟩
  have e2 : d2.queue = [] := by rw [← h2]
  have l2 : d2.lost = 0 := by rw [← h2]; rfl
  have f4 : d2.last 4 = [] := by rw [← h2]; rfl
  have f3 : d2.last 3 = a.data.toList := by rw [← h2]; rfl
  have q2 : d2.queue.length = 0 := by rw [e2]; rfl
  obtain ⟨u3, u4⟩ := Dk.wrote c2 e2 l2 4 (by omega) f4 b.data.toList (by omega)
  obtain ⟨d3, h3⟩ : ∃ d, Dk.add d2 4 0 b.data.toList = d := ⟨_, rfl⟩
  have q3 := Dk.add_queue d2 4 0 b.data.toList
  obtain ⟨t1, t2, t3⟩ := Dk.not_turned c2 b.data.toList hb e2 f4 ks
  rw [h3] at u3 u4 q3 t1 t2 t3
  rw [f3] at t2
  obtain ⟨d5, h5⟩ : ∃ d, (Dk.turn d3 3 4).2 = d := ⟨_, rfl⟩
  rw [h5] at t2 t3
  have hr : Dk.readE (Dk.start (Dk.crash d5 ks)) 3 = (a.data.toList, .ok) := by
    unfold Dk.readE
    rw [Dk.may_file (d := Dk.start (Dk.crash d5 ks)) rfl (by omega) (by omega)]
    show (Dk.read (Dk.start (Dk.crash d5 ks)) 3, _) = _
    rw [t2]
  have hz : Dk.size (Dk.start (Dk.crash d5 ks)) 4 = (Dk.read (Dk.start (Dk.crash d5 ks)) 4).length := by unfold Dk.size; rw [if_pos (by omega)]; rfl
  refine ⟨Dk.new, d1, d2, d3, d5, Dk.crash d5 ks, Dk.start (Dk.crash d5 ks), (Dk.read (Dk.start (Dk.crash d5 ks)) 4).length, by rw [zb]; exact t3, rfl, ?_, ?_, ?_, ?_, ?_, ?_, ?_, ?_⟩
  · exact fun _ h => (mine_write h 3 0 (by decide) (by decide) a (by omega) (by omega)).mono fun _ _ ⟨x, y⟩ => by rw [show (3 : Int) = ((3 : Nat) : Int) from rfl, u1] at x y; exact ⟨x, y⟩
  · exact fun _ h => (mine_flush h 3).mono fun _ _ ⟨x, y⟩ => by rw [show (3 : Int) = ((3 : Nat) : Int) from rfl, u2] at x y; exact ⟨x, y⟩
  · exact fun _ h => (mine_write h 4 0 (by decide) (by decide) b (by omega) (by omega)).mono fun _ _ ⟨x, y⟩ => by rw [show (4 : Int) = ((4 : Nat) : Int) from rfl, u3] at x y; exact ⟨x, y⟩
  · exact fun _ h => (mine_turn h 3 4).mono fun _ _ ⟨x, y⟩ => by rw [t1] at x; rw [h5] at y; exact ⟨x, y⟩
  · exact fun _ h => mine_crash_arg h ka kb koff n kcap ks hk hn
  · exact fun _ h => mine_start h
  · exact fun _ h => (mine_read h 3).mono fun _ _ ⟨x, y⟩ => by rw [hr] at x; exact ⟨x, y⟩
  · exact fun _ h => (mine_size h 4).mono fun _ _ ⟨x, y⟩ => by rw [hz] at x; exact ⟨x, y⟩
set_option maxHeartbeats 2000000 in
set_option maxRecDepth 100000 in
theorem turns_mainC (a b : ByteArray) (x : Int) (hx : x = 1) (la : a.size ≤ 50000) (lb : b.size ≤ 50000) (hb : b.data.toList ≠ []) (ka : Option Addr) (kb koff n kcap : Nat) (ks : List Int) (hn : ks.length = n) (w : World) (hk : IR w ka kb koff ks) :
    Calls Try.prog 6 #[.string a, .string b, .int .i64 x, .slice ka n kcap] w fun e w' => e = .returned (.bool true) ∧ Below w.heap.size w w' := by
  have C0 := Lib.hid (small_any w)
  have l0 : ¬ ((50000 : Int) < (a.size : Int)) := by omega
  have l01 : decide ((50000 : Int) < (a.size : Int)) = false := by simpa using l0
  have l02 : ¬ 50000 < a.size := by omega
  have l03 : decide (50000 < a.size) = false := by simpa using l02
  have l1 : ¬ ((50000 : Int) < (b.size : Int)) := by omega
  have l11 : decide ((50000 : Int) < (b.size : Int)) = false := by simpa using l1
  have l12 : ¬ 50000 < b.size := by omega
  have l13 : decide (50000 < b.size) = false := by simpa using l12
  have HK := Lib.hid hk
  have HN := Lib.hid hn
  clear hk hn
  subst hx
  have nb := Dk.size_ne b hb
  have nb2 : (b.toList == []) = false := by cases e : b.toList with | nil => rw [e] at nb; cases nb | cons x l => rfl
  have nb3 : (b.toList != []) = true := by rw [bne, nb2]; rfl
  go_enter Try.func6, Try.ntmps6
  go_wp2_with (go_at_call 10; with_reducible refine C0.out.mono ?_; rintro _ w2 ⟨rfl, hb0⟩; have HB0 := Lib.hid hb0; clear hb0)
  refine (mine_new _).mono ?_
  rintro _ w3 ⟨rfl, hm⟩
  obtain ⟨d0, d1, d2, d3, d5, d6, d7, z, hz, hd0, sW3, sF3, sW4, sT, sK, sS, sR, sZ⟩ := turns_stepsC w2 w2.heap.size a b la lb hb ka kb koff n kcap ks HN.out (HK.out.below HB0.out)
  rw [← hd0] at hm
  have HM := Lib.hid hm
  have W3 := Lib.hid sW3
  have F3 := Lib.hid sF3
  have W4 := Lib.hid sW4
  have T := Lib.hid sT
  have K := Lib.hid sK
  have S := Lib.hid sS
  have R := Lib.hid sR
  have Z := Lib.hid sZ
  clear hd0 hm sW3 sF3 sW4 sT sK sS sR sZ
  have hz1 : ¬ ((b.size : Int) < (z : Int)) := by omega
  have hz2 : (z : Int) ≤ (b.size : Int) := by omega
  go_wp2_with (first | (go_at_call 16; with_reducible refine (W3.out _ HM.out).mono ?_; rintro _ w4 ⟨rfl, hm⟩; have HM := Lib.hid hm; clear hm) | (go_at_call 32; with_reducible refine (F3.out _ HM.out).mono ?_; rintro _ w4 ⟨rfl, hm⟩; have HM := Lib.hid hm; clear hm) | (go_at_call 16; with_reducible refine (W4.out _ HM.out).mono ?_; rintro _ w4 ⟨rfl, hm⟩; have HM := Lib.hid hm; clear hm) | (go_at_call 34; with_reducible refine (T.out _ HM.out).mono ?_; rintro _ w4 ⟨rfl, hm⟩; have HM := Lib.hid hm; clear hm) | (go_at_call 17; with_reducible refine (K.out _ HM.out).mono ?_; rintro _ w4 ⟨⟨v9, rfl⟩, hm⟩; have HM := Lib.hid hm; clear hm) | (go_at_call 25; with_reducible refine (S.out _ HM.out).mono ?_; rintro _ w4 ⟨⟨v9, rfl⟩, hm⟩; have HM := Lib.hid hm; clear hm) | (go_at_call 27; with_reducible refine (R.out _ HM.out).mono ?_; rintro _ w4 ⟨rfl, hm⟩; have HM := Lib.hid hm; clear hm) | (go_at_call 23; with_reducible refine (Z.out _ HM.out).mono ?_; rintro _ w4 ⟨rfl, hm⟩; have HM := Lib.hid hm; clear hm))
  go_ret
  exact ⟨rfl, below_to HB0.out (Nat.le_refl _) HM.out.below⟩
theorem turns_stepsD (w : World) (g : Nat) (a b : ByteArray) (la : a.size ≤ 50000) (lb : b.size ≤ 50000) (ka : Option Addr) (kb koff n kcap : Nat) (ks : List Int) (hn : ks.length = n) (hk : IR w ka kb koff ks) :
    ∃ d0 d1 d2 d3 d4 d5 d6 d7 : Dk.Disk, d0 = Dk.new ∧
      (∀ w1, Mine w w1 g d0 → Calls Try.prog 16 #[.pointer (some ⟨g, 0, none⟩), .int .i64 3, .int .i64 0, .string a] w1 fun e w' => e = .returned (.int .i64 0) ∧ Mine w w' g d1) ∧
      (∀ w1, Mine w w1 g d1 → Calls Try.prog 32 #[.pointer (some ⟨g, 0, none⟩), .int .i64 3] w1 fun e w' => e = .returned (.int .i64 0) ∧ Mine w w' g d2) ∧
      (∀ w1, Mine w w1 g d2 → Calls Try.prog 16 #[.pointer (some ⟨g, 0, none⟩), .int .i64 4, .int .i64 0, .string b] w1 fun e w' => e = .returned (.int .i64 0) ∧ Mine w w' g d3) ∧
      (∀ w1, Mine w w1 g d3 → Calls Try.prog 32 #[.pointer (some ⟨g, 0, none⟩), .int .i64 4] w1 fun e w' => e = .returned (.int .i64 0) ∧ Mine w w' g d4) ∧
      (∀ w1, Mine w w1 g d4 → Calls Try.prog 34 #[.pointer (some ⟨g, 0, none⟩), .int .i64 3, .int .i64 4] w1 fun e w' => e = .returned (.int .i64 0) ∧ Mine w w' g d5) ∧
      (∀ w1, Mine w w1 g d5 → Calls Try.prog 17 #[.pointer (some ⟨g, 0, none⟩), .slice ka n kcap] w1 fun e w' => (∃ v, e = .returned v) ∧ Mine w w' g d6) ∧
      (∀ w1, Mine w w1 g d6 → Calls Try.prog 25 #[.pointer (some ⟨g, 0, none⟩)] w1 fun e w' => (∃ v, e = .returned v) ∧ Mine w w' g d7) ∧
      (∀ w1, Mine w w1 g d7 → Calls Try.prog 27 #[.pointer (some ⟨g, 0, none⟩), .int .i64 3] w1 fun e w' => e = .returned (.tuple #[.string b, .int .i64 0]) ∧ Mine w w' g d7) ∧
      (∀ w1, Mine w w1 g d7 → Calls Try.prog 23 #[.pointer (some ⟨g, 0, none⟩), .int .i64 4] w1 fun e w' => e = .returned (.int .i64 0) ∧ Mine w w' g d7) := by
  have za := Lib.size_eq a
  have zb := Lib.size_eq b
  have q0 : Dk.new.queue.length = 0 := rfl
  obtain ⟨u1, u2⟩ := Dk.wrote Dk.calm_new rfl rfl 3 (by omega) rfl a.data.toList (by omega)
  obtain ⟨d1, h1⟩ : ∃ d, Dk.add Dk.new 3 0 a.data.toList = d := ⟨_, rfl⟩
  have q1 := Dk.add_queue Dk.new 3 0 a.data.toList
  rw [h1] at u1 u2 q1
  obtain ⟨d2, h2⟩ : ∃ d, ({ Dk.new with last := Dk.setLast Dk.new.last 3 a.data.toList, queue := [] } : Dk.Disk) = d := ⟨_, rfl⟩
  rw [h2] at u2
  have c2 : Dk.Calm d2 := by rw [← h2]; exact ⟨rfl, rfl⟩
  have e2 : d2.queue = [] := by rw [← h2]
  have l2 : d2.lost = 0 := by rw [← h2]; rfl
  have f4 : d2.last 4 = [] := by rw [← h2]; rfl
  have f3 : d2.last 3 = a.data.toList := by rw [← h2]; rfl
  have q2 : d2.queue.length = 0 := by rw [e2]; rfl
  obtain ⟨u3, u4⟩ := Dk.wrote c2 e2 l2 4 (by omega) f4 b.data.toList (by omega)
  obtain ⟨d3, h3⟩ : ∃ d, Dk.add d2 4 0 b.data.toList = d := ⟨_, rfl⟩
  have q3 := Dk.add_queue d2 4 0 b.data.toList
  rw [h3] at u3 u4 q3
  obtain ⟨d4, h4⟩ : ∃ d, ({ d2 with last := Dk.setLast d2.last 4 b.data.toList, queue := [] } : Dk.Disk) = d := ⟨_, rfl⟩
  rw [h4] at u4
  have c4 : Dk.Calm d4 := by rw [← h4]; exact ⟨c2.down, c2.armed⟩
  have e4 : d4.queue = [] := by rw [← h4]
  obtain ⟨t1, t2, t3⟩ := Dk.turn_done c4 e4 ks
  have g4 : d4.last 4 = b.data.toList := by rw [← h4]; rfl
  rw [g4] at t2
  obtain ⟨d5, h5⟩ : ∃ d, (Dk.turn d4 3 4).2 = d := ⟨_, rfl⟩
  rw [h5] at t2 t3
  have hr : Dk.readE (Dk.start (Dk.crash d5 ks)) 3 = (b.data.toList, .ok) := by
    unfold Dk.readE
    rw [Dk.may_file (d := Dk.start (Dk.crash d5 ks)) rfl (by omega) (by omega)]
    show (Dk.read (Dk.start (Dk.crash d5 ks)) 3, _) = _
    rw [t2]
  have hz : Dk.size (Dk.start (Dk.crash d5 ks)) 4 = 0 := by unfold Dk.size; rw [if_pos (by omega)]; show (Dk.read (Dk.start (Dk.crash d5 ks)) 4).length = 0; rw [t3]; rfl
  refine ⟨Dk.new, d1, d2, d3, d4, d5, Dk.crash d5 ks, Dk.start (Dk.crash d5 ks), rfl, ?_, ?_, ?_, ?_, ?_, ?_, ?_, ?_, ?_⟩
  · exact fun _ h => (mine_write h 3 0 (by decide) (by decide) a (by omega) (by omega)).mono fun _ _ ⟨x, y⟩ => by rw [show (3 : Int) = ((3 : Nat) : Int) from rfl, u1] at x y; exact ⟨x, y⟩
  · exact fun _ h => (mine_flush h 3).mono fun _ _ ⟨x, y⟩ => by rw [show (3 : Int) = ((3 : Nat) : Int) from rfl, u2] at x y; exact ⟨x, y⟩
  · exact fun _ h => (mine_write h 4 0 (by decide) (by decide) b (by omega) (by omega)).mono fun _ _ ⟨x, y⟩ => by rw [show (4 : Int) = ((4 : Nat) : Int) from rfl, u3] at x y; exact ⟨x, y⟩
  · exact fun _ h => (mine_flush h 4).mono fun _ _ ⟨x, y⟩ => by rw [show (4 : Int) = ((4 : Nat) : Int) from rfl, u4] at x y; exact ⟨x, y⟩
  · exact fun _ h => (mine_turn h 3 4).mono fun _ _ ⟨x, y⟩ => by rw [t1] at x; rw [h5] at y; exact ⟨x, y⟩
  · exact fun _ h => mine_crash_arg h ka kb koff n kcap ks hk hn
  · exact fun _ h => mine_start h
  · exact fun _ h => (mine_read h 3).mono fun _ _ ⟨x, y⟩ => by rw [hr] at x; exact ⟨x, y⟩
  · exact fun _ h => (mine_size h 4).mono fun _ _ ⟨x, y⟩ => by rw [hz] at x; exact ⟨x, y⟩
set_option maxHeartbeats 2000000 in
set_option maxRecDepth 100000 in
theorem turns_mainD (a b : ByteArray) (x : Int) (hx0 : x ≠ 0) (hx1 : x ≠ 1) (la : a.size ≤ 50000) (lb : b.size ≤ 50000) (ka : Option Addr) (kb koff n kcap : Nat) (ks : List Int) (hn : ks.length = n) (w : World) (hk : IR w ka kb koff ks) :
    Calls Try.prog 6 #[.string a, .string b, .int .i64 x, .slice ka n kcap] w fun e w' => e = .returned (.bool true) ∧ Below w.heap.size w w' := by
  have C0 := Lib.hid (small_any w)
  have l0 : ¬ ((50000 : Int) < (a.size : Int)) := by omega
  have l01 : decide ((50000 : Int) < (a.size : Int)) = false := by simpa using l0
  have l02 : ¬ 50000 < a.size := by omega
  have l03 : decide (50000 < a.size) = false := by simpa using l02
  have l1 : ¬ ((50000 : Int) < (b.size : Int)) := by omega
  have l11 : decide ((50000 : Int) < (b.size : Int)) = false := by simpa using l1
  have l12 : ¬ 50000 < b.size := by omega
  have l13 : decide (50000 < b.size) = false := by simpa using l12
  have HK := Lib.hid hk
  have HN := Lib.hid hn
  clear hk hn
  have x0 : (x == 0) = false := by simpa using hx0
  have x01 : (x != 0) = true := by simpa using hx0
  have x1 : (x == 1) = false := by simpa using hx1
  have x11 : (x != 1) = true := by simpa using hx1
  go_enter Try.func6, Try.ntmps6
  go_wp2_with (go_at_call 10; with_reducible refine C0.out.mono ?_; rintro _ w2 ⟨rfl, hb0⟩; have HB0 := Lib.hid hb0; clear hb0)
  refine (mine_new _).mono ?_
  rintro _ w3 ⟨rfl, hm⟩
  obtain ⟨d0, d1, d2, d3, d4, d5, d6, d7, hd0, sW3, sF3, sW4, sF4, sT, sK, sS, sR, sZ⟩ := turns_stepsD w2 w2.heap.size a b la lb ka kb koff n kcap ks HN.out (HK.out.below HB0.out)
  rw [← hd0] at hm
  have HM := Lib.hid hm
  have W3 := Lib.hid sW3
  have F3 := Lib.hid sF3
  have W4 := Lib.hid sW4
  have F4 := Lib.hid sF4
  have T := Lib.hid sT
  have K := Lib.hid sK
  have S := Lib.hid sS
  have R := Lib.hid sR
  have Z := Lib.hid sZ
  clear hd0 hm sW3 sF3 sW4 sF4 sT sK sS sR sZ
  go_wp2_with (first | (go_at_call 16; with_reducible refine (W3.out _ HM.out).mono ?_; rintro _ w4 ⟨rfl, hm⟩; have HM := Lib.hid hm; clear hm) | (go_at_call 32; with_reducible refine (F3.out _ HM.out).mono ?_; rintro _ w4 ⟨rfl, hm⟩; have HM := Lib.hid hm; clear hm) | (go_at_call 16; with_reducible refine (W4.out _ HM.out).mono ?_; rintro _ w4 ⟨rfl, hm⟩; have HM := Lib.hid hm; clear hm) | (go_at_call 32; with_reducible refine (F4.out _ HM.out).mono ?_; rintro _ w4 ⟨rfl, hm⟩; have HM := Lib.hid hm; clear hm) | (go_at_call 34; with_reducible refine (T.out _ HM.out).mono ?_; rintro _ w4 ⟨rfl, hm⟩; have HM := Lib.hid hm; clear hm) | (go_at_call 17; with_reducible refine (K.out _ HM.out).mono ?_; rintro _ w4 ⟨⟨v9, rfl⟩, hm⟩; have HM := Lib.hid hm; clear hm) | (go_at_call 25; with_reducible refine (S.out _ HM.out).mono ?_; rintro _ w4 ⟨⟨v9, rfl⟩, hm⟩; have HM := Lib.hid hm; clear hm) | (go_at_call 27; with_reducible refine (R.out _ HM.out).mono ?_; rintro _ w4 ⟨rfl, hm⟩; have HM := Lib.hid hm; clear hm) | (go_at_call 23; with_reducible refine (Z.out _ HM.out).mono ?_; rintro _ w4 ⟨rfl, hm⟩; have HM := Lib.hid hm; clear hm))
  go_ret
  exact ⟨rfl, below_to HB0.out (Nat.le_refl _) HM.out.below⟩
theorem turns_law (a b : ByteArray) (x : Int) (ka : Option Addr) (kb koff n kcap : Nat) (ks : List Int) (hn : ks.length = n) (w : World) (hk : IR w ka kb koff ks) :
    Calls Try.prog 6 #[.string a, .string b, .int .i64 x, .slice ka n kcap] w fun e w' => e = .returned (.bool true) ∧ Below w.heap.size w w' := by
  by_cases la : 50000 < a.size
  · exact turns_end0 a b x ka n kcap w la
  by_cases lb : 50000 < b.size
  · exact turns_end1 a b x ka n kcap w (by omega) lb
  by_cases h0 : x = 0
  · exact turns_mainA a b x h0 (by omega) (by omega) ka kb koff n kcap ks hn w hk
  by_cases h1 : x = 1
  · by_cases hb : b.data.toList = []
    · exact turns_mainB a b x h1 (by omega) (by omega) hb ka kb koff n kcap ks hn w hk
    · exact turns_mainC a b x h1 (by omega) (by omega) hb ka kb koff n kcap ks hn w hk
  · exact turns_mainD a b x h0 h1 (by omega) (by omega) ka kb koff n kcap ks hn w hk
end Go.Proofs.Ytalhilmpjnejbaa
