/-
  small, the law's example.
  Small helpers of the disk laws (the seat of DiskTells).
-/
import Derived.Test.YtbelmadbjiiodaaKGg
namespace Go.Proofs.Ytbelmadbjiiodaa
open Go Go.RowKit
def sd0 : Dk.Disk := Dk.new
def sd1 : Dk.Disk := (Dk.write sd0 1 (0) [104, 101, 108, 108, 111]).2
def sd2 : Dk.Disk := (Dk.flush sd1 1).2
def sd3 : Dk.Disk := (Dk.write sd2 1 (5) [121]).2
def sd4 : Dk.Disk := (Dk.write sd3 1 (8) [122]).2
def sd5 : Dk.Disk := Dk.crash sd4 [1]
def sd6 : Dk.Disk := Dk.start sd5
def sd7 : Dk.Disk := Dk.lose sd6 1
def sd8 : Dk.Disk := (Dk.flush sd7 1).2
def sd9 : Dk.Disk := (Dk.write sd8 2 (0) [120]).2
def sd10 : Dk.Disk := (Dk.turn sd9 1 2).2
def sd11 : Dk.Disk := (Dk.flush sd10 2).2
def sd12 : Dk.Disk := (Dk.turn sd11 1 2).2
def sd13 : Dk.Disk := (Dk.write sd12 3 (62) [97, 98, 99, 100]).2
def sd14 : Dk.Disk := Dk.crash sd13 [0, 1]
def sd15 : Dk.Disk := Dk.start sd14
def sd16 : Dk.Disk := (Dk.write sd15 12 (0) []).2
def sd17 : Dk.Disk := (Dk.write sd16 0 (-1) []).2
def sd18 : Dk.Disk := (Dk.cut sd17 1 2).2
theorem sf0 : (Dk.write sd0 1 (0) [104, 101, 108, 108, 111]).1 = .ok := by decide +kernel
theorem sf1 : (Dk.flush sd1 1).1 = .ok := by decide +kernel
theorem sf2 : (Dk.write sd2 1 (5) [121]).1 = .ok := by decide +kernel
theorem sf3 : (Dk.write sd3 1 (8) [122]).1 = .ok := by decide +kernel
theorem sf5 : Dk.readE sd5 1 = ([], .down) := by decide +kernel
theorem sf6 : sd5.down = true := by decide +kernel
theorem sf8 : Dk.readE sd6 1 = ([104, 101, 108, 108, 111, 121], .ok) := by decide +kernel
theorem sf10 : (Dk.flush sd7 1).1 = .lost := by decide +kernel
theorem sf11 : (Dk.write sd8 2 (0) [120]).1 = .ok := by decide +kernel
theorem sf12 : (Dk.turn sd9 1 2).1 = .state := by decide +kernel
theorem sf13 : (Dk.flush sd10 2).1 = .ok := by decide +kernel
theorem sf14 : (Dk.turn sd11 1 2).1 = .ok := by decide +kernel
theorem sf15 : Dk.readE sd12 1 = ([120], .ok) := by decide +kernel
theorem sf16 : (Dk.write sd12 3 (62) [97, 98, 99, 100]).1 = .ok := by decide +kernel
theorem sf19 : Dk.readE sd15 3 = ((List.replicate 64 0 ++ [99, 100]), .ok) := by decide +kernel
theorem sf20 : Dk.size sd15 2 = 0 := by decide +kernel
theorem sf21 : (Dk.write sd15 12 (0) []).1 = .arg := by decide +kernel
theorem sf22 : (Dk.write sd16 0 (-1) []).1 = .arg := by decide +kernel
theorem sf23 : (Dk.cut sd17 1 2).1 = .arg := by decide +kernel
def strU : ByteArray := enc (List.replicate 64 0 ++ [99, 100])
theorem small_steps (w : World) (g : Nat) : ∃ d0 d1 d2 d3 d4 d5 d6 d7 d8 d9 d10 d11 d12 d13 d14 d15 d16 d17 d18 : Dk.Disk, ∃ U : ByteArray, d0 = Dk.new ∧ U = strU ∧
  (∀ w1, Mine w w1 g d0 → Calls Try.prog 10 #[.pointer (some ⟨g, 0, none⟩), .int .i64 1, .int .i64 0, .string ⟨#[104, 101, 108, 108, 111]⟩] w1 fun e w' => e = .returned (.int .i64 0) ∧ Mine w w' g d1) ∧
  (∀ w1, Mine w w1 g d1 → Calls Try.prog 23 #[.pointer (some ⟨g, 0, none⟩), .int .i64 1] w1 fun e w' => e = .returned (.int .i64 0) ∧ Mine w w' g d2) ∧
  (∀ w1, Mine w w1 g d2 → Calls Try.prog 10 #[.pointer (some ⟨g, 0, none⟩), .int .i64 1, .int .i64 5, .string ⟨#[121]⟩] w1 fun e w' => e = .returned (.int .i64 0) ∧ Mine w w' g d3) ∧
  (∀ w1, Mine w w1 g d3 → Calls Try.prog 10 #[.pointer (some ⟨g, 0, none⟩), .int .i64 1, .int .i64 8, .string ⟨#[122]⟩] w1 fun e w' => e = .returned (.int .i64 0) ∧ Mine w w' g d4) ∧
  (∀ w1, Mine w w1 g d4 → Calls Try.prog 11 #[.pointer (some ⟨g, 0, none⟩), .slice (some ⟨w1.heap.size, 0, none⟩) 1 1] (w1.alloc (.cells #[.int .i64 1] 3)) fun e w' => (∃ v, e = .returned v) ∧ Mine w w' g d5) ∧
  (∀ w1, Mine w w1 g d5 → Calls Try.prog 21 #[.pointer (some ⟨g, 0, none⟩), .int .i64 1] w1 fun e w' => e = .returned (.tuple #[.string ⟨#[]⟩, .int .i64 8]) ∧ Mine w w' g d5) ∧
  (∀ w1, Mine w w1 g d5 → Calls Try.prog 15 #[.pointer (some ⟨g, 0, none⟩)] w1 fun e w' => e = .returned (.bool true) ∧ w1 = w') ∧
  (∀ w1, Mine w w1 g d5 → Calls Try.prog 19 #[.pointer (some ⟨g, 0, none⟩)] w1 fun e w' => (∃ v, e = .returned v) ∧ Mine w w' g d6) ∧
  (∀ w1, Mine w w1 g d6 → Calls Try.prog 21 #[.pointer (some ⟨g, 0, none⟩), .int .i64 1] w1 fun e w' => e = .returned (.tuple #[.string ⟨#[104, 101, 108, 108, 111, 121]⟩, .int .i64 0]) ∧ Mine w w' g d6) ∧
  (∀ w1, Mine w w1 g d6 → Calls Try.prog 24 #[.pointer (some ⟨g, 0, none⟩), .int .i64 1] w1 fun e w' => (∃ v, e = .returned v) ∧ Mine w w' g d7) ∧
  (∀ w1, Mine w w1 g d7 → Calls Try.prog 23 #[.pointer (some ⟨g, 0, none⟩), .int .i64 1] w1 fun e w' => e = .returned (.int .i64 9) ∧ Mine w w' g d8) ∧
  (∀ w1, Mine w w1 g d8 → Calls Try.prog 10 #[.pointer (some ⟨g, 0, none⟩), .int .i64 2, .int .i64 0, .string ⟨#[120]⟩] w1 fun e w' => e = .returned (.int .i64 0) ∧ Mine w w' g d9) ∧
  (∀ w1, Mine w w1 g d9 → Calls Try.prog 25 #[.pointer (some ⟨g, 0, none⟩), .int .i64 1, .int .i64 2] w1 fun e w' => e = .returned (.int .i64 7) ∧ Mine w w' g d10) ∧
  (∀ w1, Mine w w1 g d10 → Calls Try.prog 23 #[.pointer (some ⟨g, 0, none⟩), .int .i64 2] w1 fun e w' => e = .returned (.int .i64 0) ∧ Mine w w' g d11) ∧
  (∀ w1, Mine w w1 g d11 → Calls Try.prog 25 #[.pointer (some ⟨g, 0, none⟩), .int .i64 1, .int .i64 2] w1 fun e w' => e = .returned (.int .i64 0) ∧ Mine w w' g d12) ∧
  (∀ w1, Mine w w1 g d12 → Calls Try.prog 21 #[.pointer (some ⟨g, 0, none⟩), .int .i64 1] w1 fun e w' => e = .returned (.tuple #[.string ⟨#[120]⟩, .int .i64 0]) ∧ Mine w w' g d12) ∧
  (∀ w1, Mine w w1 g d12 → Calls Try.prog 10 #[.pointer (some ⟨g, 0, none⟩), .int .i64 3, .int .i64 62, .string ⟨#[97, 98, 99, 100]⟩] w1 fun e w' => e = .returned (.int .i64 0) ∧ Mine w w' g d13) ∧
  (∀ w1, Mine w w1 g d13 → Calls Try.prog 11 #[.pointer (some ⟨g, 0, none⟩), .slice (some ⟨w1.heap.size, 0, none⟩) 2 2] (w1.alloc (.cells #[.int .i64 0, .int .i64 1] 3)) fun e w' => (∃ v, e = .returned v) ∧ Mine w w' g d14) ∧
  (∀ w1, Mine w w1 g d14 → Calls Try.prog 19 #[.pointer (some ⟨g, 0, none⟩)] w1 fun e w' => (∃ v, e = .returned v) ∧ Mine w w' g d15) ∧
  (∀ w1, Mine w w1 g d15 → Calls Try.prog 21 #[.pointer (some ⟨g, 0, none⟩), .int .i64 3] w1 fun e w' => e = .returned (.tuple #[.string U, .int .i64 0]) ∧ Mine w w' g d15) ∧
  (∀ w1, Mine w w1 g d15 → Calls Try.prog 17 #[.pointer (some ⟨g, 0, none⟩), .int .i64 2] w1 fun e w' => e = .returned (.int .i64 0) ∧ Mine w w' g d15) ∧
  (∀ w1, Mine w w1 g d15 → Calls Try.prog 10 #[.pointer (some ⟨g, 0, none⟩), .int .i64 12, .int .i64 0, .string ⟨#[]⟩] w1 fun e w' => e = .returned (.int .i64 1) ∧ Mine w w' g d16) ∧
  (∀ w1, Mine w w1 g d16 → Calls Try.prog 10 #[.pointer (some ⟨g, 0, none⟩), .int .i64 0, .int .i64 (-1), .string ⟨#[]⟩] w1 fun e w' => e = .returned (.int .i64 1) ∧ Mine w w' g d17) ∧
  (∀ w1, Mine w w1 g d17 → Calls Try.prog 26 #[.pointer (some ⟨g, 0, none⟩), .int .i64 1, .int .i64 2] w1 fun e w' => e = .returned (.int .i64 1) ∧ Mine w w' g d18) :=
  ⟨sd0, sd1, sd2, sd3, sd4, sd5, sd6, sd7, sd8, sd9, sd10, sd11, sd12, sd13, sd14, sd15, sd16, sd17, sd18, strU, rfl, rfl,
    fun _ h => (mine_write h 1 (0) (by decide) (by decide) ⟨#[104, 101, 108, 108, 111]⟩ (by decide) (by decide +kernel)).mono fun _ _ ⟨a, b⟩ => ⟨a.trans (by rw [show _ = _ from sf0]; rfl), b⟩,
    fun _ h => (mine_flush h 1).mono fun _ _ ⟨a, b⟩ => ⟨a.trans (by rw [show _ = _ from sf1]; rfl), b⟩,
    fun _ h => (mine_write h 1 (5) (by decide) (by decide) ⟨#[121]⟩ (by decide) (by decide +kernel)).mono fun _ _ ⟨a, b⟩ => ⟨a.trans (by rw [show _ = _ from sf2]; rfl), b⟩,
    fun _ h => (mine_write h 1 (8) (by decide) (by decide) ⟨#[122]⟩ (by decide) (by decide +kernel)).mono fun _ _ ⟨a, b⟩ => ⟨a.trans (by rw [show _ = _ from sf3]; rfl), b⟩,
    fun _ h => mine_crash_lit h [1] (by decide),
    fun _ h => (mine_read h 1).mono fun _ _ ⟨a, b⟩ => ⟨a.trans (by rw [show _ = _ from sf5]; rfl), b⟩,
    fun _ h => (mine_down h).mono fun _ _ ⟨a, b⟩ => ⟨a.trans (by rw [show _ = _ from sf6]), b⟩,
    fun _ h => mine_start h,
    fun _ h => (mine_read h 1).mono fun _ _ ⟨a, b⟩ => ⟨a.trans (by rw [show _ = _ from sf8]; rfl), b⟩,
    fun _ h => mine_lose h 1 (by decide),
    fun _ h => (mine_flush h 1).mono fun _ _ ⟨a, b⟩ => ⟨a.trans (by rw [show _ = _ from sf10]; rfl), b⟩,
    fun _ h => (mine_write h 2 (0) (by decide) (by decide) ⟨#[120]⟩ (by decide) (by decide +kernel)).mono fun _ _ ⟨a, b⟩ => ⟨a.trans (by rw [show _ = _ from sf11]; rfl), b⟩,
    fun _ h => (mine_turn h 1 2).mono fun _ _ ⟨a, b⟩ => ⟨a.trans (by rw [show _ = _ from sf12]; rfl), b⟩,
    fun _ h => (mine_flush h 2).mono fun _ _ ⟨a, b⟩ => ⟨a.trans (by rw [show _ = _ from sf13]; rfl), b⟩,
    fun _ h => (mine_turn h 1 2).mono fun _ _ ⟨a, b⟩ => ⟨a.trans (by rw [show _ = _ from sf14]; rfl), b⟩,
    fun _ h => (mine_read h 1).mono fun _ _ ⟨a, b⟩ => ⟨a.trans (by rw [show _ = _ from sf15]; rfl), b⟩,
    fun _ h => (mine_write h 3 (62) (by decide) (by decide) ⟨#[97, 98, 99, 100]⟩ (by decide) (by decide +kernel)).mono fun _ _ ⟨a, b⟩ => ⟨a.trans (by rw [show _ = _ from sf16]; rfl), b⟩,
    fun _ h => mine_crash_lit h [0, 1] (by decide),
    fun _ h => mine_start h,
    fun _ h => (mine_read h 3).mono fun _ _ ⟨a, b⟩ => ⟨a.trans (by rw [show _ = _ from sf19]; rfl), b⟩,
    fun _ h => (mine_size h 2).mono fun _ _ ⟨a, b⟩ => ⟨a.trans (by rw [show _ = _ from sf20]; rfl), b⟩,
    fun _ h => (mine_write h 12 (0) (by decide) (by decide) ⟨#[]⟩ (by decide) (by decide +kernel)).mono fun _ _ ⟨a, b⟩ => ⟨a.trans (by rw [show _ = _ from sf21]; rfl), b⟩,
    fun _ h => (mine_write h 0 (-1) (by decide) (by decide) ⟨#[]⟩ (by decide) (by decide +kernel)).mono fun _ _ ⟨a, b⟩ => ⟨a.trans (by rw [show _ = _ from sf22]; rfl), b⟩,
    fun _ h => (mine_cut h 1 2).mono fun _ _ ⟨a, b⟩ => ⟨a.trans (by rw [show _ = _ from sf23]; rfl), b⟩⟩
theorem index_at (s : ByteArray) (k : IntKind) (i : Int) (n : Nat) (hi : i = (n : Int)) (hn : n < s.data.toList.length) (w : World) : (Instr.index 9 (.string s) (.int k i)).run Try.prog w = .ok (.int .u8 ((s.data.toList.getD n 0).toNat : Int)) w := by
  subst hi
  have hz := Lib.size_eq s
  rw [run_index_string _ _ _ _ _ Try.underlying9]
  have hn' : n < s.size := by omega
  simp [hn']
  rfl
theorem idxU (U : ByteArray) (hU : U = strU) (j : Nat) (hj : j < 64) (w : World) : (Instr.index 9 (.string U) (.int .i64 (j : Int))).run Try.prog w = .ok (.int .u8 0) w := by
  subst hU
  have hz : ∀ k : Fin 64, k.val < strU.data.toList.length ∧ (strU.data.toList.getD k.val 0).toNat = 0 := by decide +kernel
  have h := index_at strU .i64 (j : Int) j rfl (hz ⟨j, hj⟩).1 w
  rw [(hz ⟨j, hj⟩).2] at h
  exact h
set_option maxHeartbeats 4000000 in
set_option maxRecDepth 100000 in
theorem small_any (w : World) : Calls Try.prog 4 #[] w fun e w' => e = .returned (.bool true) ∧ Below w.heap.size w w' := by
  have C0 := Lib.hid (mine_new w)
  obtain ⟨d0, d1, d2, d3, d4, d5, d6, d7, d8, d9, d10, d11, d12, d13, d14, d15, d16, d17, d18, U, hd0, hU, s0, s1, s2, s3, s4, s5, s6, s7, s8, s9, s10, s11, s12, s13, s14, s15, s16, s17, s18, s19, s20, s21, s22, s23⟩ := small_steps w w.heap.size
  rw [← hd0] at C0
  have S0 := Lib.hid s0
  have S1 := Lib.hid s1
  have S2 := Lib.hid s2
  have S3 := Lib.hid s3
  have S4 := Lib.hid s4
  have S5 := Lib.hid s5
  have S6 := Lib.hid s6
  have S7 := Lib.hid s7
  have S8 := Lib.hid s8
  have S9 := Lib.hid s9
  have S10 := Lib.hid s10
  have S11 := Lib.hid s11
  have S12 := Lib.hid s12
  have S13 := Lib.hid s13
  have S14 := Lib.hid s14
  have S15 := Lib.hid s15
  have S16 := Lib.hid s16
  have S17 := Lib.hid s17
  have S18 := Lib.hid s18
  have S19 := Lib.hid s19
  have S20 := Lib.hid s20
  have S21 := Lib.hid s21
  have S22 := Lib.hid s22
  have S23 := Lib.hid s23
  clear hd0 s0 s1 s2 s3 s4 s5 s6 s7 s8 s9 s10 s11 s12 s13 s14 s15 s16 s17 s18 s19 s20 s21 s22 s23
  have u1 : U.size = 66 := by rw [hU]; decide +kernel
  have u2 : U.extract 64 66 = ⟨#[99, 100]⟩ := by rw [hU]; decide +kernel
  have u3 : ∀ w', (Instr.index 9 (.string U) (.int .i64 0)).run Try.prog w' = .ok (.int .u8 0) w' := fun w' => idxU U hU 0 (by omega) w'
  have u4 : ∀ w', (Instr.index 9 (.string U) (.int .i64 63)).run Try.prog w' = .ok (.int .u8 0) w' := fun w' => idxU U hU 63 (by omega) w'
  clear hU
  go_enter Try.func4, Try.ntmps4
  go_wp2_with (first | (go_at_call 5; refine C0.out.mono ?_; rintro _ w2 ⟨rfl, hm⟩; have HM := Lib.hid hm; clear hm) | (go_at_call 10; with_reducible refine (S0.out _ HM.out).mono ?_; rintro _ w2 ⟨rfl, hm⟩; have HM := Lib.hid hm; clear hm) | (go_at_call 23; with_reducible refine (S1.out _ HM.out).mono ?_; rintro _ w2 ⟨rfl, hm⟩; have HM := Lib.hid hm; clear hm) | (go_at_call 10; with_reducible refine (S2.out _ HM.out).mono ?_; rintro _ w2 ⟨rfl, hm⟩; have HM := Lib.hid hm; clear hm) | (go_at_call 10; with_reducible refine (S3.out _ HM.out).mono ?_; rintro _ w2 ⟨rfl, hm⟩; have HM := Lib.hid hm; clear hm) | (go_at_call 11; with_reducible refine (S4.out _ HM.out).mono ?_; rintro _ w2 ⟨⟨v2, rfl⟩, hm⟩; have HM := Lib.hid hm; clear hm) | (go_at_call 21; with_reducible refine (S5.out _ HM.out).mono ?_; rintro _ w2 ⟨rfl, hm⟩; have HM := Lib.hid hm; clear hm) | (go_at_call 15; with_reducible refine (S6.out _ HM.out).mono ?_; rintro _ w2 ⟨rfl, rfl⟩) | (go_at_call 19; with_reducible refine (S7.out _ HM.out).mono ?_; rintro _ w2 ⟨⟨v2, rfl⟩, hm⟩; have HM := Lib.hid hm; clear hm) | (go_at_call 21; with_reducible refine (S8.out _ HM.out).mono ?_; rintro _ w2 ⟨rfl, hm⟩; have HM := Lib.hid hm; clear hm) | (go_at_call 24; with_reducible refine (S9.out _ HM.out).mono ?_; rintro _ w2 ⟨⟨v2, rfl⟩, hm⟩; have HM := Lib.hid hm; clear hm) | (go_at_call 23; with_reducible refine (S10.out _ HM.out).mono ?_; rintro _ w2 ⟨rfl, hm⟩; have HM := Lib.hid hm; clear hm) | (go_at_call 10; with_reducible refine (S11.out _ HM.out).mono ?_; rintro _ w2 ⟨rfl, hm⟩; have HM := Lib.hid hm; clear hm) | (go_at_call 25; with_reducible refine (S12.out _ HM.out).mono ?_; rintro _ w2 ⟨rfl, hm⟩; have HM := Lib.hid hm; clear hm) | (go_at_call 23; with_reducible refine (S13.out _ HM.out).mono ?_; rintro _ w2 ⟨rfl, hm⟩; have HM := Lib.hid hm; clear hm) | (go_at_call 25; with_reducible refine (S14.out _ HM.out).mono ?_; rintro _ w2 ⟨rfl, hm⟩; have HM := Lib.hid hm; clear hm) | (go_at_call 21; with_reducible refine (S15.out _ HM.out).mono ?_; rintro _ w2 ⟨rfl, hm⟩; have HM := Lib.hid hm; clear hm) | (go_at_call 10; with_reducible refine (S16.out _ HM.out).mono ?_; rintro _ w2 ⟨rfl, hm⟩; have HM := Lib.hid hm; clear hm) | (go_at_call 11; with_reducible refine (S17.out _ HM.out).mono ?_; rintro _ w2 ⟨⟨v2, rfl⟩, hm⟩; have HM := Lib.hid hm; clear hm) | (go_at_call 19; with_reducible refine (S18.out _ HM.out).mono ?_; rintro _ w2 ⟨⟨v2, rfl⟩, hm⟩; have HM := Lib.hid hm; clear hm) | (go_at_call 21; with_reducible refine (S19.out _ HM.out).mono ?_; rintro _ w2 ⟨rfl, hm⟩; have HM := Lib.hid hm; clear hm) | (go_at_call 17; with_reducible refine (S20.out _ HM.out).mono ?_; rintro _ w2 ⟨rfl, hm⟩; have HM := Lib.hid hm; clear hm) | (go_at_call 10; with_reducible refine (S21.out _ HM.out).mono ?_; rintro _ w2 ⟨rfl, hm⟩; have HM := Lib.hid hm; clear hm) | (go_at_call 10; with_reducible refine (S22.out _ HM.out).mono ?_; rintro _ w2 ⟨rfl, hm⟩; have HM := Lib.hid hm; clear hm) | (go_at_call 26; with_reducible refine (S23.out _ HM.out).mono ?_; rintro _ w2 ⟨rfl, hm⟩; have HM := Lib.hid hm; clear hm))
  go_ret
  exact ⟨rfl, HM.out.below⟩
end Go.Proofs.Ytbelmadbjiiodaa
namespace Go.Proofs.Ytbelmadbjiiodaa
open Go Go.RowKit
namespace Dk
theorem size_ne (s : ByteArray) (h : s.data.toList ≠ []) : s.toList.isEmpty = false := by
  rw [ByteArray.toList_eq]
  cases e : s.data.toList with
  | nil => exact absurd e h
  | cons x l => rfl
end Dk
namespace Dk
theorem nil_of (s : ByteArray) (h : s.data.toList = []) : s = ⟨#[]⟩ := by
  have : s = enc s.data.toList := rfl
  rw [this, h]; rfl
end Dk
theorem calls_to {P : Program} {f : FuncId} {args : Array Value} {w : World} {p q : Ending → World → Prop} (h : Calls P f args w p) (hm : ∀ e w', p e w' → q e w') : Calls P f args w q := h.mono hm
theorem enc_data (s : ByteArray) : enc s.data.toList = s := rfl
end Go.Proofs.Ytbelmadbjiiodaa
