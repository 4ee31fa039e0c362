/-
  DiskLoses: the law returns true, whatever the contents, and the number of flushes that are lost.
-/
import Derived.Test.YtalhilmpjnejbaaKX2
import Derived.Test.YtalhilmpjnejbaaKXr
namespace Go.Proofs.Ytalhilmpjnejbaa
open Go Go.RowKit
namespace Dk
def LD (s : B) (m : Int) : Disk := { add new 0 0 s with lost := m }
theorem LD_write (s : B) (n : Int) (hs : s.length ≤ 50000) : write (lose new n) 0 0 s = (.ok, LD s (max n 0)) :=
  calm_write (d := lose new n) rfl rfl (f := 0) (at_ := 0) (by omega) (by omega) s (fits_of (by omega) (by omega))
theorem LD_flush (s : B) (m : Int) (hm : 0 < m) : flush (LD s m) 0 = (.lost, LD s (m - 1)) := (loses_round s m hm).1
theorem LD_read (s : B) (m : Int) : readE (start (crash (LD s m) [])) 0 = ([], .ok) := by
  unfold readE
  rw [may_file (d := start (crash (LD s m) [])) rfl (by omega) (by omega)]
  show (read (start (crash (LD s m) [])) 0, _) = _
  have hq : (start (crash (LD s m) [])).queue = [] := rfl
  rw [read_quiet hq]
  have : overK 0 [] (add new 0 0 s).queue [] = [] := by cases (add new 0 0 s).queue <;> (unfold overK; rfl)
  show (overK 0 [] (add new 0 0 s).queue [], _) = _
  rw [this]
def LE (s : B) : Disk := { new with last := setLast new.last 0 s, queue := [] }
theorem LD_last (s : B) (hs : s.length ≤ 50000) : flush (LD s 0) 0 = (.ok, LE s) := (wrote calm_new rfl rfl 0 (by omega) rfl s hs).2
theorem LE_read (s : B) : readE (start (crash (LE s) [])) 0 = (s, .ok) := by
  unfold readE
  rw [may_file (d := start (crash (LE s) [])) rfl (by omega) (by omega)]
  show (read (start (crash (LE s) [])) 0, _) = _
  rw [crash_quiet (d := LE s) rfl rfl [] 0]
  rfl
end Dk
set_option maxHeartbeats 1000000 in
set_option maxRecDepth 100000 in
theorem loses_end0 (a : ByteArray) (n : Int) (w : World) (h0 : 50000 < a.size) : Calls Try.prog 7 #[.string a, .int .i64 n] w fun e w' => e = .returned (.bool true) ∧ Below w.heap.size w w' := by
  have C0 := Lib.hid (small_any w)
  have l1 : (50000 : Int) < (a.size : Int) := by omega
  go_enter Try.func7, Try.ntmps7
  go_wp2_with (first | (go_at_call 10; with_reducible refine C0.out.mono ?_; rintro _ w2 ⟨rfl, hb0⟩; have HB0 := Lib.hid hb0; clear hb0) | (go_at_call 11; with_reducible refine (mine_new _).mono ?_; rintro _ w3 ⟨rfl, hm⟩; have HM := Lib.hid hm; clear hm))
  go_ret
  exact ⟨rfl, below_to HB0.out (Nat.le_refl _) HM.out.below⟩
set_option maxHeartbeats 1000000 in
set_option maxRecDepth 100000 in
theorem loses_end1 (a : ByteArray) (n : Int) (w : World) (h0 : a.size ≤ 50000) (h1 : 20 < n) : Calls Try.prog 7 #[.string a, .int .i64 n] w fun e w' => e = .returned (.bool true) ∧ Below w.heap.size w w' := by
  have C0 := Lib.hid (small_any w)
  have l0 : ¬ ((50000 : Int) < (a.size : Int)) := by omega
  have l01 : decide ((50000 : Int) < (a.size : Int)) = false := by simpa using l0
  have l02 : ¬ 50000 < a.size := by omega
  have l03 : decide (50000 < a.size) = false := by simpa using l02
  go_enter Try.func7, Try.ntmps7
  go_wp2_with (first | (go_at_call 10; with_reducible refine C0.out.mono ?_; rintro _ w2 ⟨rfl, hb0⟩; have HB0 := Lib.hid hb0; clear hb0) | (go_at_call 11; with_reducible refine (mine_new _).mono ?_; rintro _ w3 ⟨rfl, hm⟩; have HM := Lib.hid hm; clear hm))
  go_ret
  exact ⟨rfl, below_to HB0.out (Nat.le_refl _) HM.out.below⟩
set_option maxHeartbeats 4000000 in
set_option maxRecDepth 100000 in
theorem loses_main (a : ByteArray) (n : Int) (hn : -9223372036854775808 ≤ n) (w : World) (h0 : a.size ≤ 50000) (h1 : n ≤ 20) : Calls Try.prog 7 #[.string a, .int .i64 n] w fun e w' => e = .returned (.bool true) ∧ Below w.heap.size w w' := by
  have C0 := Lib.hid (small_any w)
  have l0 : ¬ ((50000 : Int) < (a.size : Int)) := by omega
  have l01 : decide ((50000 : Int) < (a.size : Int)) = false := by simpa using l0
  have l02 : ¬ 50000 < a.size := by omega
  have l03 : decide (50000 < a.size) = false := by simpa using l02
  have m1 : ¬ (20 : Int) < n := by omega
  have m2 : decide ((20 : Int) < n) = false := by simpa using m1
  have za := Lib.size_eq a
  obtain ⟨N, hN⟩ : ∃ N, max n 0 = N := ⟨_, rfl⟩
  have S1 := Lib.hid (fun (w0 w1 : World) (g : Nat) (h : Mine w0 w1 g Dk.new) => mine_lose h n (by omega))
  have S2 := Lib.hid (fun (w0 w1 : World) (g : Nat) (h : Mine w0 w1 g (Dk.lose Dk.new n)) => show Calls Try.prog 16 #[.pointer (some ⟨g, 0, none⟩), .int .i64 0, .int .i64 0, .string a] w1 fun e w' => e = .returned (.int .i64 0) ∧ Mine w0 w' g (Dk.LD a.data.toList N) from
    (mine_write h 0 0 (by decide) (by decide) a (by omega) (by show (0 : Nat) + a.size ≤ _; omega)).mono fun _ _ ⟨x, y⟩ => by
      rw [Dk.LD_write a.data.toList n (by omega), hN] at x y
      exact ⟨x, y⟩)
  have HN := Lib.hid hN
  clear hN za
  go_enter Try.func7, Try.ntmps7
  go_wp2_with (first | (go_at_call 10; with_reducible refine C0.out.mono ?_; rintro _ w2 ⟨rfl, hb0⟩; have HB0 := Lib.hid hb0; clear hb0) | (go_at_call 11; with_reducible refine (mine_new _).mono ?_; rintro _ w3 ⟨rfl, hm⟩; have HM := Lib.hid hm; clear hm) | (go_at_call 35; with_reducible refine (S1.out _ _ _ HM.out).mono ?_; rintro _ w4 ⟨⟨v4, rfl⟩, hm⟩; have HM := Lib.hid hm; clear hm) | (go_at_call 16; with_reducible refine (S2.out _ _ _ HM.out).mono ?_; rintro _ w5 ⟨rfl, hm⟩; have HM := Lib.hid hm; clear hm))
  go_loopw [7, 8, 9, 10] (fun i x8 x9 x10 wr => ∃ j : Nat, i = .int .i64 j ∧ (j : Int) ≤ N ∧ Hid (Mine w2 wr w2.heap.size (Dk.LD a.data.toList (N - j)))) (fun i _ _ _ _ => (N - intOf i).toNat)
  case atStart => exact ⟨0, rfl, by have := HN.out; omega, by rw [show N - ((0 : Nat) : Int) = N by omega]; exact HM.out⟩
  case round =>
    obtain ⟨j, rfl, hj, hM⟩ := hrel
    have hNn := HN.out
    by_cases hlt : (j : Int) < n
    · have T1 := Lib.hid (two_copy hM.out)
      have e1 : N - ((j : Nat) : Int) - 1 = N - ((j + 1 : Nat) : Int) := by omega
      have T2 := Lib.hid (fun (w1 : World) (c : Nat) (h : Two w2 w1 w2.heap.size c (Dk.LD a.data.toList (N - j)) (Dk.LD a.data.toList (N - j))) => show Calls Try.prog 32 #[.pointer (some ⟨w2.heap.size, 0, none⟩), .int .i64 0] w1 fun e w' => e = .returned (.int .i64 9) ∧ Two w2 w' c w2.heap.size (Dk.LD a.data.toList (N - j)) (Dk.LD a.data.toList (N - ((j + 1 : Nat) : Int))) from
        (two_flush h 0).mono fun _ _ ⟨x, y⟩ => by
          rw [Dk.LD_flush a.data.toList (N - j) (by omega), e1] at x y
          exact ⟨x, y.swap⟩)
      have T3 := Lib.hid (fun (w1 : World) (c : Nat) (h : Two w2 w1 c w2.heap.size (Dk.LD a.data.toList (N - j)) (Dk.LD a.data.toList (N - ((j + 1 : Nat) : Int)))) => show Calls Try.prog 32 #[.pointer (some ⟨c, 0, none⟩), .int .i64 0] w1 fun e w' => e = .returned (.int .i64 9) ∧ Two w2 w' c w2.heap.size (Dk.LD a.data.toList (N - ((j + 1 : Nat) : Int))) (Dk.LD a.data.toList (N - ((j + 1 : Nat) : Int))) from
        (two_flush h 0).mono fun _ _ ⟨x, y⟩ => by
          rw [Dk.LD_flush a.data.toList (N - j) (by omega), e1] at x y
          exact ⟨x, y⟩)
      obtain ⟨E, hE⟩ : ∃ E, Dk.LD a.data.toList (N - ((j + 1 : Nat) : Int)) = E := ⟨_, rfl⟩
      have hER : Dk.readE (Dk.start (Dk.crash E [])) 0 = ([], .ok) := by rw [← hE]; exact Dk.LD_read _ _
      rw [hE] at T2 T3
      obtain ⟨D0, hD0⟩ : ∃ E, Dk.LD a.data.toList (N - (j : Int)) = E := ⟨_, rfl⟩
      rw [hD0] at T1 T2 T3
      have T4 := Lib.hid (fun (w1 : World) (c : Nat) (h : Two w2 w1 c w2.heap.size (Dk.start (Dk.crash E [])) E) => show Calls Try.prog 27 #[.pointer (some ⟨c, 0, none⟩), .int .i64 0] w1 fun e w' => e = .returned (.tuple #[.string ⟨#[]⟩, .int .i64 0]) ∧ Two w2 w' c w2.heap.size (Dk.start (Dk.crash E [])) E from
        (two_read h 0).mono fun _ _ ⟨x, y⟩ => by
          rw [hER] at x
          exact ⟨x, y⟩)
      have HE := Lib.hid hE
      have hj20 : j < 20 := by omega
      have hwl : wr.heap.size ≠ w2.heap.size := by have := hM.out.at_.lt; omega
      clear hE hD0 hER hNn hM
      go_wp2_with (first | (go_at_call 15; with_reducible refine T1.out.mono ?_; rintro _ w6 ⟨rfl, hm⟩; have HT := Lib.hid hm; clear hm) | (go_at_call 32; with_reducible refine (T2.out _ _ HT.out).mono ?_; rintro _ w7 ⟨rfl, hm⟩; have HT := Lib.hid hm; clear hm) | (go_at_call 32; with_reducible refine (T3.out _ _ HT.out).mono ?_; rintro _ w7 ⟨rfl, hm⟩; have HT := Lib.hid hm; clear hm) | (go_at_call 17; with_reducible refine (two_crash_nil HT.out).mono ?_; rintro _ w7 ⟨⟨v7, rfl⟩, hm⟩; have HT := Lib.hid hm; clear hm) | (go_at_call 25; with_reducible refine (two_start HT.out).mono ?_; rintro _ w7 ⟨⟨v7, rfl⟩, hm⟩; have HT := Lib.hid hm; clear hm) | (go_at_call 27; with_reducible refine (T4.out _ _ HT.out).mono ?_; rintro _ w7 ⟨rfl, hm⟩; have HT := Lib.hid hm; clear hm))
      go_roundw
      case rel => exact ⟨j + 1, by go_num, by have := HN.out; show ((j + 1 : Nat) : Int) ≤ N; omega, by rw [HE.out]; exact HT.out.two⟩
      case measure => have h9 := HN.out; simp [intOf]; omega
    · have e0 : N - (j : Int) = 0 := by omega
      have U1 := Lib.hid (fun (w1 : World) (h : Mine w2 w1 w2.heap.size (Dk.LD a.data.toList (N - j))) => show Calls Try.prog 32 #[.pointer (some ⟨w2.heap.size, 0, none⟩), .int .i64 0] w1 fun e w' => e = .returned (.int .i64 0) ∧ Mine w2 w' w2.heap.size (Dk.LE a.data.toList) from
        (mine_flush h 0).mono fun _ _ ⟨x, y⟩ => by
          rw [e0, Dk.LD_last a.data.toList (by rw [← Lib.size_eq a]; exact h0)] at x y
          exact ⟨x, y⟩)
      have U2 := Lib.hid (fun (w1 : World) (h : Mine w2 w1 w2.heap.size (Dk.start (Dk.crash (Dk.LE a.data.toList) []))) => show Calls Try.prog 27 #[.pointer (some ⟨w2.heap.size, 0, none⟩), .int .i64 0] w1 fun e w' => e = .returned (.tuple #[.string a, .int .i64 0]) ∧ Mine w2 w' w2.heap.size (Dk.start (Dk.crash (Dk.LE a.data.toList) [])) from
        (mine_read h 0).mono fun _ _ ⟨x, y⟩ => by
          rw [Dk.LE_read] at x
          exact ⟨x, y⟩)
      have HM2 := hM
      clear hM hNn e0
      go_wp2_with (first | (go_at_call 32; with_reducible refine (U1.out _ HM2.out).mono ?_; rintro _ w7 ⟨rfl, hm⟩; have HM2 := Lib.hid hm; clear hm) | (go_at_call 17; with_reducible refine (mine_crash_nil HM2.out).mono ?_; rintro _ w7 ⟨⟨v7, rfl⟩, hm⟩; have HM2 := Lib.hid hm; clear hm) | (go_at_call 25; with_reducible refine (mine_start HM2.out).mono ?_; rintro _ w7 ⟨⟨v7, rfl⟩, hm⟩; have HM2 := Lib.hid hm; clear hm) | (go_at_call 27; with_reducible refine (U2.out _ HM2.out).mono ?_; rintro _ w7 ⟨rfl, hm⟩; have HM2 := Lib.hid hm; clear hm))
      go_ret
      exact ⟨rfl, below_to HB0.out (Nat.le_refl _) HM2.out.below⟩
theorem loses_law (a : ByteArray) (n : Int) (h0 : -9223372036854775808 ≤ n) (_h1 : n ≤ 9223372036854775807) (w : World) : Calls Try.prog 7 #[.string a, .int .i64 n] w fun e w' => e = .returned (.bool true) ∧ Below w.heap.size w w' := by
  by_cases la : 50000 < a.size
  · exact loses_end0 a n w la
  · by_cases l1 : 20 < n
    · exact loses_end1 a n w (by omega) l1
    · exact loses_main a n h0 w (by omega) (by omega)
end Go.Proofs.Ytalhilmpjnejbaa
