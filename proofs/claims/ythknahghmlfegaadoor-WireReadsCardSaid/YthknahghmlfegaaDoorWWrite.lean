/-
  Writing numbers and strings.
-/
import Derived.Test.YthknahghmlfegaaDoorWInt
namespace Go.Proofs.YthknahghmlfegaaDoor
open Go Go.RowKit Go.Shelf

set_option maxHeartbeats 1000000 in
set_option maxRecDepth 100000 in
theorem wint_any (n : Int) (hn : Wr.i64 n) (W : World) (hE : Env W) :
    Calls Tryd.prog 13 #[.int .i64 n] W fun x w' => x = .returned (.string ⟨(Wr.encInt n).toArray⟩) ∧ Below W.heap.size W w' := by
  have HI := Lib.hid (itoa_calls n hn W hE)
  have hl := Wr.itoa_len hn
  obtain ⟨D, hD⟩ : ∃ D : ByteArray, (⟨(Lib.itoa n).toArray⟩ : ByteArray) = D := ⟨_, rfl⟩
  have hDl : D.data.toList = Lib.itoa n := by rw [← hD]
  rw [hD] at HI
  rw [← hDl, ← Lib.size_eq] at hl
  have HD := Lib.hid hDl
  clear hE hn hD hDl
  go_enter Tryd.func13, Tryd.ntmps13
  go_wp2_with fail
  refine HI.out.mono ?_
  rintro x w1 ⟨rfl, hB⟩
  go_wp2
  go_ret
  exact ⟨ret_str (by unfold Wr.encInt; rw [← HD.out]; apply ByteArray.ext; apply Array.ext'; simp), hB⟩

set_option maxHeartbeats 1000000 in
set_option maxRecDepth 100000 in
theorem wnum_any (n : Int) (hn : Wr.i64 n) (W : World) (hE : Env W) :
    Calls Tryd.prog 11 #[.int .i64 n] W fun x w' => x = .returned (.string ⟨(Wr.encNum n).toArray⟩) ∧ Below W.heap.size W w' := by
  have HI := Lib.hid (wint_any n hn W hE)
  clear hE hn
  by_cases h0 : n < 0
  · have e : Wr.encNum n = [] := by unfold Wr.encNum; rw [if_pos h0]
    rw [e]
    clear e HI
    go_enter Tryd.func11, Tryd.ntmps11
    go_wp2
    go_ret
    exact ⟨rfl, Below.refl _ _⟩
  · have e : Wr.encNum n = Wr.encInt n := by unfold Wr.encNum; rw [if_neg h0]
    rw [e]
    clear e
    go_enter Tryd.func11, Tryd.ntmps11
    go_wp2_with fail
    refine HI.out.mono ?_
    rintro x w1 ⟨rfl, hB⟩
    go_wp2
    go_ret
    exact ⟨rfl, hB⟩

set_option maxHeartbeats 1000000 in
set_option maxRecDepth 100000 in
theorem wtext_any (s : ByteArray) (hs : s.size ≤ 100000000) (W : World) (hE : Env W) :
    Calls Tryd.prog 15 #[.string s] W fun x w' => x = .returned (.string ⟨(Wr.encText s.data.toList).toArray⟩) ∧ Below W.heap.size W w' := by
  have hsz := Lib.size_eq s
  have HI := Lib.hid (itoa_calls (s.size : Int) (Wr.i64_nat (by omega)) W hE)
  have HZ := Lib.hid hsz
  have hl := Wr.itoa_len (Wr.i64_nat (show s.size ≤ 9223372036854775807 by omega))
  obtain ⟨D, hD⟩ : ∃ D : ByteArray, (⟨(Lib.itoa (s.size : Int)).toArray⟩ : ByteArray) = D := ⟨_, rfl⟩
  have hDl : D.data.toList = Lib.itoa (s.size : Int) := by rw [← hD]
  rw [hD] at HI
  rw [← hDl, ← Lib.size_eq] at hl
  have HD := Lib.hid hDl
  clear hE hsz hD hDl
  go_enter Tryd.func15, Tryd.ntmps15
  go_wp2_with fail
  refine HI.out.mono ?_
  rintro x w1 ⟨rfl, hB⟩
  go_wp2
  go_ret
  exact ⟨ret_str (by unfold Wr.encText; rw [← HZ.out, ← HD.out]; apply ByteArray.ext; apply Array.ext'; simp), hB⟩
end Go.Proofs.YthknahghmlfegaaDoor
