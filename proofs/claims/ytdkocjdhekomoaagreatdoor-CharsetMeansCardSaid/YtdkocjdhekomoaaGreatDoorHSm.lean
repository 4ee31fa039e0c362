/-
  missivelaw08.small: the documented examples have the documented results.
-/
import Derived.Test.YtdkocjdhekomoaaGreatDoorHEo
namespace Go.Proofs.YtdkocjdhekomoaaGreatDoor
open Go Go.RowKit Go.Shelf
theorem utf8_to {n s : ByteArray} {o : List UInt8} {ok : Bool} (h : Ch.utf8 n.data.toList s.data.toList = (o, ok)) (hn : n.size ≤ 1000000) (hs : s.size ≤ 1000000) (w : World) (hE : EnvH w) :
    Calls Tryz.prog 10 #[.string n, .string s] w fun e w' => e = .returned (.tuple #[.string ⟨o.toArray⟩, .bool ok]) ∧ Below w.heap.size w w' := by
  have := utf8_any n s w hE (by omega) (by omega)
  rwa [h] at this
theorem words_to {s : ByteArray} {o : List UInt8} (h : Ch.words s.data.toList = o) (hs : s.size ≤ 1000000) (w : World) (hE : EnvH w) :
    Calls Tryz.prog 18 #[.string s] w fun e w' => e = .returned (.string ⟨o.toArray⟩) ∧ Below w.heap.size w w' := by
  rw [← h]; exact words_any s hs w hE
theorem repair_to {s : ByteArray} {o : List UInt8} (h : Ch.repair s.data.toList = o) (hs : s.size ≤ 1000000) (w : World) :
    Calls Tryz.prog 16 #[.string s] w fun e w' => e = .returned (.string ⟨o.toArray⟩) ∧ Below w.heap.size w w' := by
  rw [← h]; exact repair_any s w (by omega)
theorem count_to {s : ByteArray} {o : Nat} (h : Ch.count s.data.toList = o) (hs : s.size ≤ 1000000) (w : World) :
    Calls Tryz.prog 14 #[.string s] w fun e w' => e = .returned (.int .i64 o) ∧ Below w.heap.size w w' := by
  rw [← h]; exact count_any s w (by omega)
theorem valid_to {s : ByteArray} {o : Bool} (h : Lib.validD s.data.toList = o) (hs : s.size ≤ 1000000) (w : World) (hE : EnvH w) :
    Calls Tryz.prog 12 #[.string s] w fun e w' => e = .returned (.bool o) ∧ Below w.heap.size w w' := by
  rw [← h]; exact valid_any s w hE (by omega)
theorem encode_to {s : ByteArray} {o : List UInt8} (h : Ch.encode s.data.toList = o) (hs : s.size ≤ 100000) (w : World) (hE : EnvH w) :
    Calls Tryz.prog 20 #[.string s] w fun e w' => e = .returned (.string ⟨o.toArray⟩) ∧ Below w.heap.size w w' := by
  rw [← h]; exact encode_any s hs w hE

set_option maxHeartbeats 4000000 in
set_option maxRecDepth 100000 in
theorem small_any (w : World) (hE : EnvH w) : Calls Tryz.prog 9 #[] w fun e w' => e = .returned (.bool true) ∧ Below w.heap.size w w' := by
  have H1 := Lib.hid (fun w h => utf8_to (n := ⟨#[73, 83, 79, 45, 56, 56, 53, 57, 45, 49]⟩) (s := ⟨#[252]⟩) (o := [195, 188]) (ok := true) (by decide +kernel) (by decide) (by decide) w h)
  have H2 := Lib.hid (fun w h => utf8_to (n := ⟨#[107, 111, 105, 56]⟩) (s := ⟨#[97]⟩) (o := [97]) (ok := false) (by decide +kernel) (by decide) (by decide) w h)
  have H3 := Lib.hid (fun w h => words_to (s := ⟨#[82, 101, 58, 32, 61, 63, 105, 115, 111, 45, 56, 56, 53, 57, 45, 49, 63, 113, 63, 97, 61, 70, 67, 95, 98, 63, 61, 32, 61, 63, 117, 116, 102, 45, 56, 63, 66, 63, 119, 55, 119, 61, 63, 61, 32, 99]⟩) (o := [82, 101, 58, 32, 97, 195, 188, 32, 98, 195, 188, 32, 99]) (by decide +kernel) (by decide) w h)
  have H4 := Lib.hid (fun w h => words_to (s := ⟨#[61, 63, 117, 116, 102, 45, 56, 63, 81, 63, 97, 61, 63, 61]⟩) (o := [61, 63, 117, 116, 102, 45, 56, 63, 81, 63, 97, 61, 63, 61]) (by decide +kernel) (by decide) w h)
  have H5 := Lib.hid (fun w => repair_to (s := ⟨#[97, 255, 195, 188, 195]⟩) (o := [97, 239, 191, 189, 195, 188, 239, 191, 189]) (by decide +kernel) (by decide) w)
  have H6 := Lib.hid (fun w => count_to (s := ⟨#[97, 255, 195, 188, 195]⟩) (o := 4) (by decide +kernel) (by decide) w)
  have H7 := Lib.hid (fun w h => valid_to (s := ⟨#[97, 255, 195, 188, 195]⟩) (o := false) (by decide +kernel) (by decide) w h)
  have H8 := Lib.hid (fun w h => valid_to (s := ⟨#[195, 188]⟩) (o := true) (by decide +kernel) (by decide) w h)
  have H9 := Lib.hid (fun w h => encode_to (s := ⟨#[195, 188]⟩) (o := [61, 63, 117, 116, 102, 45, 56, 63, 66, 63, 119, 55, 119, 61, 63, 61]) (by decide +kernel) (by decide) w h)
  have E0 := Lib.hid hE
  clear hE
  have T0 : Below w.heap.size w w := Below.refl _ _
  go_enter Tryz.func9, Tryz.ntmps9
  go_wp2_with fail
  refine (H1.out _ E0.out).mono ?_
  rintro e w1 ⟨rfl, hB1⟩
  have E1 := Lib.hid (E0.out.new hB1)
  have T1 := T0.trans (hB1.mono T0.size)
  go_wp2_with fail
  refine (H2.out _ E1.out).mono ?_
  rintro e w2 ⟨rfl, hB2⟩
  have E2 := Lib.hid (E1.out.new hB2)
  have T2 := T1.trans (hB2.mono T1.size)
  go_wp2_with fail
  refine (H3.out _ E2.out).mono ?_
  rintro e w3 ⟨rfl, hB3⟩
  have E3 := Lib.hid (E2.out.new hB3)
  have T3 := T2.trans (hB3.mono T2.size)
  go_wp2_with fail
  refine (H4.out _ E3.out).mono ?_
  rintro e w4 ⟨rfl, hB4⟩
  have E4 := Lib.hid (E3.out.new hB4)
  have T4 := T3.trans (hB4.mono T3.size)
  go_wp2_with fail
  refine (H5.out _).mono ?_
  rintro e w5 ⟨rfl, hB5⟩
  have E5 := Lib.hid (E4.out.new hB5)
  have T5 := T4.trans (hB5.mono T4.size)
  go_wp2_with fail
  refine (H6.out _).mono ?_
  rintro e w6 ⟨rfl, hB6⟩
  have E6 := Lib.hid (E5.out.new hB6)
  have T6 := T5.trans (hB6.mono T5.size)
  go_wp2_with fail
  refine (H7.out _ E6.out).mono ?_
  rintro e w7 ⟨rfl, hB7⟩
  have E7 := Lib.hid (E6.out.new hB7)
  have T7 := T6.trans (hB7.mono T6.size)
  go_wp2_with fail
  refine (H8.out _ E7.out).mono ?_
  rintro e w8 ⟨rfl, hB8⟩
  have E8 := Lib.hid (E7.out.new hB8)
  have T8 := T7.trans (hB8.mono T7.size)
  go_wp2_with fail
  refine (H9.out _ E8.out).mono ?_
  rintro e w9 ⟨rfl, hB9⟩
  have E9 := Lib.hid (E8.out.new hB9)
  have T9 := T8.trans (hB9.mono T8.size)
  go_wp2
  go_ret
  exact ⟨rfl, T9⟩
end Go.Proofs.YtdkocjdhekomoaaGreatDoor
