/-
  missivelaw07.small: the documented examples have the documented results.
-/
import Derived.Test.YtehnjoggilomfaaDoorCB64
import Derived.Test.YtehnjoggilomfaaDoorCDec
namespace Go.Proofs.YtehnjoggilomfaaDoor
open Go Go.RowKit Go.Shelf
theorem unbase64_to {s : ByteArray} {o : List UInt8} {ok : Bool} (h : Cd.unbase64 s.data.toList = (o, ok)) (hs : s.size ≤ 1000000) (w : World) (hm : MaxAt w) :
    Calls Tryd.prog 9 #[.string s] w fun e w' => e = .returned (.tuple #[.string ⟨o.toArray⟩, .bool ok]) ∧ Below w.heap.size w w' := by
  have := unbase64_any s w hs hm
  rwa [h] at this
theorem unquoted_to {s : ByteArray} {o : List UInt8} {ok : Bool} (h : Cd.unquoted s.data.toList = (o, ok)) (hs : s.size ≤ 1000000) (w : World) :
    Calls Tryd.prog 11 #[.string s] w fun e w' => e = .returned (.tuple #[.string ⟨o.toArray⟩, .bool ok]) ∧ Below w.heap.size w w' := by
  have := unquoted_any s w (by omega)
  rwa [h] at this
theorem unpercent_to {s : ByteArray} {o : List UInt8} {ok : Bool} (h : Cd.unpercent s.data.toList = (o, ok)) (hs : s.size ≤ 1000000) (w : World) :
    Calls Tryd.prog 13 #[.string s] w fun e w' => e = .returned (.tuple #[.string ⟨o.toArray⟩, .bool ok]) ∧ Below w.heap.size w w' := by
  have := unpercent_any s w (by omega)
  rwa [h] at this
theorem base64_to {s : ByteArray} {o : List UInt8} (h : Cd.base64 s.data.toList = o) (hs : s.size ≤ 1000000) (w : World) :
    Calls Tryd.prog 10 #[.string s] w fun e w' => e = .returned (.string ⟨o.toArray⟩) ∧ Below w.heap.size w w' := by
  rw [← h]; exact base64_any s w hs
theorem quoted_to {s : ByteArray} {o : List UInt8} (h : Cd.quoted s.data.toList = o) (hs : s.size ≤ 1000000) (w : World) :
    Calls Tryd.prog 12 #[.string s] w fun e w' => e = .returned (.string ⟨o.toArray⟩) ∧ Below w.heap.size w w' := by
  rw [← h]; exact quoted_any s w (by omega)
theorem percent_to {s : ByteArray} {o : List UInt8} (h : Cd.percent s.data.toList = o) (hs : s.size ≤ 1000000) (w : World) :
    Calls Tryd.prog 14 #[.string s] w fun e w' => e = .returned (.string ⟨o.toArray⟩) ∧ Below w.heap.size w w' := by
  rw [← h]; exact percent_any s w (by omega)

set_option maxHeartbeats 2000000 in
set_option maxRecDepth 100000 in
theorem small_any (w : World) (hm : MaxAt w) : Calls Tryd.prog 8 #[] w fun e w' => e = .returned (.bool true) ∧ Below w.heap.size w w' := by
  have H1 := Lib.hid (fun w h => unbase64_to (s := ⟨#[84, 87, 70, 117, 32, 67, 103]⟩) (o := [77, 97, 110, 10]) (ok := false) (by decide +kernel) (by decide) w h)
  have H2 := Lib.hid (fun w h => unbase64_to (s := ⟨#[84, 87, 70, 117, 33]⟩) (o := [77, 97, 110]) (ok := false) (by decide +kernel) (by decide) w h)
  have H3 := Lib.hid (fun w => unquoted_to (s := ⟨#[97, 61, 10, 98, 61, 52, 122, 32]⟩) (o := [97, 98, 61, 52, 122]) (ok := false) (by decide +kernel) (by decide) w)
  have H4 := Lib.hid (fun w => unpercent_to (s := ⟨#[97, 43, 98, 37, 50, 70, 99, 37]⟩) (o := [97, 32, 98, 47, 99, 37]) (ok := false) (by decide +kernel) (by decide) w)
  have H5 := Lib.hid (fun w h => unbase64_to (s := ⟨#[84, 87, 70, 117, 67, 103, 61, 61, 10]⟩) (o := [77, 97, 110, 10]) (ok := true) (by decide +kernel) (by decide) w h)
  have H6 := Lib.hid (fun w => base64_to (s := ⟨#[77, 97, 110, 10]⟩) (o := [84, 87, 70, 117, 67, 103, 61, 61, 10]) (by decide +kernel) (by decide) w)
  have H7 := Lib.hid (fun w => quoted_to (s := ⟨#[97, 61, 195, 169, 32, 10]⟩) (o := [97, 61, 51, 68, 61, 67, 51, 61, 65, 57, 61, 50, 48, 10]) (by decide +kernel) (by decide) w)
  have hp := hm.pos
  go_enter Tryd.func8, Tryd.ntmps8
  go_wp2_with fail
  refine (H1.out _ hm).mono ?_
  rintro e w1 ⟨rfl, hB1⟩
  have hm1 := hm.below hB1 hp
  go_wp2_with fail
  refine (H2.out _ hm1).mono ?_
  rintro e w2 ⟨rfl, hB2⟩
  have hm2 := hm1.below (hB2.mono hB1.size) hp
  go_wp2_with fail
  refine (H3.out _).mono ?_
  rintro e w3 ⟨rfl, hB3⟩
  have hs2 := Nat.le_trans hB1.size hB2.size
  have hm3 := hm2.below (hB3.mono hs2) hp
  have hs3 := Nat.le_trans hs2 hB3.size
  go_wp2_with fail
  refine (H4.out _).mono ?_
  rintro e w4 ⟨rfl, hB4⟩
  have hm4 := hm3.below (hB4.mono hs3) hp
  have hs4 := Nat.le_trans hs3 hB4.size
  go_wp2_with fail
  refine (H5.out _ hm4).mono ?_
  rintro e w5 ⟨rfl, hB5⟩
  have hs5 := Nat.le_trans hs4 hB5.size
  go_wp2_with fail
  refine (H6.out _).mono ?_
  rintro e w6 ⟨rfl, hB6⟩
  have hs6 := Nat.le_trans hs5 hB6.size
  go_wp2_with fail
  refine (H7.out _).mono ?_
  rintro e w7 ⟨rfl, hB7⟩
  have hB := (((((hB1.trans (hB2.mono hB1.size)).trans (hB3.mono hs2)).trans (hB4.mono hs3)).trans (hB5.mono hs4)).trans (hB6.mono hs5)).trans (hB7.mono hs6)
  go_wp2
  go_ret
  exact ⟨rfl, hB⟩
end Go.Proofs.YtehnjoggilomfaaDoor
