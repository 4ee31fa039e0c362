/-
  small: the examples.
  Results of the digits, by name.
  DigestKeys's law.
-/
import Derived.Test.YteiabaddmclmlaaDoorDMac
import Derived.Test.YteiabaddmclmlaaDoorDCrcW
import Derived.Test.YteiabaddmclmlaaDoorDUnb32
import Derived.Maps.AppendAt
namespace Go.Proofs.YteiabaddmclmlaaDoor
open Go Go.RowKit Go.Shelf
set_option maxRecDepth 100000 in
theorem sm_sum1 (w : World) (hE : Env w) : Calls Tryd.prog 15 #[.string ⟨#[97, 98, 99]⟩] w fun e w' => e = .returned (.string ⟨#[186, 120, 22, 191, 143, 1, 207, 234, 65, 65, 64, 222, 93, 174, 34, 35, 176, 3, 97, 163, 150, 23, 122, 156, 180, 16, 255, 97, 242, 0, 21, 173]⟩) ∧ Below w.heap.size w w' := by
  have h : Dg.sha [97, 98, 99] = [186, 120, 22, 191, 143, 1, 207, 234, 65, 65, 64, 222, 93, 174, 34, 35, 176, 3, 97, 163, 150, 23, 122, 156, 180, 16, 255, 97, 242, 0, 21, 173] := by decide +kernel
  refine (sum_any ⟨#[97, 98, 99]⟩ (by decide) w hE).mono ?_
  rintro e w' ⟨rfl, hb⟩
  refine ⟨?_, hb⟩
  show Ending.returned (Value.string ⟨(Dg.sha [97, 98, 99]).toArray⟩) = _
  rw [h]
set_option maxRecDepth 100000 in
theorem sm_sum2 (w : World) (hE : Env w) : Calls Tryd.prog 15 #[.string ⟨#[]⟩] w fun e w' => e = .returned (.string ⟨#[227, 176, 196, 66, 152, 252, 28, 20, 154, 251, 244, 200, 153, 111, 185, 36, 39, 174, 65, 228, 100, 155, 147, 76, 164, 149, 153, 27, 120, 82, 184, 85]⟩) ∧ Below w.heap.size w w' := by
  have h : Dg.sha [] = [227, 176, 196, 66, 152, 252, 28, 20, 154, 251, 244, 200, 153, 111, 185, 36, 39, 174, 65, 228, 100, 155, 147, 76, 164, 149, 153, 27, 120, 82, 184, 85] := by decide +kernel
  refine (sum_any ⟨#[]⟩ (by decide) w hE).mono ?_
  rintro e w' ⟨rfl, hb⟩
  refine ⟨?_, hb⟩
  show Ending.returned (Value.string ⟨(Dg.sha []).toArray⟩) = _
  rw [h]
set_option maxRecDepth 100000 in
theorem sm_mac (w : World) (hE : Env w) : Calls Tryd.prog 25 #[.string ⟨#[107, 101, 121]⟩, .string ⟨#[84, 104, 101, 32, 113, 117, 105, 99, 107, 32, 98, 114, 111, 119, 110, 32, 102, 111, 120, 32, 106, 117, 109, 112, 115, 32, 111, 118, 101, 114, 32, 116, 104, 101, 32, 108, 97, 122, 121, 32, 100, 111, 103]⟩] w fun e w' => e = .returned (.string ⟨#[247, 188, 131, 244, 48, 83, 132, 36, 177, 50, 152, 230, 170, 111, 177, 67, 239, 77, 89, 161, 73, 70, 23, 89, 151, 71, 157, 188, 45, 26, 60, 216]⟩) ∧ Below w.heap.size w w' := by
  have h : Dg.mac [107, 101, 121] [84, 104, 101, 32, 113, 117, 105, 99, 107, 32, 98, 114, 111, 119, 110, 32, 102, 111, 120, 32, 106, 117, 109, 112, 115, 32, 111, 118, 101, 114, 32, 116, 104, 101, 32, 108, 97, 122, 121, 32, 100, 111, 103] = [247, 188, 131, 244, 48, 83, 132, 36, 177, 50, 152, 230, 170, 111, 177, 67, 239, 77, 89, 161, 73, 70, 23, 89, 151, 71, 157, 188, 45, 26, 60, 216] := by decide +kernel
  refine (mac_any ⟨#[107, 101, 121]⟩ ⟨#[84, 104, 101, 32, 113, 117, 105, 99, 107, 32, 98, 114, 111, 119, 110, 32, 102, 111, 120, 32, 106, 117, 109, 112, 115, 32, 111, 118, 101, 114, 32, 116, 104, 101, 32, 108, 97, 122, 121, 32, 100, 111, 103]⟩ (by decide) (by decide) w hE).mono ?_
  rintro e w' ⟨rfl, hb⟩
  refine ⟨?_, hb⟩
  show Ending.returned (Value.string ⟨(Dg.mac [107, 101, 121] [84, 104, 101, 32, 113, 117, 105, 99, 107, 32, 98, 114, 111, 119, 110, 32, 102, 111, 120, 32, 106, 117, 109, 112, 115, 32, 111, 118, 101, 114, 32, 116, 104, 101, 32, 108, 97, 122, 121, 32, 100, 111, 103]).toArray⟩) = _
  rw [h]
set_option maxRecDepth 100000 in
theorem sm_hex1 (w : World) : Calls Tryd.prog 21 #[.string ⟨#[186, 120, 22, 191, 143, 1, 207, 234, 65, 65, 64, 222, 93, 174, 34, 35, 176, 3, 97, 163, 150, 23, 122, 156, 180, 16, 255, 97, 242, 0, 21, 173]⟩] w fun e w' => e = .returned (.string ⟨#[98, 97, 55, 56, 49, 54, 98, 102, 56, 102, 48, 49, 99, 102, 101, 97, 52, 49, 52, 49, 52, 48, 100, 101, 53, 100, 97, 101, 50, 50, 50, 51, 98, 48, 48, 51, 54, 49, 97, 51, 57, 54, 49, 55, 55, 97, 57, 99, 98, 52, 49, 48, 102, 102, 54, 49, 102, 50, 48, 48, 49, 53, 97, 100]⟩) ∧ Below w.heap.size w w' := by
  have h : Dg.hex [186, 120, 22, 191, 143, 1, 207, 234, 65, 65, 64, 222, 93, 174, 34, 35, 176, 3, 97, 163, 150, 23, 122, 156, 180, 16, 255, 97, 242, 0, 21, 173] = [98, 97, 55, 56, 49, 54, 98, 102, 56, 102, 48, 49, 99, 102, 101, 97, 52, 49, 52, 49, 52, 48, 100, 101, 53, 100, 97, 101, 50, 50, 50, 51, 98, 48, 48, 51, 54, 49, 97, 51, 57, 54, 49, 55, 55, 97, 57, 99, 98, 52, 49, 48, 102, 102, 54, 49, 102, 50, 48, 48, 49, 53, 97, 100] := by decide +kernel
  refine (hex_any ⟨#[186, 120, 22, 191, 143, 1, 207, 234, 65, 65, 64, 222, 93, 174, 34, 35, 176, 3, 97, 163, 150, 23, 122, 156, 180, 16, 255, 97, 242, 0, 21, 173]⟩ (by decide) w).mono ?_
  rintro e w' ⟨rfl, hb⟩
  refine ⟨?_, hb⟩
  show Ending.returned (Value.string ⟨(Dg.hex [186, 120, 22, 191, 143, 1, 207, 234, 65, 65, 64, 222, 93, 174, 34, 35, 176, 3, 97, 163, 150, 23, 122, 156, 180, 16, 255, 97, 242, 0, 21, 173]).toArray⟩) = _
  rw [h]
set_option maxRecDepth 100000 in
theorem sm_hex2 (w : World) : Calls Tryd.prog 21 #[.string ⟨#[227, 176, 196, 66, 152, 252, 28, 20, 154, 251, 244, 200, 153, 111, 185, 36, 39, 174, 65, 228, 100, 155, 147, 76, 164, 149, 153, 27, 120, 82, 184, 85]⟩] w fun e w' => e = .returned (.string ⟨#[101, 51, 98, 48, 99, 52, 52, 50, 57, 56, 102, 99, 49, 99, 49, 52, 57, 97, 102, 98, 102, 52, 99, 56, 57, 57, 54, 102, 98, 57, 50, 52, 50, 55, 97, 101, 52, 49, 101, 52, 54, 52, 57, 98, 57, 51, 52, 99, 97, 52, 57, 53, 57, 57, 49, 98, 55, 56, 53, 50, 98, 56, 53, 53]⟩) ∧ Below w.heap.size w w' := by
  have h : Dg.hex [227, 176, 196, 66, 152, 252, 28, 20, 154, 251, 244, 200, 153, 111, 185, 36, 39, 174, 65, 228, 100, 155, 147, 76, 164, 149, 153, 27, 120, 82, 184, 85] = [101, 51, 98, 48, 99, 52, 52, 50, 57, 56, 102, 99, 49, 99, 49, 52, 57, 97, 102, 98, 102, 52, 99, 56, 57, 57, 54, 102, 98, 57, 50, 52, 50, 55, 97, 101, 52, 49, 101, 52, 54, 52, 57, 98, 57, 51, 52, 99, 97, 52, 57, 53, 57, 57, 49, 98, 55, 56, 53, 50, 98, 56, 53, 53] := by decide +kernel
  refine (hex_any ⟨#[227, 176, 196, 66, 152, 252, 28, 20, 154, 251, 244, 200, 153, 111, 185, 36, 39, 174, 65, 228, 100, 155, 147, 76, 164, 149, 153, 27, 120, 82, 184, 85]⟩ (by decide) w).mono ?_
  rintro e w' ⟨rfl, hb⟩
  refine ⟨?_, hb⟩
  show Ending.returned (Value.string ⟨(Dg.hex [227, 176, 196, 66, 152, 252, 28, 20, 154, 251, 244, 200, 153, 111, 185, 36, 39, 174, 65, 228, 100, 155, 147, 76, 164, 149, 153, 27, 120, 82, 184, 85]).toArray⟩) = _
  rw [h]
set_option maxRecDepth 100000 in
theorem sm_hex3 (w : World) : Calls Tryd.prog 21 #[.string ⟨#[247, 188, 131, 244, 48, 83, 132, 36, 177, 50, 152, 230, 170, 111, 177, 67, 239, 77, 89, 161, 73, 70, 23, 89, 151, 71, 157, 188, 45, 26, 60, 216]⟩] w fun e w' => e = .returned (.string ⟨#[102, 55, 98, 99, 56, 51, 102, 52, 51, 48, 53, 51, 56, 52, 50, 52, 98, 49, 51, 50, 57, 56, 101, 54, 97, 97, 54, 102, 98, 49, 52, 51, 101, 102, 52, 100, 53, 57, 97, 49, 52, 57, 52, 54, 49, 55, 53, 57, 57, 55, 52, 55, 57, 100, 98, 99, 50, 100, 49, 97, 51, 99, 100, 56]⟩) ∧ Below w.heap.size w w' := by
  have h : Dg.hex [247, 188, 131, 244, 48, 83, 132, 36, 177, 50, 152, 230, 170, 111, 177, 67, 239, 77, 89, 161, 73, 70, 23, 89, 151, 71, 157, 188, 45, 26, 60, 216] = [102, 55, 98, 99, 56, 51, 102, 52, 51, 48, 53, 51, 56, 52, 50, 52, 98, 49, 51, 50, 57, 56, 101, 54, 97, 97, 54, 102, 98, 49, 52, 51, 101, 102, 52, 100, 53, 57, 97, 49, 52, 57, 52, 54, 49, 55, 53, 57, 57, 55, 52, 55, 57, 100, 98, 99, 50, 100, 49, 97, 51, 99, 100, 56] := by decide +kernel
  refine (hex_any ⟨#[247, 188, 131, 244, 48, 83, 132, 36, 177, 50, 152, 230, 170, 111, 177, 67, 239, 77, 89, 161, 73, 70, 23, 89, 151, 71, 157, 188, 45, 26, 60, 216]⟩ (by decide) w).mono ?_
  rintro e w' ⟨rfl, hb⟩
  refine ⟨?_, hb⟩
  show Ending.returned (Value.string ⟨(Dg.hex [247, 188, 131, 244, 48, 83, 132, 36, 177, 50, 152, 230, 170, 111, 177, 67, 239, 77, 89, 161, 73, 70, 23, 89, 151, 71, 157, 188, 45, 26, 60, 216]).toArray⟩) = _
  rw [h]
set_option maxRecDepth 100000 in
theorem sm_b32 (w : World) : Calls Tryd.prog 23 #[.string ⟨#[102, 111, 111, 98, 97, 114]⟩] w fun e w' => e = .returned (.string ⟨#[109, 122, 120, 119, 54, 121, 116, 98, 111, 105]⟩) ∧ Below w.heap.size w w' := by
  have h : Dg.b32 [102, 111, 111, 98, 97, 114] = [109, 122, 120, 119, 54, 121, 116, 98, 111, 105] := by decide +kernel
  refine (b32_any ⟨#[102, 111, 111, 98, 97, 114]⟩ (by decide) w).mono ?_
  rintro e w' ⟨rfl, hb⟩
  refine ⟨?_, hb⟩
  show Ending.returned (Value.string ⟨(Dg.b32 [102, 111, 111, 98, 97, 114]).toArray⟩) = _
  rw [h]
set_option maxRecDepth 100000 in
theorem sm_un1 (w : World) : Calls Tryd.prog 11 #[.string ⟨#[48, 65]⟩] w fun e w' => e = .returned (.tuple #[.string ⟨#[]⟩, .bool false]) ∧ Below w.heap.size w w' := by
  have h : Dg.unhex [48, 65] = none := by decide +kernel
  refine (unhex_any ⟨#[48, 65]⟩ (by decide) w).mono ?_
  rintro e w' ⟨rfl, hb⟩
  refine ⟨?_, hb⟩
  show Ending.returned (Value.tuple #[.string ⟨((Dg.unhex [48, 65]).getD []).toArray⟩, .bool (Dg.unhex [48, 65]).isSome]) = _
  rw [h]
  rfl
set_option maxRecDepth 100000 in
theorem sm_un2 (w : World) : Calls Tryd.prog 11 #[.string ⟨#[48, 97]⟩] w fun e w' => e = .returned (.tuple #[.string ⟨#[10]⟩, .bool true]) ∧ Below w.heap.size w w' := by
  have h : Dg.unhex [48, 97] = some [10] := by decide +kernel
  refine (unhex_any ⟨#[48, 97]⟩ (by decide) w).mono ?_
  rintro e w' ⟨rfl, hb⟩
  refine ⟨?_, hb⟩
  show Ending.returned (Value.tuple #[.string ⟨((Dg.unhex [48, 97]).getD []).toArray⟩, .bool (Dg.unhex [48, 97]).isSome]) = _
  rw [h]
  rfl
set_option maxRecDepth 100000 in
theorem sm_un3 (w : World) : Calls Tryd.prog 13 #[.string ⟨#[109, 122]⟩] w fun e w' => e = .returned (.tuple #[.string ⟨#[]⟩, .bool false]) ∧ Below w.heap.size w w' := by
  have h : Dg.unb32 [109, 122] = none := by decide +kernel
  refine (unb32_any ⟨#[109, 122]⟩ (by decide) w).mono ?_
  rintro e w' ⟨rfl, hb⟩
  refine ⟨?_, hb⟩
  show Ending.returned (Value.tuple #[.string ⟨((Dg.unb32 [109, 122]).getD []).toArray⟩, .bool (Dg.unb32 [109, 122]).isSome]) = _
  rw [h]
  rfl
set_option maxRecDepth 100000 in
theorem sm_crc1 (w : World) (hE : EnvC w) : Calls Tryd.prog 19 #[.string ⟨#[49, 50, 51, 52, 53, 54, 55, 56, 57]⟩] w fun e w' => e = .returned (.int .i64 3421780262) ∧ w = w' := by
  have h : Dg.crc [49, 50, 51, 52, 53, 54, 55, 56, 57] = 3421780262#32 := by decide +kernel
  refine (crc_any ⟨#[49, 50, 51, 52, 53, 54, 55, 56, 57]⟩ (by decide) w hE).mono ?_
  rintro e w' ⟨rfl, hb⟩
  refine ⟨?_, hb⟩
  show Ending.returned (Value.int .i64 ((Dg.crc [49, 50, 51, 52, 53, 54, 55, 56, 57]).toNat : Int)) = _
  rw [h]
  rfl
set_option maxRecDepth 100000 in
theorem sm_crc2 (w : World) (hE : EnvC w) : Calls Tryd.prog 19 #[.string ⟨#[]⟩] w fun e w' => e = .returned (.int .i64 0) ∧ w = w' := by
  have h : Dg.crc [] = 0#32 := by decide +kernel
  refine (crc_any ⟨#[]⟩ (by decide) w hE).mono ?_
  rintro e w' ⟨rfl, hb⟩
  refine ⟨?_, hb⟩
  show Ending.returned (Value.int .i64 ((Dg.crc []).toNat : Int)) = _
  rw [h]
  rfl
set_option maxHeartbeats 4000000 in
set_option maxRecDepth 100000 in
theorem small_any (w : World) (hE : EnvC w) : Calls Tryd.prog 10 #[] w fun e w' => e = .returned (.bool true) ∧ Below w.heap.size w w' := by
  have HE := Lib.hid hE
  clear hE
  have B0 : Hid (Below w.heap.size w w) := Below.refl _ _
  go_enter Tryd.func10, Tryd.ntmps10
  go_wp2_with fail
  refine (sm_un1 w).mono ?_
  rintro e w1 ⟨rfl, h1⟩
  have B1 := Lib.hid (B0.out.trans (h1.mono B0.out.size))
  clear h1
  go_wp2_with fail
  refine (sm_un2 w1).mono ?_
  rintro e w2 ⟨rfl, h2⟩
  have B2 := Lib.hid (B1.out.trans (h2.mono B1.out.size))
  clear h2
  go_wp2_with fail
  refine (sm_un3 w2).mono ?_
  rintro e w3 ⟨rfl, h3⟩
  have B3 := Lib.hid (B2.out.trans (h3.mono B2.out.size))
  clear h3
  go_wp2_with fail
  refine (sm_sum1 w3 (HE.out.new B3.out).e).mono ?_
  rintro e w4 ⟨rfl, h4⟩
  have B4 := Lib.hid (B3.out.trans (h4.mono B3.out.size))
  clear h4
  go_wp2_with fail
  refine (sm_hex1 w4).mono ?_
  rintro e w5 ⟨rfl, h5⟩
  have B5 := Lib.hid (B4.out.trans (h5.mono B4.out.size))
  clear h5
  go_wp2_with fail
  refine (sm_sum2 w5 (HE.out.new B5.out).e).mono ?_
  rintro e w6 ⟨rfl, h6⟩
  have B6 := Lib.hid (B5.out.trans (h6.mono B5.out.size))
  clear h6
  go_wp2_with fail
  refine (sm_hex2 w6).mono ?_
  rintro e w7 ⟨rfl, h7⟩
  have B7 := Lib.hid (B6.out.trans (h7.mono B6.out.size))
  clear h7
  go_wp2_with fail
  refine (sm_crc1 w7 (HE.out.new B7.out)).mono ?_
  rintro e w8 ⟨rfl, rfl⟩
  go_wp2_with fail
  refine (sm_mac w7 (HE.out.new B7.out).e).mono ?_
  rintro e w9 ⟨rfl, h9⟩
  have B9 := Lib.hid (B7.out.trans (h9.mono B7.out.size))
  clear h9
  go_wp2_with fail
  refine (sm_hex3 w9).mono ?_
  rintro e w10 ⟨rfl, h10⟩
  have B10 := Lib.hid (B9.out.trans (h10.mono B9.out.size))
  clear h10
  go_wp2_with fail
  refine (sm_crc2 w10 (HE.out.new B10.out)).mono ?_
  rintro e w11 ⟨rfl, rfl⟩
  go_wp2_with fail
  refine (sm_b32 w10).mono ?_
  rintro e w12 ⟨rfl, h12⟩
  have B12 := Lib.hid (B10.out.trans (h12.mono B10.out.size))
  clear h12
  go_wp2
  go_ret
  exact ⟨rfl, B12.out⟩
end Go.Proofs.YteiabaddmclmlaaDoor
namespace Go.Proofs.YteiabaddmclmlaaDoor
open Go Go.RowKit Go.Shelf
theorem str_back (h : ByteArray) : (⟨h.data.toList.toArray⟩ : ByteArray) = h := by
  apply ByteArray.ext
  simp
theorem hex_to (s : ByteArray) (hs : s.size ≤ 100000000) (X : ByteArray) (hX : Dg.hex s.data.toList = X.data.toList) (w : World) :
    Calls Tryd.prog 21 #[.string s] w fun e w' => e = .returned (.string X) ∧ Below w.heap.size w w' :=
  (hex_any s hs w).mono fun e w' ⟨h1, h2⟩ => ⟨by rw [h1, hX, str_back], h2⟩
theorem b32_to (s : ByteArray) (hs : s.size ≤ 10000000) (X : ByteArray) (hX : Dg.b32 s.data.toList = X.data.toList) (w : World) :
    Calls Tryd.prog 23 #[.string s] w fun e w' => e = .returned (.string X) ∧ Below w.heap.size w w' :=
  (b32_any s hs w).mono fun e w' ⟨h1, h2⟩ => ⟨by rw [h1, hX, str_back], h2⟩
theorem unhex_some (s : ByteArray) (hs : s.size ≤ 100000000) (X : ByteArray) (hX : Dg.unhex s.data.toList = some X.data.toList) (w : World) :
    Calls Tryd.prog 11 #[.string s] w fun e w' => e = .returned (.tuple #[.string X, .bool true]) ∧ Below w.heap.size w w' :=
  (unhex_any s hs w).mono fun e w' ⟨h1, h2⟩ => ⟨by rw [h1, hX]; show Ending.returned (Value.tuple #[.string ⟨X.data.toList.toArray⟩, .bool true]) = _; rw [str_back], h2⟩
theorem unhex_none (s : ByteArray) (hs : s.size ≤ 100000000) (hX : Dg.unhex s.data.toList = none) (w : World) :
    Calls Tryd.prog 11 #[.string s] w fun e w' => e = .returned (.tuple #[.string ⟨#[]⟩, .bool false]) ∧ Below w.heap.size w w' :=
  (unhex_any s hs w).mono fun e w' ⟨h1, h2⟩ => ⟨by rw [h1, hX]; rfl, h2⟩
theorem unb32_some (s : ByteArray) (hs : s.size ≤ 10000000) (X : ByteArray) (hX : Dg.unb32 s.data.toList = some X.data.toList) (w : World) :
    Calls Tryd.prog 13 #[.string s] w fun e w' => e = .returned (.tuple #[.string X, .bool true]) ∧ Below w.heap.size w w' :=
  (unb32_any s hs w).mono fun e w' ⟨h1, h2⟩ => ⟨by rw [h1, hX]; show Ending.returned (Value.tuple #[.string ⟨X.data.toList.toArray⟩, .bool true]) = _; rw [str_back], h2⟩
theorem unb32_none (s : ByteArray) (hs : s.size ≤ 10000000) (hX : Dg.unb32 s.data.toList = none) (w : World) :
    Calls Tryd.prog 13 #[.string s] w fun e w' => e = .returned (.tuple #[.string ⟨#[]⟩, .bool false]) ∧ Below w.heap.size w w' :=
  (unb32_any s hs w).mono fun e w' ⟨h1, h2⟩ => ⟨by rw [h1, hX]; rfl, h2⟩
theorem unhex_len (h : List UInt8) (l : List UInt8) (e : Dg.unhex h = some l) : h.length = 2 * l.length := by
  rw [← Dg.hex_unhex h l e, Dg.hex_length]
theorem unb32_len (h : List UInt8) (l : List UInt8) (e : Dg.unb32 h = some l) : h.length = (8 * l.length + 4) / 5 := by
  rw [← Dg.b32_unb32 h l e, Dg.b32_length]
end Go.Proofs.YteiabaddmclmlaaDoor
namespace Go.Proofs.YteiabaddmclmlaaDoor
open Go Go.RowKit Go.Shelf
namespace Dg
theorem keyOf_short {k : List UInt8} (h : k.length ≤ 64) : keyOf k = k := by unfold keyOf; rw [if_neg (by omega)]
theorem mac_zero {k : List UInt8} (s : List UInt8) (h : k.length < 64) : mac (k ++ [0]) s = mac k s := by
  have e : kp (k ++ [0]) = kp k := by
    unfold kp
    rw [List.length_append, List.length_singleton, List.append_assoc]
    obtain ⟨m, hm⟩ : ∃ m, 64 - k.length = m + 1 := ⟨63 - k.length, by omega⟩
    rw [hm, show 64 - (k.length + 1) = m from by omega]
    rfl
  unfold mac
  rw [keyOf_short (k := k) (by omega), keyOf_short (k := k ++ [0]) (by rw [List.length_append, List.length_singleton]; omega)]
  unfold mac1
  rw [e]
theorem mac_sha {k : List UInt8} (s : List UInt8) (h : 64 < k.length) : mac (sha k) s = mac k s := by
  unfold mac
  rw [keyOf_short (by rw [sha_length]; omega)]
  unfold keyOf
  rw [if_pos h]
/-- The first n bytes of the key and the zeros behind it, masked. -/
def mk (b : UInt8) (k : List UInt8) (n : Nat) : List UInt8 := (List.range n).map fun i => k.getD i 0 ^^^ b
theorem mk_length (b : UInt8) (k : List UInt8) (n : Nat) : (mk b k n).length = n := by simp [mk]
theorem mk_next (b : UInt8) (k : List UInt8) (n : Nat) : mk b k (n + 1) = mk b k n ++ [k.getD n 0 ^^^ b] := by
  unfold mk
  rw [List.range_succ, List.map_append]
  rfl
theorem mk_all (b : UInt8) (k : List UInt8) (h : k.length ≤ 64) : mk b k 64 = xorB b (kp k) := by
  apply List.ext_getElem?
  intro i
  unfold mk xorB kp
  rw [List.getElem?_map, List.getElem?_map]
  by_cases hi : i < 64
  · rw [List.getElem?_range hi]
    by_cases hk : i < k.length
    · rw [List.getElem?_append_left hk]
      simp [hk]
    · rw [List.getElem?_append_right (by omega), List.getElem?_replicate, if_pos (by omega)]
      simp [show k.length ≤ i from by omega]
  · rw [List.getElem?_eq_none (by simp; omega), List.getElem?_eq_none (by simp; omega)]
    rfl
theorem mac_mk {k : List UInt8} (s : List UInt8) (h : k.length ≤ 64) : sha (mk 92 k 64 ++ sha (mk 54 k 64 ++ s)) = mac k s := by
  rw [mk_all _ _ h, mk_all _ _ h]
  unfold mac
  rw [keyOf_short h]
  rfl
end Dg
def Apart (a b : Value) : Prop := ∀ g, a.ownBlock = some g → b.ownBlock ≠ some g
theorem Apart.symm {a b : Value} (h : Apart a b) : Apart b a := fun g h1 h2 => h g h2 h1
theorem Apart.ne {a b : Value} (h : Apart a b) : b.ownBlock = none ∨ b.ownBlock ≠ a.ownBlock := by
  cases hb : b.ownBlock with
  | none => exact .inl rfl
  | some g => exact .inr (fun e => h g e.symm hb)
theorem Apart.next {a a' b : Value} {H : Nat} (h : Apart a b) (hat : a'.ownBlock = a.ownBlock ∨ a'.ownBlock = some H) (hlt : ∀ g, b.ownBlock = some g → g < H) : Apart a' b := by
  intro g h1 h2
  rcases hat with e | e
  · exact h g (e ▸ h1) h2
  · rw [e] at h1
    injection h1 with h1
    have := hlt g h2
    omega
theorem wpList_append_bytes_at {w : World} {ops : Array Oper} {o : Oper} {a : Act} {Q : Exit → Act → World → Prop} {rest : List Oper} (hgd : o.guard = none) (s x : Operand) (ho : o.op = .call { callee := .builtin .append, args := #[s, x], argTypes := #[43, 43] })
    (base : Nat) (v : Value) (L : List UInt8) (hs : a.eval s = v) (hown : BytesOf w base v L) (ad : Addr) (m c : Nat) (news : List UInt8) (hx : a.eval x = .slice (some ad) m c) (hl : news.length = m)
    (hnews : ∀ j u, (bv news)[j]? = some u → w.cell? (ad.add j) = some u) (hbig : L.length + m ≤ 1000000000) (hbase : base ≤ w.heap.size)
    (h : ∀ v' w', BytesOf w' base v' (L ++ news) → w.grownBy w' v.ownBlock → (v'.ownBlock = v.ownBlock ∨ v'.ownBlock = some w.heap.size) → wpList Tryd.prog ops Q rest (a.put o.dst v') w') : wpList Tryd.prog ops Q (o :: rest) a w := by
  obtain ⟨i0, hi, hz0, hz1, hz2⟩ := info_parts infoU
  refine wpList_append_own_at w hgd s x 43 ho base 5 i0 (.int .u8 0) 1 1 Tryd.underlying43 hi hz0 hz1 hz2 rfl (by omega) v L.length (bv L) hs hown ad m c (bv news) hx (by rw [bv_length, hl]; omega) hnews (bv_cells _) (by unfold maxLen; omega) (by omega) hbase fun v' w' h2 h3 _ h5 => h v' w' ?_ h3 h5
  have e1 : (L ++ news).length = L.length + m := by rw [List.length_append, hl]
  have e2 : bv (L ++ news) = bv L ++ bv news := by simp [bv]
  unfold BytesOf
  rw [e1, e2]
  exact h2
theorem BytesOf.below {w w' : World} {base : Nat} {v : Value} {l : List UInt8} (h : BytesOf w base v l) (hb : Below w.heap.size w w') : BytesOf w' base v l :=
  World.ownsRow.kept (row := none) h ⟨hb.os, hb.tape, hb.output, hb.size, fun i hi _ => hb.block i hi⟩ (by cases v.ownBlock with | none => exact .inl rfl | some k => exact .inr (by simp))
theorem BytesOf.kept {w w' : World} {base : Nat} {v u : Value} {l : List UInt8} (h : BytesOf w base v l) (hg : w.grownBy w' u.ownBlock) (ha : Apart u v) : BytesOf w' base v l := World.ownsRow.kept h hg ha.ne
theorem BytesOf.ltBlock {w : World} {base : Nat} {v : Value} {l : List UInt8} (h : BytesOf w base v l) (g : Nat) (hg : v.ownBlock = some g) : g < w.heap.size := (World.ownsRow.lt h g hg).2
theorem mac_to (k s : ByteArray) (hk : k.size ≤ 10000000) (hs : s.size ≤ 10000000) (X : ByteArray) (hX : Dg.mac k.data.toList s.data.toList = X.data.toList) (w : World) (hE : Env w) :
    Calls Tryd.prog 25 #[.string k, .string s] w fun e w' => e = .returned (.string X) ∧ Below w.heap.size w w' :=
  (mac_any k s hk hs w hE).mono fun e w' ⟨h1, h2⟩ => ⟨by rw [h1, hX, str_back], h2⟩
theorem sum_to (s : ByteArray) (hs : s.size ≤ 100000000) (X : ByteArray) (hX : Dg.sha s.data.toList = X.data.toList) (w : World) (hE : Env w) :
    Calls Tryd.prog 15 #[.string s] w fun e w' => e = .returned (.string X) ∧ Below w.heap.size w w' :=
  (sum_any s hs w hE).mono fun e w' ⟨h1, h2⟩ => ⟨by rw [h1, hX, str_back], h2⟩
end Go.Proofs.YteiabaddmclmlaaDoor
