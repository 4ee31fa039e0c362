/-
  The reference's Sum; the law DigestTells, walked: every function of the layer returns what the reference returns.
-/
import Derived.Test.YtdleaipcogomfaaDoorDRefI
import Derived.Test.YtdleaipcogomfaaDoorDRefS
namespace Go.Proofs.YtdleaipcogomfaaDoor
open Go Go.RowKit Go.Shelf
theorem rblock : RBlock := fun s m at_ hat hml gs cs gb n cb hn w hS hB hgb => rblock_any s m at_ hat hml gs cs gb n cb hn w hS hB hgb
theorem rsum : RSum := fun s hs w => rsum_of rblock s hs w
theorem crc_below {f : FuncId} {args : Array Value} {w : World} {v : Ending} (h : Calls Tryd.prog f args w fun e w' => e = v ∧ w = w') : Calls Tryd.prog f args w fun e w' => e = v ∧ Below w.heap.size w w' :=
  h.mono fun _ _ ⟨a, hw⟩ => ⟨a, by rw [← hw]; exact Below.refl _ _⟩
set_option maxHeartbeats 8000000 in
set_option maxRecDepth 100000 in
theorem tells_law (s h : ByteArray) (w : World) (hE : Env w) :
    Calls Tryd.prog 9 #[.string s, .string h] w fun e w' => e = .returned (.bool true) ∧ Below w.heap.size w w' := by
  have HS := Lib.hid (small_any w hE)
  have HE := Lib.hid hE
  clear hE
  by_cases h1 : 2000 < s.size
  · go_enter Tryd.func9, Tryd.ntmps9
    go_wp2_with fail
    refine HS.out.mono ?_
    rintro e w0 ⟨rfl, hb⟩
    go_wp2
    go_ret
    exact ⟨rfl, hb⟩
  by_cases h2 : 2000 < h.size
  · go_enter Tryd.func9, Tryd.ntmps9
    go_wp2_with fail
    refine HS.out.mono ?_
    rintro e w0 ⟨rfl, hb⟩
    go_wp2
    go_ret
    exact ⟨rfl, hb⟩
  obtain ⟨A, hA⟩ : ∃ A : ByteArray, ⟨((Dg.unhex h.data.toList).getD []).toArray⟩ = A := ⟨_, rfl⟩
  obtain ⟨O, hO⟩ : ∃ A, (Dg.unhex h.data.toList).isSome = A := ⟨_, rfl⟩
  obtain ⟨C, hC⟩ : ∃ A : ByteArray, ⟨((Dg.unb32 h.data.toList).getD []).toArray⟩ = A := ⟨_, rfl⟩
  obtain ⟨P, hP⟩ : ∃ A, (Dg.unb32 h.data.toList).isSome = A := ⟨_, rfl⟩
  obtain ⟨D, hD⟩ : ∃ A : ByteArray, ⟨(Dg.sha s.data.toList).toArray⟩ = A := ⟨_, rfl⟩
  obtain ⟨N, hN⟩ : ∃ A, Dg.short s.data.toList = A := ⟨_, rfl⟩
  obtain ⟨R, hR⟩ : ∃ A, (Dg.crc s.data.toList).toNat = A := ⟨_, rfl⟩
  obtain ⟨X, hX⟩ : ∃ A : ByteArray, ⟨(Dg.hex s.data.toList).toArray⟩ = A := ⟨_, rfl⟩
  obtain ⟨B, hB⟩ : ∃ A : ByteArray, ⟨(Dg.b32 s.data.toList).toArray⟩ = A := ⟨_, rfl⟩
  obtain ⟨M, hM⟩ : ∃ A : ByteArray, ⟨(Dg.mac h.data.toList s.data.toList).toArray⟩ = A := ⟨_, rfl⟩
  have C1 := Lib.hid (fun W => unhex_any h (by omega) W)
  have C2 := Lib.hid (fun W => runhex_any h (by omega) W)
  rw [hA, hO] at C1 C2
  have C3 := Lib.hid (fun W => unb32_any h (by omega) W)
  have C4 := Lib.hid (fun W => runb32_any h (by omega) W)
  rw [hC, hP] at C3 C4
  have C5 := Lib.hid (fun W hE => sum_any s (by omega) W hE)
  have C6 := Lib.hid (fun W => rsum s (by omega) W)
  rw [hD] at C5 C6
  have C7 := Lib.hid (fun W hE => short_any s (by omega) W hE)
  have C8 := Lib.hid (fun W => rshort_any rsum s (by omega) W)
  rw [hN] at C7 C8
  have C9 := Lib.hid (fun W hE => crc_below (crc_any s (by omega) W hE))
  have C10 := Lib.hid (fun W => crc_below (rcrc_any s (by omega) W))
  rw [hR] at C9 C10
  have C11 := Lib.hid (fun W => hex_any s (by omega) W)
  have C12 := Lib.hid (fun W => rhex_any s (by omega) W)
  rw [hX] at C11 C12
  have C13 := Lib.hid (fun W => b32_any s (by omega) W)
  have C14 := Lib.hid (fun W => rb32_any s (by omega) W)
  rw [hB] at C13 C14
  have C15 := Lib.hid (fun W hE => mac_any h s (by omega) (by omega) W hE)
  have C16 := Lib.hid (fun W => rmac_any rsum h s M (by omega) (by omega) (by rw [← hM]) W)
  rw [hM] at C15
  clear hA hO hC hP hD hN hR hX hB hM
  go_enter Tryd.func9, Tryd.ntmps9
  go_wp2_with fail
  refine HS.out.mono ?_
  rintro e w0 ⟨rfl, hb⟩
  have B0 := Lib.hid hb
  clear hb HS
  go_wp2_with fail
  refine (C1.out w0).mono ?_
  rintro e w1 ⟨rfl, hb⟩
  have B1 := Lib.hid (B0.out.trans (hb.mono B0.out.size))
  clear hb C1
  go_wp2_with fail
  refine (C2.out w1).mono ?_
  rintro e w2 ⟨rfl, hb⟩
  have B2 := Lib.hid (B1.out.trans (hb.mono B1.out.size))
  clear hb C2
  go_wp2_with fail
  refine (C3.out w2).mono ?_
  rintro e w3 ⟨rfl, hb⟩
  have B3 := Lib.hid (B2.out.trans (hb.mono B2.out.size))
  clear hb C3
  go_wp2_with fail
  refine (C4.out w3).mono ?_
  rintro e w4 ⟨rfl, hb⟩
  have B4 := Lib.hid (B3.out.trans (hb.mono B3.out.size))
  clear hb C4
  go_wp2_with fail
  refine (C5.out w4 (HE.out.new B4.out)).mono ?_
  rintro e w5 ⟨rfl, hb⟩
  have B5 := Lib.hid (B4.out.trans (hb.mono B4.out.size))
  clear hb C5
  go_wp2_with fail
  refine (C6.out w5).mono ?_
  rintro e w6 ⟨rfl, hb⟩
  have B6 := Lib.hid (B5.out.trans (hb.mono B5.out.size))
  clear hb C6
  go_wp2_with fail
  refine (C7.out w6 (HE.out.new B6.out)).mono ?_
  rintro e w7 ⟨rfl, hb⟩
  have B7 := Lib.hid (B6.out.trans (hb.mono B6.out.size))
  clear hb C7
  go_wp2_with fail
  refine (C8.out w7).mono ?_
  rintro e w8 ⟨rfl, hb⟩
  have B8 := Lib.hid (B7.out.trans (hb.mono B7.out.size))
  clear hb C8
  go_wp2_with fail
  refine (C9.out w8 (HE.out.new B8.out)).mono ?_
  rintro e w9 ⟨rfl, hb⟩
  have B9 := Lib.hid (B8.out.trans (hb.mono B8.out.size))
  clear hb C9
  go_wp2_with fail
  refine (C10.out w9).mono ?_
  rintro e w10 ⟨rfl, hb⟩
  have B10 := Lib.hid (B9.out.trans (hb.mono B9.out.size))
  clear hb C10
  go_wp2_with fail
  refine (C11.out w10).mono ?_
  rintro e w11 ⟨rfl, hb⟩
  have B11 := Lib.hid (B10.out.trans (hb.mono B10.out.size))
  clear hb C11
  go_wp2_with fail
  refine (C12.out w11).mono ?_
  rintro e w12 ⟨rfl, hb⟩
  have B12 := Lib.hid (B11.out.trans (hb.mono B11.out.size))
  clear hb C12
  go_wp2_with fail
  refine (C13.out w12).mono ?_
  rintro e w13 ⟨rfl, hb⟩
  have B13 := Lib.hid (B12.out.trans (hb.mono B12.out.size))
  clear hb C13
  go_wp2_with fail
  refine (C14.out w13).mono ?_
  rintro e w14 ⟨rfl, hb⟩
  have B14 := Lib.hid (B13.out.trans (hb.mono B13.out.size))
  clear hb C14
  go_wp2_with fail
  refine (C15.out w14 (HE.out.new B14.out)).mono ?_
  rintro e w15 ⟨rfl, hb⟩
  have B15 := Lib.hid (B14.out.trans (hb.mono B14.out.size))
  clear hb C15
  go_wp2_with fail
  refine (C16.out w15).mono ?_
  rintro e w16 ⟨rfl, hb⟩
  have B16 := Lib.hid (B15.out.trans (hb.mono B15.out.size))
  clear hb C16
  go_wp2
  go_ret
  exact ⟨rfl, B16.out⟩
end Go.Proofs.YtdleaipcogomfaaDoor
