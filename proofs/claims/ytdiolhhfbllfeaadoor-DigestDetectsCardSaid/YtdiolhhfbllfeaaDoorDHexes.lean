/-
  DigestHexes's law.
-/
import Derived.Test.YtdiolhhfbllfeaaDoorDSmall
namespace Go.Proofs.YtdiolhhfbllfeaaDoor
open Go Go.RowKit Go.Shelf
theorem str_back (h : ByteArray) : (⟨h.data.toList.toArray⟩ : ByteArray) = h := by
  apply ByteArray.ext
  simp
theorem hex_to (s : ByteArray) (hs : s.size ≤ 100000000) (X : ByteArray) (hX : Dg.hex s.data.toList = X.data.toList) (w : World) :
    Calls Tryd.prog 21 #[.string s] w fun e w' => e = .returned (.string X) ∧ Below w.heap.size w w' :=
  (hex_any s hs w).mono fun e w' ⟨h1, h2⟩ => ⟨by rw [h1, hX, str_back], h2⟩
theorem b32_to (s : ByteArray) (hs : s.size ≤ 10000000) (X : ByteArray) (hX : Dg.b32 s.data.toList = X.data.toList) (w : World) :
    Calls Tryd.prog 23 #[.string s] w fun e w' => e = .returned (.string X) ∧ Below w.heap.size w w' :=
  (b32_any s hs w).mono fun e w' ⟨h1, h2⟩ => ⟨by rw [h1, hX, str_back], h2⟩
theorem unhex_some (s : ByteArray) (hs : s.size ≤ 100000000) (X : ByteArray) (hX : Dg.unhex s.data.toList = some X.data.toList) (w : World) :
    Calls Tryd.prog 11 #[.string s] w fun e w' => e = .returned (.tuple #[.string X, .bool true]) ∧ Below w.heap.size w w' :=
  (unhex_any s hs w).mono fun e w' ⟨h1, h2⟩ => ⟨by rw [h1, hX]; show Ending.returned (Value.tuple #[.string ⟨X.data.toList.toArray⟩, .bool true]) = _; rw [str_back], h2⟩
theorem unhex_none (s : ByteArray) (hs : s.size ≤ 100000000) (hX : Dg.unhex s.data.toList = none) (w : World) :
    Calls Tryd.prog 11 #[.string s] w fun e w' => e = .returned (.tuple #[.string ⟨#[]⟩, .bool false]) ∧ Below w.heap.size w w' :=
  (unhex_any s hs w).mono fun e w' ⟨h1, h2⟩ => ⟨by rw [h1, hX]; rfl, h2⟩
theorem unb32_some (s : ByteArray) (hs : s.size ≤ 10000000) (X : ByteArray) (hX : Dg.unb32 s.data.toList = some X.data.toList) (w : World) :
    Calls Tryd.prog 13 #[.string s] w fun e w' => e = .returned (.tuple #[.string X, .bool true]) ∧ Below w.heap.size w w' :=
  (unb32_any s hs w).mono fun e w' ⟨h1, h2⟩ => ⟨by rw [h1, hX]; show Ending.returned (Value.tuple #[.string ⟨X.data.toList.toArray⟩, .bool true]) = _; rw [str_back], h2⟩
theorem unb32_none (s : ByteArray) (hs : s.size ≤ 10000000) (hX : Dg.unb32 s.data.toList = none) (w : World) :
    Calls Tryd.prog 13 #[.string s] w fun e w' => e = .returned (.tuple #[.string ⟨#[]⟩, .bool false]) ∧ Below w.heap.size w w' :=
  (unb32_any s hs w).mono fun e w' ⟨h1, h2⟩ => ⟨by rw [h1, hX]; rfl, h2⟩
theorem unhex_len (h : List UInt8) (l : List UInt8) (e : Dg.unhex h = some l) : h.length = 2 * l.length := by
  rw [← Dg.hex_unhex h l e, Dg.hex_length]
theorem unb32_len (h : List UInt8) (l : List UInt8) (e : Dg.unb32 h = some l) : h.length = (8 * l.length + 4) / 5 := by
  rw [← Dg.b32_unb32 h l e, Dg.b32_length]
set_option maxHeartbeats 4000000 in
set_option maxRecDepth 100000 in
theorem hexes_law (s h : ByteArray) (w : World) (hE : Env w) :
    Calls Tryd.prog 4 #[.string s, .string h] w fun e w' => e = .returned (.bool true) ∧ Below w.heap.size w w' := by
  have HS := Lib.hid (small_any w hE)
  clear hE
  by_cases h1 : 2000 < s.size
  · go_enter Tryd.func4, Tryd.ntmps4
    go_wp2_with fail
    refine HS.out.mono ?_
    rintro e w0 ⟨rfl, hb⟩
    go_wp2
    go_ret
    exact ⟨rfl, hb⟩
  by_cases h2 : 2000 < h.size
  · go_enter Tryd.func4, Tryd.ntmps4
    go_wp2_with fail
    refine HS.out.mono ?_
    rintro e w0 ⟨rfl, hb⟩
    go_wp2
    go_ret
    exact ⟨rfl, hb⟩
  have hz := Lib.size_eq s
  have hzh := Lib.size_eq h
  obtain ⟨X, hX⟩ : ∃ X : ByteArray, Dg.hex s.data.toList = X.data.toList := ⟨⟨(Dg.hex s.data.toList).toArray⟩, rfl⟩
  obtain ⟨Y, hY⟩ : ∃ Y : ByteArray, Dg.b32 s.data.toList = Y.data.toList := ⟨⟨(Dg.b32 s.data.toList).toArray⟩, rfl⟩
  have hXs : X.size = 2 * s.size := by rw [Lib.size_eq, ← hX, Dg.hex_length, ← hz]
  have hYs : Y.size = (8 * s.size + 4) / 5 := by rw [Lib.size_eq, ← hY, Dg.b32_length, ← hz]
  have C1 := Lib.hid (hex_to s (by omega) X hX)
  have C2 := Lib.hid (unhex_some X (by omega) s (by rw [← hX, Dg.unhex_hex]))
  have C4 := Lib.hid (b32_to s (by omega) Y hY)
  have C5 := Lib.hid (unb32_some Y (by omega) s (by rw [← hY, Dg.unb32_b32]))
  have q1 : (X.size : Int) = 2 * (s.size : Int) := by omega
  have q2 : (Y.size : Int) = (8 * (s.size : Int) + 4) / 5 := by omega
  have q3 : X.size ≤ 4000 := by omega
  have q4 : Y.size ≤ 4000 := by omega
  clear hX hY hXs hYs hz
  cases hU : Dg.unhex h.data.toList with
  | none =>
    have C3 := Lib.hid (unhex_none h (by omega) hU)
    clear hU
    cases hV : Dg.unb32 h.data.toList with
    | none =>
      have C6 := Lib.hid (unb32_none h (by omega) hV)
      clear hV
      clear hzh
      go_enter Tryd.func4, Tryd.ntmps4
      go_wp2_with fail
      refine HS.out.mono ?_
      rintro e w0 ⟨rfl, hb⟩
      have B0 := Lib.hid hb
      clear hb
      go_wp2_with fail
      refine (C1.out w0).mono ?_
      rintro e w1 ⟨rfl, hb⟩
      have B1 := Lib.hid (B0.out.trans (hb.mono B0.out.size))
      clear hb
      go_wp2_with fail
      refine (C2.out w1).mono ?_
      rintro e w2 ⟨rfl, hb⟩
      have B2 := Lib.hid (B1.out.trans (hb.mono B1.out.size))
      clear hb
      go_wp2_with fail
      refine (C3.out w2).mono ?_
      rintro e w3 ⟨rfl, hb⟩
      have B3 := Lib.hid (B2.out.trans (hb.mono B2.out.size))
      clear hb
      go_wp2_with fail
      refine (C4.out w3).mono ?_
      rintro e w4 ⟨rfl, hb⟩
      have B4 := Lib.hid (B3.out.trans (hb.mono B3.out.size))
      clear hb
      go_wp2_with fail
      refine (C5.out w4).mono ?_
      rintro e w5 ⟨rfl, hb⟩
      have B5 := Lib.hid (B4.out.trans (hb.mono B4.out.size))
      clear hb
      go_wp2_with fail
      refine (C6.out w5).mono ?_
      rintro e w6 ⟨rfl, hb⟩
      have B6 := Lib.hid (B5.out.trans (hb.mono B5.out.size))
      clear hb
      go_wp2
      go_ret
      exact ⟨rfl, B6.out⟩
    | some d =>
      obtain ⟨Dd, hDd⟩ : ∃ B : ByteArray, d = B.data.toList := ⟨⟨d.toArray⟩, rfl⟩
      rw [hDd] at hV
      have hl := unb32_len _ _ hV
      rw [← Lib.size_eq, ← Lib.size_eq] at hl
      have C6 := Lib.hid (unb32_some h (by omega) Dd hV)
      have C7 := Lib.hid (b32_to Dd (by omega) h (Dg.b32_unb32 _ _ hV))
      clear hV hDd hl
      clear hzh
      go_enter Tryd.func4, Tryd.ntmps4
      go_wp2_with fail
      refine HS.out.mono ?_
      rintro e w0 ⟨rfl, hb⟩
      have B0 := Lib.hid hb
      clear hb
      go_wp2_with fail
      refine (C1.out w0).mono ?_
      rintro e w1 ⟨rfl, hb⟩
      have B1 := Lib.hid (B0.out.trans (hb.mono B0.out.size))
      clear hb
      go_wp2_with fail
      refine (C2.out w1).mono ?_
      rintro e w2 ⟨rfl, hb⟩
      have B2 := Lib.hid (B1.out.trans (hb.mono B1.out.size))
      clear hb
      go_wp2_with fail
      refine (C3.out w2).mono ?_
      rintro e w3 ⟨rfl, hb⟩
      have B3 := Lib.hid (B2.out.trans (hb.mono B2.out.size))
      clear hb
      go_wp2_with fail
      refine (C4.out w3).mono ?_
      rintro e w4 ⟨rfl, hb⟩
      have B4 := Lib.hid (B3.out.trans (hb.mono B3.out.size))
      clear hb
      go_wp2_with fail
      refine (C5.out w4).mono ?_
      rintro e w5 ⟨rfl, hb⟩
      have B5 := Lib.hid (B4.out.trans (hb.mono B4.out.size))
      clear hb
      go_wp2_with fail
      refine (C6.out w5).mono ?_
      rintro e w6 ⟨rfl, hb⟩
      have B6 := Lib.hid (B5.out.trans (hb.mono B5.out.size))
      clear hb
      go_wp2_with fail
      refine (C7.out w6).mono ?_
      rintro e w7 ⟨rfl, hb⟩
      have B7 := Lib.hid (B6.out.trans (hb.mono B6.out.size))
      clear hb
      go_wp2
      go_ret
      exact ⟨rfl, B7.out⟩
  | some b =>
    obtain ⟨Bb, hBb⟩ : ∃ B : ByteArray, b = B.data.toList := ⟨⟨b.toArray⟩, rfl⟩
    rw [hBb] at hU
    have hl := unhex_len _ _ hU
    rw [← Lib.size_eq, ← Lib.size_eq] at hl
    have C3 := Lib.hid (unhex_some h (by omega) Bb hU)
    have C8 := Lib.hid (hex_to Bb (by omega) h (Dg.hex_unhex _ _ hU))
    clear hU hBb hl
    cases hV : Dg.unb32 h.data.toList with
    | none =>
      have C6 := Lib.hid (unb32_none h (by omega) hV)
      clear hV
      clear hzh
      go_enter Tryd.func4, Tryd.ntmps4
      go_wp2_with fail
      refine HS.out.mono ?_
      rintro e w0 ⟨rfl, hb⟩
      have B0 := Lib.hid hb
      clear hb
      go_wp2_with fail
      refine (C1.out w0).mono ?_
      rintro e w1 ⟨rfl, hb⟩
      have B1 := Lib.hid (B0.out.trans (hb.mono B0.out.size))
      clear hb
      go_wp2_with fail
      refine (C2.out w1).mono ?_
      rintro e w2 ⟨rfl, hb⟩
      have B2 := Lib.hid (B1.out.trans (hb.mono B1.out.size))
      clear hb
      go_wp2_with fail
      refine (C3.out w2).mono ?_
      rintro e w3 ⟨rfl, hb⟩
      have B3 := Lib.hid (B2.out.trans (hb.mono B2.out.size))
      clear hb
      go_wp2_with fail
      refine (C4.out w3).mono ?_
      rintro e w4 ⟨rfl, hb⟩
      have B4 := Lib.hid (B3.out.trans (hb.mono B3.out.size))
      clear hb
      go_wp2_with fail
      refine (C5.out w4).mono ?_
      rintro e w5 ⟨rfl, hb⟩
      have B5 := Lib.hid (B4.out.trans (hb.mono B4.out.size))
      clear hb
      go_wp2_with fail
      refine (C6.out w5).mono ?_
      rintro e w6 ⟨rfl, hb⟩
      have B6 := Lib.hid (B5.out.trans (hb.mono B5.out.size))
      clear hb
      go_wp2_with fail
      refine (C8.out w6).mono ?_
      rintro e w7 ⟨rfl, hb⟩
      have B7 := Lib.hid (B6.out.trans (hb.mono B6.out.size))
      clear hb
      go_wp2
      go_ret
      exact ⟨rfl, B7.out⟩
    | some d =>
      obtain ⟨Dd, hDd⟩ : ∃ B : ByteArray, d = B.data.toList := ⟨⟨d.toArray⟩, rfl⟩
      rw [hDd] at hV
      have hl := unb32_len _ _ hV
      rw [← Lib.size_eq, ← Lib.size_eq] at hl
      have C6 := Lib.hid (unb32_some h (by omega) Dd hV)
      have C7 := Lib.hid (b32_to Dd (by omega) h (Dg.b32_unb32 _ _ hV))
      clear hV hDd hl
      clear hzh
      go_enter Tryd.func4, Tryd.ntmps4
      go_wp2_with fail
      refine HS.out.mono ?_
      rintro e w0 ⟨rfl, hb⟩
      have B0 := Lib.hid hb
      clear hb
      go_wp2_with fail
      refine (C1.out w0).mono ?_
      rintro e w1 ⟨rfl, hb⟩
      have B1 := Lib.hid (B0.out.trans (hb.mono B0.out.size))
      clear hb
      go_wp2_with fail
      refine (C2.out w1).mono ?_
      rintro e w2 ⟨rfl, hb⟩
      have B2 := Lib.hid (B1.out.trans (hb.mono B1.out.size))
      clear hb
      go_wp2_with fail
      refine (C3.out w2).mono ?_
      rintro e w3 ⟨rfl, hb⟩
      have B3 := Lib.hid (B2.out.trans (hb.mono B2.out.size))
      clear hb
      go_wp2_with fail
      refine (C4.out w3).mono ?_
      rintro e w4 ⟨rfl, hb⟩
      have B4 := Lib.hid (B3.out.trans (hb.mono B3.out.size))
      clear hb
      go_wp2_with fail
      refine (C5.out w4).mono ?_
      rintro e w5 ⟨rfl, hb⟩
      have B5 := Lib.hid (B4.out.trans (hb.mono B4.out.size))
      clear hb
      go_wp2_with fail
      refine (C6.out w5).mono ?_
      rintro e w6 ⟨rfl, hb⟩
      have B6 := Lib.hid (B5.out.trans (hb.mono B5.out.size))
      clear hb
      go_wp2_with fail
      refine (C7.out w6).mono ?_
      rintro e w7 ⟨rfl, hb⟩
      have B7 := Lib.hid (B6.out.trans (hb.mono B6.out.size))
      clear hb
      go_wp2_with fail
      refine (C8.out w7).mono ?_
      rintro e w8 ⟨rfl, hb⟩
      have B8 := Lib.hid (B7.out.trans (hb.mono B7.out.size))
      clear hb
      go_wp2
      go_ret
      exact ⟨rfl, B8.out⟩
end Go.Proofs.YtdiolhhfbllfeaaDoor
