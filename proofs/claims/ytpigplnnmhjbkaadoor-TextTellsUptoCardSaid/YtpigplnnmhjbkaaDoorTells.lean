/-
  The law TextTells, walked: every function of the layer returns what the reference returns.
-/
import Derived.Test.YtpigplnnmhjbkaaDoorRefGlob
import Derived.Test.YtpigplnnmhjbkaaDoorRefTrim
import Derived.Test.YtpigplnnmhjbkaaDoorRefFields
import Derived.Test.YtpigplnnmhjbkaaDoorRefLines
import Derived.Test.YtpigplnnmhjbkaaDoorRefUnl
import Derived.Test.YtpigplnnmhjbkaaDoorRefJoin
import Derived.Test.YtpigplnnmhjbkaaDoorRefDecZ
import Derived.Test.YtpigplnnmhjbkaaDoorRefU
import Derived.Test.YtpigplnnmhjbkaaDoorLinesWalk
namespace Go.Proofs.YtpigplnnmhjbkaaDoor
open Go Go.RowKit Go.Shelf

theorem drew_below {f : FuncId} {args : Array Value} {w : World} {v : Ending} (h : Calls Tryd.prog f args w fun e w' => e = v ∧ ∃ n, w' = w.drewN n) : Calls Tryd.prog f args w fun e w' => e = v ∧ Below w.heap.size w w' :=
  h.mono fun _ _ ⟨a, n, hw⟩ => ⟨a, by rw [hw]; exact below_drews (Below.refl _ _) n⟩
theorem refFields_row {s : ByteArray} {L : List (List UInt8)} (hL : Tx.words s.data.toList = L) (hs : s.size ≤ 1000000) (w : World) :
    Calls Tryd.prog 28 #[.string s] w fun e w' => ∃ xa b cap, e = .returned (.slice xa L.length cap) ∧ RowOf w' (.slice xa L.length cap) xa b 0 cap L ∧ Below w.heap.size w w' :=
  (refFields_any s w hs).mono fun _ _ ⟨v, a, h, hb⟩ => by
    rw [hL] at h
    obtain ⟨xa, b, cap, hr⟩ := rowOf_own h
    obtain rfl := hr.is
    exact ⟨xa, b, cap, a, hr, hb⟩
theorem refLines_row {s : ByteArray} {L : List (List UInt8)} (hL : Tx.lines s.data.toList = L) (hs : s.size ≤ 1000000) (w : World) :
    Calls Tryd.prog 30 #[.string s] w fun e w' => ∃ xa b cap, e = .returned (.slice xa L.length cap) ∧ RowOf w' (.slice xa L.length cap) xa b 0 cap L ∧ Below w.heap.size w w' :=
  (refLines_any s w hs).mono fun _ _ ⟨v, a, h, hb⟩ => by
    rw [hL] at h
    obtain ⟨xa, b, cap, hr⟩ := rowOf_own h
    obtain rfl := hr.is
    exact ⟨xa, b, cap, a, hr, hb⟩

set_option maxHeartbeats 8000000 in
set_option maxRecDepth 100000 in
theorem tells_short (s t : ByteArray) (xa : Option Addr) (b off cap : Nat) (X : List (List UInt8)) (n : Int) (w : World) (hm : MaxAt w) (hp : Pow w) (hr : RowOf w (.slice xa X.length cap) xa b off cap X) (hs : s.size ≤ 300) (ht : t.size ≤ 300) (hl : X.length ≤ 40)
    (hz : (Tx.unlines X).length ≤ 2000000) (n0 : -9223372036854775808 ≤ n) (n1 : n ≤ 9223372036854775807) :
    Calls Tryd.prog 3 #[.string s, .string t, .slice xa X.length cap, .int .i64 n] w fun e w' => e = .returned (.bool true) ∧ Below w.heap.size w w' := by
  have h0 := hm.pos
  have hLl : (Tx.words s.data.toList).length ≤ 300 := by have := Tx.words_len s.data.toList; rw [← Lib.size_eq] at this; omega
  have hMl : (Tx.lines s.data.toList).length ≤ 300 := by have := Tx.lines_len s.data.toList; rw [← Lib.size_eq] at this; omega
  obtain ⟨V, hV⟩ : ∃ V, Tx.numVal t.data.toList = V := ⟨_, rfl⟩
  obtain ⟨K, hK⟩ : ∃ K, Tx.numOk t.data.toList = K := ⟨_, rfl⟩
  obtain ⟨A, hA⟩ : ∃ A : ByteArray, ⟨(Tx.lowL s.data.toList).toArray⟩ = A := ⟨_, rfl⟩
  obtain ⟨U, hU⟩ : ∃ U : ByteArray, ⟨(Tx.upL s.data.toList).toArray⟩ = U := ⟨_, rfl⟩
  obtain ⟨G, hG⟩ : ∃ G, Tx.same s.data.toList t.data.toList = G := ⟨_, rfl⟩
  obtain ⟨R, hR⟩ : ∃ R : ByteArray, ⟨(Tx.trim s.data.toList).toArray⟩ = R := ⟨_, rfl⟩
  obtain ⟨Q, hQ⟩ : ∃ Q : ByteArray, ⟨(Tx.squeeze s.data.toList).toArray⟩ = Q := ⟨_, rfl⟩
  obtain ⟨T, hT⟩ : ∃ T : ByteArray, ⟨(Tx.unlines X).toArray⟩ = T := ⟨_, rfl⟩
  obtain ⟨D, hD⟩ : ∃ D : ByteArray, ⟨(Lib.itoa n).toArray⟩ = D := ⟨_, rfl⟩
  obtain ⟨L, hL⟩ : ∃ L, Tx.words s.data.toList = L := ⟨_, rfl⟩
  obtain ⟨M, hM⟩ : ∃ M, Tx.lines s.data.toList = M := ⟨_, rfl⟩
  obtain ⟨H, hH⟩ : ∃ H, Tx.glob t.data.toList s.data.toList = H := ⟨_, rfl⟩
  have C1 := Lib.hid (fun W => number_any t W (by omega))
  have C2 := Lib.hid (fun W => refNumber_any t W (by omega))
  rw [hV, hK] at C1 C2
  have C3 := Lib.hid (fun W => lowerS_any s W (by omega))
  have C4 := Lib.hid (fun W => refLower_any s W (by omega))
  rw [show s.data.toList.map Tx.lowB = Tx.lowL s.data.toList from rfl] at C4
  rw [hA] at C3 C4
  have C5 := Lib.hid (fun W => upperS_any s W (by omega))
  have C6 := Lib.hid (fun W => refUpper_any s W (by omega))
  rw [show s.data.toList.map Tx.upB = Tx.upL s.data.toList from rfl] at C6
  rw [hU] at C5 C6
  have C7 := Lib.hid (fun W => drew_below (same_any s t W (by omega)))
  have C8 := Lib.hid (fun W => refSame_any s t W (by omega) (by omega))
  rw [hG] at C7 C8
  have C9 := Lib.hid (fun W => trim_text hR (by omega) W)
  have C10 := Lib.hid (fun W => drew_below (refTrim_any s W (by omega)))
  rw [hR] at C10
  have C11 := Lib.hid (fun W => squeeze_text hQ (by omega) W)
  have C12 := Lib.hid (fun W => refSqueeze_any s W (by omega))
  rw [hQ] at C12
  have C13 := Lib.hid (fun W h => unlines_sum xa b off cap X W h (by omega) hz)
  have C14 := Lib.hid (fun W h => refUnlines_any xa b off cap X W h (by omega) hz)
  rw [hT] at C13 C14
  have C15 := Lib.hid (fun W h => decimal_any n n0 n1 W h)
  have C16 := Lib.hid (fun W => refDecimal_any n n0 n1 W)
  rw [hD] at C15 C16
  have C17 := Lib.hid (fun W => fields_text hL (by omega) W)
  have C18 := Lib.hid (fun W => refFields_row hL (by omega) W)
  have C19 := Lib.hid (fun W h => lines_text hM (by omega) W h)
  have C20 := Lib.hid (fun W => refLines_row hM (by omega) W)
  have C21 := Lib.hid (fun W => drew_below (glob_any t s W (by omega) (by omega)))
  have C22 := Lib.hid (fun W => refGlob_any t s W (by omega) (by omega))
  rw [hH] at C21 C22
  rw [hL] at hLl
  rw [hM] at hMl
  have HM := Lib.hid hm
  have HP := Lib.hid hp
  have HR := Lib.hid hr
  clear hV hK hA hU hG hR hQ hT hD hL hM hH hm hp hr hz
  go_enter Tryd.func3, Tryd.ntmps3
  go_wp2_with fail
  refine (small_any _ HM.out).mono ?_
  rintro e w1 ⟨rfl, hb⟩
  have HB1 := Lib.hid hb
  clear hb
  go_wp2_with fail
  refine (C1.out _).mono ?_
  rintro e w' ⟨rfl, rfl⟩
  go_wp2_with fail
  refine (C2.out _).mono ?_
  rintro e w' ⟨rfl, rfl⟩
  go_wp2_with fail
  refine (C3.out _).mono ?_
  rintro e w2 ⟨rfl, hb⟩
  have HB2 := Lib.hid (HB1.out.trans (hb.mono HB1.out.size))
  clear hb
  go_wp2_with fail
  refine (C4.out _).mono ?_
  rintro e w3 ⟨rfl, hb⟩
  have HB3 := Lib.hid (HB2.out.trans (hb.mono HB2.out.size))
  clear hb
  go_wp2_with fail
  refine (C5.out _).mono ?_
  rintro e w4 ⟨rfl, hb⟩
  have HB4 := Lib.hid (HB3.out.trans (hb.mono HB3.out.size))
  clear hb
  go_wp2_with fail
  refine (C6.out _).mono ?_
  rintro e w5 ⟨rfl, hb⟩
  have HB5 := Lib.hid (HB4.out.trans (hb.mono HB4.out.size))
  clear hb
  go_wp2_with fail
  refine (C7.out _).mono ?_
  rintro e w6 ⟨rfl, hb⟩
  have HB6 := Lib.hid (HB5.out.trans (hb.mono HB5.out.size))
  clear hb
  go_wp2_with fail
  refine (C8.out _).mono ?_
  rintro e w7 ⟨rfl, hb⟩
  have HB7 := Lib.hid (HB6.out.trans (hb.mono HB6.out.size))
  clear hb
  go_wp2_with fail
  refine (C9.out _).mono ?_
  rintro e w8 ⟨rfl, hb⟩
  have HB8 := Lib.hid (HB7.out.trans (hb.mono HB7.out.size))
  clear hb
  go_wp2_with fail
  refine (C10.out _).mono ?_
  rintro e w9 ⟨rfl, hb⟩
  have HB9 := Lib.hid (HB8.out.trans (hb.mono HB8.out.size))
  clear hb
  go_wp2_with fail
  refine (C11.out _).mono ?_
  rintro e w10 ⟨rfl, hb⟩
  have HB10 := Lib.hid (HB9.out.trans (hb.mono HB9.out.size))
  clear hb
  go_wp2_with fail
  refine (C12.out _).mono ?_
  rintro e w11 ⟨rfl, hb⟩
  have HB11 := Lib.hid (HB10.out.trans (hb.mono HB10.out.size))
  clear hb
  go_wp2_with fail
  refine (C13.out _ (HR.out.below HB11.out)).mono ?_
  rintro e w12 ⟨rfl, hb⟩
  have HB12 := Lib.hid (HB11.out.trans (hb.mono HB11.out.size))
  clear hb
  go_wp2_with fail
  refine (C14.out _ (HR.out.below HB12.out)).mono ?_
  rintro e w13 ⟨rfl, hb⟩
  have HB13 := Lib.hid (HB12.out.trans (hb.mono HB12.out.size))
  clear hb
  go_wp2_with fail
  refine (C15.out _ (HP.out.below HB13.out)).mono ?_
  rintro e w14 ⟨rfl, hb⟩
  have HB14 := Lib.hid (HB13.out.trans (hb.mono HB13.out.size))
  clear hb
  go_wp2_with fail
  refine (C16.out _).mono ?_
  rintro e w15 ⟨rfl, hb⟩
  have HB15 := Lib.hid (HB14.out.trans (hb.mono HB14.out.size))
  clear hb
  go_wp2_with fail
  refine (C17.out _).mono ?_
  rintro e w16 ⟨ya16, yb16, yc16, rfl, hrow, hb⟩
  have HW16 := Lib.hid hrow
  have HB16 := Lib.hid (HB15.out.trans (hb.mono HB15.out.size))
  clear hrow hb
  go_wp2_with fail
  refine (C18.out _).mono ?_
  rintro e w17 ⟨ya17, yb17, yc17, rfl, hrow, hb⟩
  have HW17 := Lib.hid hrow
  have HB17 := Lib.hid (HB16.out.trans (hb.mono HB16.out.size))
  have HX16 := Lib.hid (HW16.out.below hb)
  clear hrow hb
  go_wp2_with fail
  refine (drew_below (strings_rows HX16.out HW17.out (by omega))).mono ?_
  rintro e w18 ⟨rfl, hb⟩
  have HB18 := Lib.hid (HB17.out.trans (hb.mono HB17.out.size))
  clear hb
  go_wp2_with fail
  refine (C19.out _ (HM.out.below HB18.out h0)).mono ?_
  rintro e w19 ⟨ya19, yb19, yc19, rfl, hrow, hb⟩
  have HW19 := Lib.hid hrow
  have HB19 := Lib.hid (HB18.out.trans (hb.mono HB18.out.size))
  clear hrow hb
  go_wp2_with fail
  refine (C20.out _).mono ?_
  rintro e w20 ⟨ya20, yb20, yc20, rfl, hrow, hb⟩
  have HW20 := Lib.hid hrow
  have HB20 := Lib.hid (HB19.out.trans (hb.mono HB19.out.size))
  have HX19 := Lib.hid (HW19.out.below hb)
  clear hrow hb
  go_wp2_with fail
  refine (drew_below (strings_rows HX19.out HW20.out (by omega))).mono ?_
  rintro e w21 ⟨rfl, hb⟩
  have HB21 := Lib.hid (HB20.out.trans (hb.mono HB20.out.size))
  clear hb
  go_wp2_with fail
  refine (C21.out _).mono ?_
  rintro e w22 ⟨rfl, hb⟩
  have HB22 := Lib.hid (HB21.out.trans (hb.mono HB21.out.size))
  clear hb
  go_wp2_with fail
  refine (C22.out _).mono ?_
  rintro e w23 ⟨rfl, hb⟩
  have HB23 := Lib.hid (HB22.out.trans (hb.mono HB22.out.size))
  clear hb
  go_wp2
  go_ret
  exact ⟨rfl, HB23.out⟩

set_option maxHeartbeats 1000000 in
set_option maxRecDepth 100000 in
theorem tells_long (s t : ByteArray) (xa : Option Addr) (m cap : Nat) (n : Int) (w : World) (hm : MaxAt w) (hs : s.size ≤ 9223372036854775807) (ht : t.size ≤ 9223372036854775807) (hk : m ≤ 9223372036854775807) (hl : 300 < s.size ∨ 300 < t.size ∨ 40 < m) :
    Calls Tryd.prog 3 #[.string s, .string t, .slice xa m cap, .int .i64 n] w fun e w' => e = .returned (.bool true) ∧ Below w.heap.size w w' := by
  have HM := Lib.hid hm
  clear hm
  by_cases h1 : 300 < s.size
  · clear hl
    go_enter Tryd.func3, Tryd.ntmps3
    go_wp2_with fail
    refine (small_any _ HM.out).mono ?_
    rintro e w1 ⟨rfl, hB1⟩
    go_wp2
    go_ret
    exact ⟨rfl, hB1⟩
  · by_cases h2 : 300 < t.size
    · clear hl
      go_enter Tryd.func3, Tryd.ntmps3
      go_wp2_with fail
      refine (small_any _ HM.out).mono ?_
      rintro e w1 ⟨rfl, hB1⟩
      go_wp2
      go_ret
      exact ⟨rfl, hB1⟩
    · have h3 : 40 < m := by omega
      clear hl
      go_enter Tryd.func3, Tryd.ntmps3
      go_wp2_with fail
      refine (small_any _ HM.out).mono ?_
      rintro e w1 ⟨rfl, hB1⟩
      go_wp2
      go_ret
      exact ⟨rfl, hB1⟩
theorem tells_law {v : Value} {xa : Option Addr} {b off cap : Nat} {X : List (List UInt8)} (s t : ByteArray) (n : Int) (w : World) (hm : MaxAt w) (hp : Pow w) (hr : RowOf w v xa b off cap X) (hl : X.length ≤ 9223372036854775807) (hs : s.size ≤ 9223372036854775807) (ht : t.size ≤ 9223372036854775807)
    (hz : (Tx.unlines X).length ≤ 2000000) (n0 : -9223372036854775808 ≤ n) (n1 : n ≤ 9223372036854775807) :
    Calls Tryd.prog 3 #[.string s, .string t, v, .int .i64 n] w fun e w' => e = .returned (.bool true) ∧ Below w.heap.size w w' := by
  obtain rfl := hr.is
  by_cases hb : 300 < s.size ∨ 300 < t.size ∨ 40 < X.length
  · exact tells_long s t xa X.length cap n w hm hs ht hl hb
  · exact tells_short s t xa b off cap X n w hm hp hr (by omega) (by omega) (by omega) hz n0 n1
end Go.Proofs.YtpigplnnmhjbkaaDoor
