/-
  The reference's mixed, Mac and Short, out of its Sum.
-/
import Derived.Test.YtdleaipcogomfaaDoorDRefC
import Derived.Test.YtdleaipcogomfaaDoorDKeysP
import Derived.Test.YtdleaipcogomfaaDoorDShort
namespace Go.Proofs.YtdleaipcogomfaaDoor
open Go Go.RowKit Go.Shelf
theorem xor8i (x b : UInt8) : bits .xor .i64 (x.toNat : Int) (b.toNat : Int) = ((x ^^^ b).toNat : Int) := by
  have h1 : (x.toNat : Int) = ((Dg.w8 x).toNat : Int) := by rw [w8_nat]
  have h2 : (b.toNat : Int) = ((Dg.w8 b).toNat : Int) := by rw [w8_nat]
  rw [h1, h2, Dg.v_xor, ← Dg.w8_xor, w8_nat]
set_option maxHeartbeats 4000000 in
set_option maxRecDepth 100000 in
theorem rmixed_any (key : ByteArray) (_hk0 : key.size ≤ 100000000) (b : UInt8) (w : World) :
    Calls Tryd.prog 70 #[.string key, .int .i64 (b.toNat : Int)] w fun e w' => e = .returned (.string ⟨(Dg.mk b key.data.toList 64).toArray⟩) ∧ Below w.heap.size w w' := by
  have hbl := UInt8.toNat_lt b
  go_enter Tryd.func70, Tryd.ntmps70
  go_wp2_with fail
  go_loopw [5, 6] (fun v i wr => ∃ (k : Nat) (vv : Value), vv = v ∧ i = .int .i64 k ∧ k ≤ 64 ∧ Hid (BytesOf wr w.heap.size vv (Dg.mk b key.data.toList k)) ∧ Hid (Below w.heap.size w wr)) (fun _ i _ => 64 - (intOf i).toNat)
  case atStart => exact ⟨0, _, rfl, rfl, by omega, World.ownsRow_nil _ _ _ _, Below.refl _ _⟩
  case round =>
    obtain ⟨k, v, rfl, rfl, hk, hI, hB⟩ := hrel
    by_cases hlt : k < 64
    · have n1 := Dg.mk_next b key.data.toList k
      have l1 := Dg.mk_length b key.data.toList k
      obtain ⟨LI, hLI⟩ : ∃ L, Dg.mk b key.data.toList k = L := ⟨_, rfl⟩
      rw [hLI] at hI n1 l1
      clear hLI
      obtain ⟨x, hx⟩ : ∃ x, key.data.toList.getD k 0 = x := ⟨_, rfl⟩
      rw [hx] at n1
      have x1 := xor8i x b
      obtain ⟨y, hy⟩ : ∃ y, x ^^^ b = y := ⟨_, rfl⟩
      rw [hy] at x1 n1
      have hyl := UInt8.toNat_lt y
      have hxl := UInt8.toNat_lt x
      have N1 := Lib.hid (show ∀ P : List UInt8 → Prop, P (LI ++ [y]) → P (Dg.mk b key.data.toList (k + 1)) from fun P h => by rw [n1]; exact h)
      have q1 : LI.length ≤ 64 := by omega
      clear n1 hy l1
      by_cases hin : k < key.size
      · have hxk : key[k] = x := by
          rw [← hx, List.getD_eq_getElem?_getD, List.getElem?_eq_getElem (by rw [← Lib.size_eq]; exact hin)]
          rfl
        clear hx
        go_wp2_with (at_builtin; refine wpList_append_bytes (by rfl) (.tmp 20) (.tmp 25) (by rfl) w.heap.size _ LI (by rfl) (hI.out.alloc _) ⟨wr.heap.size, 0, none⟩ 1 1 [y] (by rfl) rfl (cells_new wr (bv [y]) _) (by omega) (Nat.le_trans hB.out.size (by first | exact Nat.le_succ _ | simp)) ?_; intro u1 w3 ho1 hg1
                     have HI1 := Lib.hid (N1.out (fun t => BytesOf w3 w.heap.size u1 t) ho1)
                     have HB1 := Lib.hid (below_grown (below_alloc hB.out (Nat.le_refl _) _) (hI.out.alloc _) hg1 (Nat.le_refl _) (Nat.le_refl _))
                     clear ho1 hg1)
        go_roundw
        case rel => exact ⟨k + 1, u1, rfl, by go_num, by omega, HI1.out, HB1.out⟩
        case measure => simp [intOf]; omega
      · have hx0 : x = 0 := by
          rw [← hx, List.getD_eq_getElem?_getD, List.getElem?_eq_none (by rw [← Lib.size_eq]; omega)]
          rfl
        clear hx
        subst hx0
        change bits .xor .i64 0 (b.toNat : Int) = _ at x1
        go_wp2_with (at_builtin; refine wpList_append_bytes (by rfl) (.tmp 20) (.tmp 25) (by rfl) w.heap.size _ LI (by rfl) (hI.out.alloc _) ⟨wr.heap.size, 0, none⟩ 1 1 [y] (by rfl) rfl (cells_new wr (bv [y]) _) (by omega) (Nat.le_trans hB.out.size (by first | exact Nat.le_succ _ | simp)) ?_; intro u1 w3 ho1 hg1
                     have HI1 := Lib.hid (N1.out (fun t => BytesOf w3 w.heap.size u1 t) ho1)
                     have HB1 := Lib.hid (below_grown (below_alloc hB.out (Nat.le_refl _) _) (hI.out.alloc _) hg1 (Nat.le_refl _) (Nat.le_refl _))
                     clear ho1 hg1)
        go_roundw
        case rel => exact ⟨k + 1, u1, rfl, by go_num, by omega, HI1.out, HB1.out⟩
        case measure => simp [intOf]; omega
    · obtain rfl : k = 64 := by omega
      have hcv := hI.out.back
      go_wp2
      go_ret
      exact ⟨rfl, hB.out⟩
theorem rmixed_to (key : ByteArray) (hk0 : key.size ≤ 100000000) (b : UInt8) (v : Int) (hv : v = (b.toNat : Int)) (X : ByteArray) (hX : Dg.mk b key.data.toList 64 = X.data.toList) (w : World) :
    Calls Tryd.prog 70 #[.string key, .int .i64 v] w fun e w' => e = .returned (.string X) ∧ Below w.heap.size w w' := by
  subst hv
  exact (rmixed_any key hk0 b w).mono fun e w' ⟨h1, h2⟩ => ⟨by rw [h1, hX, str_back], h2⟩
/-- What the reference's Sum returns. -/
def RSum : Prop := ∀ (s : ByteArray) (_ : s.size ≤ 100000000) (w : World), Calls Tryd.prog 33 #[.string s] w fun e w' => e = .returned (.string ⟨(Dg.sha s.data.toList).toArray⟩) ∧ Below w.heap.size w w'
theorem rsum_to (RS : RSum) (s : ByteArray) (hs : s.size ≤ 100000000) (X : ByteArray) (hX : Dg.sha s.data.toList = X.data.toList) (w : World) :
    Calls Tryd.prog 33 #[.string s] w fun e w' => e = .returned (.string X) ∧ Below w.heap.size w w' :=
  (RS s hs w).mono fun e w' ⟨h1, h2⟩ => ⟨by rw [h1, hX, str_back], h2⟩
set_option maxHeartbeats 4000000 in
set_option maxRecDepth 100000 in
theorem rmac_short (RS : RSum) (key s M : ByteArray) (hk : key.size ≤ 64) (hs : s.size ≤ 10000000) (hM : Dg.mac key.data.toList s.data.toList = M.data.toList) (w : World) :
    Calls Tryd.prog 49 #[.string key, .string s] w fun e w' => e = .returned (.string M) ∧ Below w.heap.size w w' := by
  have hzk := Lib.size_eq key
  obtain ⟨IB, hIB⟩ : ∃ B : ByteArray, Dg.mk 54 key.data.toList 64 = B.data.toList := ⟨⟨(Dg.mk 54 key.data.toList 64).toArray⟩, rfl⟩
  obtain ⟨OB, hOB⟩ : ∃ B : ByteArray, Dg.mk 92 key.data.toList 64 = B.data.toList := ⟨⟨(Dg.mk 92 key.data.toList 64).toArray⟩, rfl⟩
  have z1 : IB.size = 64 := by rw [Lib.size_eq, ← hIB, Dg.mk_length]
  have z2 : OB.size = 64 := by rw [Lib.size_eq, ← hOB, Dg.mk_length]
  obtain ⟨DI, hDI⟩ : ∃ B : ByteArray, Dg.sha (IB ++ s).data.toList = B.data.toList := ⟨⟨(Dg.sha (IB ++ s).data.toList).toArray⟩, rfl⟩
  have z3 : DI.size = 32 := by rw [Lib.size_eq, ← hDI, Dg.sha_length]
  have C1 := Lib.hid (rmixed_to key (by omega) 54 54 rfl IB hIB)
  have C2 := Lib.hid (rsum_to RS (IB ++ s) (by rw [Lib.size_eq, bytes_append, List.length_append, ← Lib.size_eq, ← Lib.size_eq]; omega) DI hDI)
  have C3 := Lib.hid (rmixed_to key (by omega) 92 92 rfl OB hOB)
  have C4 := Lib.hid (rsum_to RS (OB ++ DI) (by rw [Lib.size_eq, bytes_append, List.length_append, ← Lib.size_eq, ← Lib.size_eq]; omega) M (by rw [bytes_append, ← hOB, ← hDI, bytes_append, ← hIB, ← hM]; exact Dg.mac_mk s.data.toList (by rw [← hzk]; exact hk)))
  have q1 : IB.size ≤ 64 := by omega
  have q2 : OB.size ≤ 64 := by omega
  have q3 : DI.size ≤ 32 := by omega
  clear hzk hIB hOB z1 z2 z3 hDI hM
  go_enter Tryd.func49, Tryd.ntmps49
  go_wp2_with fail
  refine (C1.out w).mono ?_
  rintro e w1 ⟨rfl, hb⟩
  have B1 := Lib.hid hb
  clear hb
  go_wp2_with fail
  refine (C2.out w1).mono ?_
  rintro e w2 ⟨rfl, hb⟩
  have B2 := Lib.hid (B1.out.trans (hb.mono B1.out.size))
  clear hb
  go_wp2_with fail
  refine (C3.out w2).mono ?_
  rintro e w3 ⟨rfl, hb⟩
  have B3 := Lib.hid (B2.out.trans (hb.mono B2.out.size))
  clear hb
  go_wp2_with fail
  refine (C4.out w3).mono ?_
  rintro e w4 ⟨rfl, hb⟩
  have B4 := Lib.hid (B3.out.trans (hb.mono B3.out.size))
  clear hb
  go_wp2
  go_ret
  exact ⟨rfl, B4.out⟩
end Go.Proofs.YtdleaipcogomfaaDoor
