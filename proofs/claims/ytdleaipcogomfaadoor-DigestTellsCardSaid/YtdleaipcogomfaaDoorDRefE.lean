/-
  The reference's Mac of any key; its Short.
-/
import Derived.Test.YtdleaipcogomfaaDoorDRefD
namespace Go.Proofs.YtdleaipcogomfaaDoor
open Go Go.RowKit Go.Shelf
set_option maxHeartbeats 4000000 in
set_option maxRecDepth 100000 in
theorem rmac_long (RS : RSum) (key s M : ByteArray) (h64 : 64 < key.size) (hk0 : key.size ≤ 10000000) (hs : s.size ≤ 10000000) (hM0 : Dg.mac key.data.toList s.data.toList = M.data.toList) (w : World) :
    Calls Tryd.prog 49 #[.string key, .string s] w fun e w' => e = .returned (.string M) ∧ Below w.heap.size w w' := by
  obtain ⟨KD, hKD⟩ : ∃ X : ByteArray, Dg.sha key.data.toList = X.data.toList := ⟨⟨(Dg.sha key.data.toList).toArray⟩, rfl⟩
  have hKs : KD.size = 32 := by rw [Lib.size_eq, ← hKD]; exact Dg.sha_length _
  have hk : KD.size ≤ 64 := by omega
  have C0 := Lib.hid (rsum_to RS key (by omega) KD hKD)
  have hM : Dg.mac KD.data.toList s.data.toList = M.data.toList := by rw [← hKD, ← hM0]; exact Dg.mac_sha _ (by rw [← Lib.size_eq]; exact h64)
  clear hKD hKs hM0
  have hzk := Lib.size_eq KD
  obtain ⟨IB, hIB⟩ : ∃ B : ByteArray, Dg.mk 54 KD.data.toList 64 = B.data.toList := ⟨⟨(Dg.mk 54 KD.data.toList 64).toArray⟩, rfl⟩
  obtain ⟨OB, hOB⟩ : ∃ B : ByteArray, Dg.mk 92 KD.data.toList 64 = B.data.toList := ⟨⟨(Dg.mk 92 KD.data.toList 64).toArray⟩, rfl⟩
  have z1 : IB.size = 64 := by rw [Lib.size_eq, ← hIB, Dg.mk_length]
  have z2 : OB.size = 64 := by rw [Lib.size_eq, ← hOB, Dg.mk_length]
  obtain ⟨DI, hDI⟩ : ∃ B : ByteArray, Dg.sha (IB ++ s).data.toList = B.data.toList := ⟨⟨(Dg.sha (IB ++ s).data.toList).toArray⟩, rfl⟩
  have z3 : DI.size = 32 := by rw [Lib.size_eq, ← hDI, Dg.sha_length]
  have C1 := Lib.hid (rmixed_to KD (by omega) 54 54 rfl IB hIB)
  have C2 := Lib.hid (rsum_to RS (IB ++ s) (by rw [Lib.size_eq, bytes_append, List.length_append, ← Lib.size_eq, ← Lib.size_eq]; omega) DI hDI)
  have C3 := Lib.hid (rmixed_to KD (by omega) 92 92 rfl OB hOB)
  have C4 := Lib.hid (rsum_to RS (OB ++ DI) (by rw [Lib.size_eq, bytes_append, List.length_append, ← Lib.size_eq, ← Lib.size_eq]; omega) M (by rw [bytes_append, ← hOB, ← hDI, bytes_append, ← hIB, ← hM]; exact Dg.mac_mk s.data.toList (by rw [← hzk]; exact hk)))
  have q1 : IB.size ≤ 64 := by omega
  have q2 : OB.size ≤ 64 := by omega
  have q3 : DI.size ≤ 32 := by omega
  clear hzk hIB hOB z1 z2 z3 hDI hM
  go_enter Tryd.func49, Tryd.ntmps49
  go_wp2_with fail
  refine (C0.out w).mono ?_
  rintro e w0 ⟨rfl, hb⟩
  have B0 := Lib.hid hb
  clear hb
  go_wp2_with fail
  refine (C1.out w0).mono ?_
  rintro e w1 ⟨rfl, hb⟩
  have B1 := Lib.hid (B0.out.trans (hb.mono B0.out.size))
  clear hb
  go_wp2_with fail
  refine (C2.out w1).mono ?_
  rintro e w2 ⟨rfl, hb⟩
  have B2 := Lib.hid (B1.out.trans (hb.mono B1.out.size))
  clear hb
  go_wp2_with fail
  refine (C3.out w2).mono ?_
  rintro e w3 ⟨rfl, hb⟩
  have B3 := Lib.hid (B2.out.trans (hb.mono B2.out.size))
  clear hb
  go_wp2_with fail
  refine (C4.out w3).mono ?_
  rintro e w4 ⟨rfl, hb⟩
  have B4 := Lib.hid (B3.out.trans (hb.mono B3.out.size))
  clear hb
  go_wp2
  go_ret
  exact ⟨rfl, B4.out⟩
theorem rmac_any (RS : RSum) (key s M : ByteArray) (hk : key.size ≤ 10000000) (hs : s.size ≤ 10000000) (hM : Dg.mac key.data.toList s.data.toList = M.data.toList) (w : World) :
    Calls Tryd.prog 49 #[.string key, .string s] w fun e w' => e = .returned (.string M) ∧ Below w.heap.size w w' := by
  by_cases h : 64 < key.size
  · exact rmac_long RS key s M h hk hs hM w
  · exact rmac_short RS key s M (by omega) hs hM w
theorem short_parts (l : List UInt8) : Dg.numK l 8 / 16 = Dg.numK l 7 * 16 + (l.getD 7 0).toNat / 16 := by
  have h : Dg.numK l 8 = Dg.numK l 7 * 256 + (l.getD 7 0).toNat := rfl
  rw [h]
  omega
set_option maxHeartbeats 4000000 in
set_option maxRecDepth 100000 in
theorem rshort_any (RS : RSum) (s : ByteArray) (hs : s.size ≤ 100000000) (w : World) :
    Calls Tryd.prog 41 #[.string s] w fun e w' => e = .returned (.int .i64 (Dg.short s.data.toList : Nat)) ∧ Below w.heap.size w w' := by
  obtain ⟨D, hD⟩ : ∃ X : ByteArray, Dg.sha s.data.toList = X.data.toList := ⟨⟨(Dg.sha s.data.toList).toArray⟩, rfl⟩
  have HS := Lib.hid (rsum_to RS s hs D hD w)
  have hsz : D.size = 32 := by rw [Lib.size_eq, ← hD]; exact Dg.sha_length _
  have hF : Dg.short s.data.toList = Dg.numK D.data.toList 7 * 16 + (D.data.toList.getD 7 0).toNat / 16 := by
    unfold Dg.short
    rw [hD, short_parts]
  obtain ⟨R, hR⟩ : ∃ R, Dg.short s.data.toList = R := ⟨_, rfl⟩
  rw [hR] at hF ⊢
  have HF := Lib.hid hF
  have hsz1 : 32 ≤ D.size := by omega
  clear hD hsz hF hR
  go_enter Tryd.func41, Tryd.ntmps41
  go_wp2_with fail
  refine HS.out.mono ?_
  rintro e w1 ⟨rfl, hb⟩
  have HB := Lib.hid hb
  clear hb HS
  go_wp2_with fail
  go_loopw [4, 5] (fun v i wr => ∃ k : Nat, i = .int .i64 k ∧ k ≤ 7 ∧ v = .int .i64 (Dg.numK D.data.toList k : Nat) ∧ wr = w1) (fun _ i _ => 7 - (intOf i).toNat)
  case atStart => exact ⟨0, rfl, by omega, rfl, rfl⟩
  case round =>
    obtain ⟨k, rfl, hk, rfl, rfl⟩ := hrel
    have hb := Dg.numK_lt D.data.toList k
    have hp : 256 ^ k ≤ 256 ^ 7 := Nat.pow_le_pow_right (by omega) (by omega)
    by_cases hlt : k < 7
    · have hN : Dg.numK D.data.toList (k + 1) = Dg.numK D.data.toList k * 256 + (D.data.toList.getD k 0).toNat := rfl
      have hp6 : 256 ^ k ≤ 256 ^ 6 := Nat.pow_le_pow_right (by omega) (by omega)
      obtain ⟨c, hc⟩ : ∃ c, D[k] = c := ⟨_, rfl⟩
      have hc2 : D.data.toList.getD k 0 = c := by
        have hsz2 := Lib.size_eq D
        rw [← hc, List.getD_eq_getElem?_getD, List.getElem?_eq_getElem (by omega)]
        rfl
      rw [hc2] at hN
      obtain ⟨n, hn⟩ : ∃ n, Dg.numK D.data.toList k = n := ⟨_, rfl⟩
      rw [hn] at hN hb ⊢
      have hn7 : n < 281474976710656 := Nat.lt_of_lt_of_le hb hp6
      have HN := Lib.hid (show ∀ P : Nat → Prop, P (n * 256 + c.toNat) → P (Dg.numK D.data.toList (k + 1)) from fun P h => by rw [hN]; exact h)
      have hcl := UInt8.toNat_lt c
      clear hn hN hb hp hc2 hp6
      go_wp2
      go_roundw
      case rel => exact ⟨k + 1, by go_num, by omega, HN.out (fun x => Value.int IntKind.i64 _ = Value.int IntKind.i64 (x : Int)) (by first | rfl | (congr 1) | go_num), by first | rfl | trivial⟩
      case measure => simp [intOf]; omega
    · obtain rfl : k = 7 := by omega
      obtain ⟨c, hc⟩ : ∃ c, D[7] = c := ⟨_, rfl⟩
      have hc2 : D.data.toList.getD 7 0 = c := by
        have hsz2 := Lib.size_eq D
        rw [← hc, List.getD_eq_getElem?_getD, List.getElem?_eq_getElem (by omega)]
        rfl
      have HF' := HF.out
      rw [hc2] at HF'
      obtain ⟨n, hn⟩ : ∃ n, Dg.numK D.data.toList 7 = n := ⟨_, rfl⟩
      rw [hn] at HF' hb ⊢
      have hn7 : n < 72057594037927936 := Nat.lt_of_lt_of_le hb hp
      have hcl := UInt8.toNat_lt c
      have HG := Lib.hid HF'
      clear HF' HF hb hp hn hc2
      go_wp2
      go_ret
      refine ⟨?_, HB.out⟩
      rw [HG.out]
      exact ret_int (by omega)
end Go.Proofs.YtdleaipcogomfaaDoor
