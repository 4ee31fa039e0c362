/-
  DigestKeys's law: a key of 64 bytes.
-/
import Derived.Test.YtdiolhhfbllfeaaDoorDKeysP
namespace Go.Proofs.YtdiolhhfbllfeaaDoor
open Go Go.RowKit Go.Shelf
set_option maxHeartbeats 8000000 in
set_option maxRecDepth 100000 in
theorem keys_B (key s : ByteArray) (_h1 : ¬ 2000 < key.size) (h2 : ¬ 2000 < s.size) (h65 : key.size = 64) (w : World) (hE : Env w) :
    Calls Tryd.prog 9 #[.string key, .string s] w fun e w' => e = .returned (.bool true) ∧ Below w.heap.size w w' := by
  have HE := Lib.hid hE
  have HS := Lib.hid (small_any w hE)
  clear hE
  have hzk := Lib.size_eq key
  have hzs := Lib.size_eq s
  obtain ⟨M, hM⟩ : ∃ X : ByteArray, Dg.mac key.data.toList s.data.toList = X.data.toList := ⟨⟨(Dg.mac key.data.toList s.data.toList).toArray⟩, rfl⟩
  have hMs : M.size = 32 := by rw [Lib.size_eq, ← hM]; exact Dg.sha_length _
  have C1 := Lib.hid (mac_to key s (by omega) (by omega) M hM)
  obtain ⟨kl, hkl⟩ : ∃ l, key.data.toList = l := ⟨_, rfl⟩
  clear hkl kl
  have hq32 : M.size = 32 := hMs
  clear hMs hzk hzs
  go_enter Tryd.func9, Tryd.ntmps9
  go_wp2_with fail
  refine HS.out.mono ?_
  rintro e w0 ⟨rfl, hb⟩
  have B0 := Lib.hid hb
  clear hb
  go_wp2_with fail
  refine (C1.out w0 (HE.out.new B0.out)).mono ?_
  rintro e w1 ⟨rfl, hb⟩
  have B1 := Lib.hid (B0.out.trans (hb.mono B0.out.size))
  clear hb
  go_wp2_with fail
  have hbs := B1.out.size
  go_loopw [7, 8, 9] (fun vi vo i wr => ∃ (k : Nat) (v1 v2 : Value), v1 = vi ∧ v2 = vo ∧ i = .int .i64 k ∧ k ≤ 64 ∧ Hid (BytesOf wr w.heap.size v1 (Dg.mk 54 key.data.toList k)) ∧ Hid (BytesOf wr w.heap.size v2 (Dg.mk 92 key.data.toList k)) ∧ Hid (Apart v1 v2) ∧ Hid (Below w.heap.size w wr)) (fun _ _ i _ => 64 - (intOf i).toNat)
  case atStart => exact ⟨0, _, _, rfl, rfl, rfl, by omega, World.ownsRow_nil _ _ _ _, World.ownsRow_nil _ _ _ _, (fun g h => by cases h), B1.out⟩
  case round =>
    clear B1 hbs
    obtain ⟨k, v1, v2, rfl, rfl, rfl, hk, hI, hO, hA, hB⟩ := hrel
    by_cases hlt : k < 64
    · have n1 := Dg.mk_next 54 key.data.toList k
      have n2 := Dg.mk_next 92 key.data.toList k
      have l1 := Dg.mk_length 54 key.data.toList k
      have l2 := Dg.mk_length 92 key.data.toList k
      obtain ⟨LI, hLI⟩ : ∃ L, Dg.mk 54 key.data.toList k = L := ⟨_, rfl⟩
      obtain ⟨LO, hLO⟩ : ∃ L, Dg.mk 92 key.data.toList k = L := ⟨_, rfl⟩
      rw [hLI] at hI n1 l1
      rw [hLO] at hO n2 l2
      clear hLI hLO
      obtain ⟨x, hx⟩ : ∃ x, key.data.toList.getD k 0 = x := ⟨_, rfl⟩
      rw [hx] at n1 n2
      have x1 := Dg.xor54 x
      have x2 := Dg.xor92 x
      obtain ⟨y1, hy1⟩ : ∃ y, x ^^^ 54 = y := ⟨_, rfl⟩
      obtain ⟨y2, hy2⟩ : ∃ y, x ^^^ 92 = y := ⟨_, rfl⟩
      rw [hy1] at x1 n1
      rw [hy2] at x2 n2
      have N1 := Lib.hid (show ∀ P : List UInt8 → Prop, P (LI ++ [y1]) → P (Dg.mk 54 key.data.toList (k + 1)) from fun P h => by rw [n1]; exact h)
      have N2 := Lib.hid (show ∀ P : List UInt8 → Prop, P (LO ++ [y2]) → P (Dg.mk 92 key.data.toList (k + 1)) from fun P h => by rw [n2]; exact h)
      have q1 : LI.length ≤ 64 := by omega
      have q2 : LO.length ≤ 64 := by omega
      clear n1 n2 hy1 hy2 l1 l2
      by_cases hin : k < key.size
      · have hxk : key[k] = x := by
          rw [← hx, List.getD_eq_getElem?_getD, List.getElem?_eq_getElem (by rw [← Lib.size_eq]; exact hin)]
          rfl
        clear hx
        go_wp2_with (first
          | (at_builtin; refine wpList_append_bytes_at (by rfl) (.tmp 64) (.tmp 67) (by rfl) w.heap.size _ LI (by rfl) (hI.out.alloc _) ⟨wr.heap.size, 0, none⟩ 1 1 [y1] (by rfl) rfl (cells_new wr (bv [y1]) _) (by omega) (Nat.le_trans hB.out.size (by first | exact Nat.le_succ _ | simp)) ?_; intro u1 w3 ho1 hg1 ha1
             have HI1 := Lib.hid ho1
             have HO1 := Lib.hid (BytesOf.kept (hO.out.alloc _) hg1 hA.out)
             have HA1 := Lib.hid (Apart.next hA.out ha1 (fun g hg => Nat.lt_of_lt_of_le (hO.out.ltBlock g hg) (by first | exact Nat.le_succ _ | simp)))
             have HB1 := Lib.hid (below_grown (below_alloc hB.out (Nat.le_refl _) _) (hI.out.alloc _) hg1 (Nat.le_refl _) (Nat.le_refl _))
             clear ho1 hg1 ha1)
          | (at_builtin; refine wpList_append_bytes_at (by rfl) (.tmp 69) (.tmp 72) (by rfl) w.heap.size _ LO (by rfl) (HO1.out.alloc _) ⟨w3.heap.size, 0, none⟩ 1 1 [y2] (by rfl) rfl (cells_new w3 (bv [y2]) _) (by omega) (Nat.le_trans HB1.out.size (by first | exact Nat.le_succ _ | simp)) ?_; intro u2 w4 ho2 hg2 ha2
             have HO2 := Lib.hid (N2.out (fun t => BytesOf w4 w.heap.size u2 t) ho2)
             have HI2 := Lib.hid (N1.out (fun t => BytesOf w4 w.heap.size u1 t) (BytesOf.kept (HI1.out.alloc _) hg2 HA1.out.symm))
             have HA2 := Lib.hid (Apart.symm (Apart.next HA1.out.symm ha2 (fun g hg => Nat.lt_of_lt_of_le (HI1.out.ltBlock g hg) (by first | exact Nat.le_succ _ | simp))))
             have HB2 := Lib.hid (below_grown (below_alloc HB1.out (Nat.le_refl _) _) (HO1.out.alloc _) hg2 (Nat.le_refl _) (Nat.le_refl _))
             clear ho2 hg2 ha2))
        go_roundw
        case rel => exact ⟨k + 1, u1, u2, rfl, rfl, by go_num, by omega, HI2.out, HO2.out, HA2.out, HB2.out⟩
        case measure => simp [intOf]; omega
      · exact absurd hin (by omega)
    · obtain rfl : k = 64 := by omega
      have hcO := fun (w' : World) (hb : Below wr.heap.size wr w') => (hO.out.below hb).back
      have hcI := fun (w' : World) (hb : Below wr.heap.size wr w') => (hI.out.below hb).back
      have hmk := Dg.mac_mk (k := key.data.toList) s.data.toList (by rw [← Lib.size_eq]; omega)
      have l1 := Dg.mk_length 54 key.data.toList 64
      have l2 := Dg.mk_length 92 key.data.toList 64
      obtain ⟨LI, hLI⟩ : ∃ L, Dg.mk 54 key.data.toList 64 = L := ⟨_, rfl⟩
      obtain ⟨LO, hLO⟩ : ∃ L, Dg.mk 92 key.data.toList 64 = L := ⟨_, rfl⟩
      rw [hLI] at hcI hmk l1
      rw [hLO] at hcO hmk l2
      clear hLI hLO hI hO hA
      obtain ⟨OB, hOB⟩ : ∃ B : ByteArray, (⟨LO.toArray⟩ : ByteArray) = B := ⟨_, rfl⟩
      obtain ⟨IB, hIB⟩ : ∃ B : ByteArray, (⟨LI.toArray⟩ : ByteArray) = B := ⟨_, rfl⟩
      have lO : OB.data.toList = LO := by rw [← hOB]
      have lI : IB.data.toList = LI := by rw [← hIB]
      rw [hOB] at hcO
      rw [hIB] at hcI
      have z1 : IB.size = 64 := by rw [Lib.size_eq, lI, l1]
      have z2 : OB.size = 64 := by rw [Lib.size_eq, lO, l2]
      obtain ⟨DI, hDI⟩ : ∃ B : ByteArray, Dg.sha (IB ++ s).data.toList = B.data.toList := ⟨⟨(Dg.sha (IB ++ s).data.toList).toArray⟩, rfl⟩
      have z3 : DI.size = 32 := by rw [Lib.size_eq, ← hDI, Dg.sha_length]
      have S1 := Lib.hid (sum_to (IB ++ s) (by rw [Lib.size_eq, bytes_append, List.length_append, ← Lib.size_eq, ← Lib.size_eq]; omega) DI hDI wr.drew (HE.out.new (below_drew (hB.out.mono (Nat.le_refl _)))))
      have S2 := Lib.hid (fun (w5 : World) (hb : Below wr.heap.size wr w5) => sum_to (OB ++ DI) (by rw [Lib.size_eq, bytes_append, List.length_append, ← Lib.size_eq, ← Lib.size_eq]; omega) M (by rw [bytes_append, lO, ← hDI, bytes_append, lI, ← hM]; exact hmk) w5 (HE.out.new (hB.out.trans (hb.mono hB.out.size))))
      have HC2 : Hid (∀ w', Below wr.heap.size wr w' → (convert 31 9 v2).run Tryd.prog w' = .ok (.string OB) w' ∧ (convert 31 9 v1).run Tryd.prog w' = .ok (.string IB) w') := fun w' hb => ⟨hcO w' hb, hcI w' hb⟩
      have q1 : IB.size ≤ 64 := by omega
      have q2 : OB.size ≤ 64 := by omega
      have q3 : DI.size ≤ 32 := by omega
      have hadd1 := fun w' : World => run_string_add_sum (P := Tryd.prog) (w := w') IB s (by omega)
      have hadd2 := fun w' : World => run_string_add_sum (P := Tryd.prog) (w := w') OB DI (by omega)
      clear hOB hIB lO lI hDI hmk l1 l2 hcO hcI z1 z2 z3
      go_wp2_with fail
      go_region_held3 (fun w' => (convert 31 9 v2).run Tryd.prog w' = .ok (.string OB) w' ∧ (convert 31 9 v1).run Tryd.prog w' = .ok (.string IB) w') (first | exact HC2.out _ (below_drew (Below.refl _ _)) | exact HC2.out _ hB7 | exact HC2.out _ hB5) ((go_at_call 15; first | (refine (S2.out _ hB5).mono ?_; rintro e w6 ⟨rfl, hB6⟩; have hB7 := hB5.trans (hB6.mono hB5.size)) | (refine S1.out.mono ?_; rintro e w5 ⟨rfl, hB4⟩; have hB5 := (below_drew (Below.refl wr.heap.size wr)).trans hB4)))
      all_goals
        have HB9 := Lib.hid (hB.out.trans (hB7.mono hB.out.size))
        clear hB4 hB5 hB6 hB7
        go_wp2
        go_ret
        exact ⟨rfl, HB9.out⟩
end Go.Proofs.YtdiolhhfbllfeaaDoor
