/-
  The reference's Clash, where two different strings have the same digest.
-/
import Derived.Test.YteiabaddmclmlaaDoorMApp
import Derived.Test.YteiabaddmclmlaaDoorDRsum
namespace Go.Proofs.YteiabaddmclmlaaDoor
open Go Go.RowKit Go.Shelf
namespace Mk
def NoClash (L : List B) (k : Nat) : Prop := ∀ i j, i < j → j < k → Dg.sha (L.getD i []) = Dg.sha (L.getD j []) → L.getD i [] = L.getD j []
def NoMate (L : List B) (k j : Nat) : Prop := ∀ i, i < j → Dg.sha (L.getD i []) = Dg.sha (L.getD k []) → L.getD i [] = L.getD k []
theorem NoClash.next {L : List B} {k : Nat} (h : NoClash L k) (h2 : NoMate L k k) : NoClash L (k + 1) := fun i j hij hj he => by
  rcases Nat.lt_succ_iff_lt_or_eq.1 hj with h1 | rfl
  · exact h i j hij h1 he
  · exact h2 i hij he
theorem NoMate.next {L : List B} {k j : Nat} (h : NoMate L k j) (h2 : ¬ (Dg.sha (L.getD j []) = Dg.sha (L.getD k []) ∧ L.getD j [] ≠ L.getD k [])) : NoMate L k (j + 1) := fun i hi he => by
  rcases Nat.lt_succ_iff_lt_or_eq.1 hi with h1 | rfl
  · exact h i h1 he
  · exact Classical.byContradiction fun hne => h2 ⟨he, hne⟩
theorem getD_of {L : List B} {i : Nat} (h : i < L.length) : L.getD i [] = L[i] := by rw [List.getD_eq_getElem?_getD, List.getElem?_eq_getElem h]; rfl
theorem not_clashes {L : List B} (h : NoClash L L.length) : ¬ Clashes L := by
  rintro ⟨a, ha, b, hb, hne, he⟩
  obtain ⟨i, hi, rfl⟩ := List.getElem_of_mem ha
  obtain ⟨j, hj, rfl⟩ := List.getElem_of_mem hb
  rcases Nat.lt_trichotomy i j with h1 | rfl | h1
  · exact hne (by have := h i j h1 hj (by rw [getD_of hi, getD_of hj]; exact he); rwa [getD_of hi, getD_of hj] at this)
  · exact hne rfl
  · exact hne (by have := h j i h1 hi (by rw [getD_of hi, getD_of hj]; exact he.symm); rw [getD_of hi, getD_of hj] at this; exact this.symm)
end Mk
theorem sha_cell {L : List (List UInt8)} {k j : Nat} (hj : j < k) (hk : k ≤ L.length) : ((L.take k).map Dg.sha).getD j [] = Dg.sha (L.getD j []) := by
  simp only [List.getD_eq_getElem?_getD, List.getElem?_map, List.getElem?_take_of_lt hj]
  rw [List.getElem?_eq_getElem (by omega)]
  rfl
set_option maxHeartbeats 8000000 in
set_option maxRecDepth 100000 in
theorem rclash_any (L : List (List UInt8)) (n : Nat) (hn : L.length = n) (hN : n ≤ 1000000) (hX : ∀ x ∈ L, x.length ≤ 1000) (hC : Mk.Clashes L) (xa : Option Addr) (b off cap : Nat) (w : World) (hL : Lv w xa b off cap L) :
    Calls Tryd.prog 47 #[.slice xa n cap] w fun e w' => e = .returned (.bool true) ∧ Below w.heap.size w w' := by
  have HL := Lib.hid hL
  have HN := Lib.hid hn
  have HX := Lib.hid hX
  have HC := Lib.hid hC
  clear hL hn hX hC
  go_enter Tryd.func47, Tryd.ntmps47
  go_wp2
  go_loopw [3, 4] (fun o i wr => ∃ (k : Nat) (v : Value), o = v ∧ i = .int .i64 k ∧ k ≤ n ∧ Hid (Mk.NoClash L k) ∧ Hid (SOwn wr w.heap.size v ((L.take k).map Dg.sha)) ∧ Hid (Below w.heap.size w wr)) (fun _ i _ => n - (intOf i).toNat)
  case atStart => exact ⟨0, _, rfl, rfl, Nat.zero_le _, Lib.hid (fun i j _ hj => absurd hj (by omega)), Lib.hid (SOwn.nil _ _), Lib.hid (Below.refl _ _)⟩
  case round =>
    obtain ⟨k, v, rfl, rfl, hk, hNC, hO, hB⟩ := hrel
    by_cases hlt : k < n
    case neg =>
      obtain rfl : k = n := by omega
      exact absurd HC.out (Mk.not_clashes (by rw [HN.out]; exact hNC.out))
    obtain rfl := HL.out.at_ (by rw [HN.out]; omega)
    have c := (HL.out.below hB.out).cell k (by rw [HN.out]; omega)
    obtain ⟨s, hs⟩ : ∃ s, encStr (L.getD k []) = .string s := ⟨_, rfl⟩
    rw [hs] at c
    obtain ⟨hs1, hz⟩ := encStr_size hs
    have hg : L.getD k [] ∈ L := by rw [Mk.getD_of (by rw [HN.out]; omega)]; exact List.getElem_mem _
    have hsz : s.size ≤ 1000 := by rw [hz]; exact HX.out _ hg
    obtain ⟨R, hR⟩ : ∃ R : ByteArray, Dg.sha s.data.toList = R.data.toList := ⟨⟨(Dg.sha s.data.toList).toArray⟩, rfl⟩
    have S := Lib.hid (rsum_to rsum s (by omega) R hR wr)
    have HT := Lib.hid (show ∀ T : List (List UInt8) → Prop, T ((L.take k).map Dg.sha ++ [R.data.toList]) → T ((L.take (k + 1)).map Dg.sha) from fun T h => by
      rw [List.take_add_one, List.map_append, show L[k]?.toList = [L.getD k []] from by rw [List.getD_eq_getElem?_getD, List.getElem?_eq_getElem (by rw [HN.out]; omega)]; rfl]
      rw [List.map_cons, List.map_nil, hs1, hR]; exact h)
    have hRk : Dg.sha (L.getD k []) = R.data.toList := by rw [hs1, hR]
    have HRK := Lib.hid hRk
    have HSK := Lib.hid hs1
    have HES := Lib.hid hs
    obtain ⟨P, hP⟩ : ∃ P, (L.take k).map Dg.sha = P := ⟨_, rfl⟩
    have hPl : P.length ≤ 1000000 := by rw [← hP]; simp; omega
    rw [hP] at hO HT
    clear hs hs1 hz hg hsz hR hP hRk
    go_wp2_with fail
    refine S.out.mono ?_
    rintro _ w1 ⟨rfl, hb1⟩
    have B1 := Lib.hid (hB.out.trans (hb1.mono hB.out.size))
    have O1 := Lib.hid (hO.out.below hb1)
    clear hb1 S c
    go_wp2_with (at_builtin; go_must (refine wpList_append_strs (by rfl) _ _ (by rfl) w.heap.size _ P (by rfl) (O1.out.alloc _) ⟨w1.heap.size, 0, none⟩ 1 1 [R.data.toList] (by rfl) rfl (cells_new w1 (sv [R.data.toList]) _) (by omega) (Nat.le_trans B1.out.size (by first | exact Nat.le_succ _ | simp)) ?_); intro v1 w3 hown3 hgrow; have HO3 := Lib.hid (HT.out (fun t => SOwn w3 w.heap.size v1 t) hown3); have HB3 := Lib.hid (below_grown (below_alloc B1.out (Nat.le_refl _) _) (O1.out.alloc _) hgrow (Nat.le_refl _) (Nat.le_refl _)); clear hown3 hgrow)
    have hlen : ((L.take (k + 1)).map Dg.sha).length = k + 1 := by rw [List.length_map, List.length_take, HN.out]; omega
    obtain ⟨q, hq⟩ : ∃ q, k + 1 = q := ⟨_, rfl⟩
    rw [hq] at hlen
    have hrow := HO3.out.row
    rw [hq, hlen] at hrow
    obtain ⟨ya, yb, yc, rfl, hlv⟩ := hrow
    have HV := Lib.hid hlv
    have HQ := Lib.hid hq
    have hqk : k < q := by omega
    have hqn : q ≤ n := by omega
    have HLEN := Lib.hid hlen
    obtain rfl := hlv.at_ (by omega)
    have HK2 := Lib.hid (show (L.take (k + 1)).map Dg.sha = (L.take q).map Dg.sha by rw [hq])
    clear hlv hlen hq
    go_loopw [5] (fun j wr => ∃ i : Nat, j = .int .i64 i ∧ i ≤ k ∧ Hid (Mk.NoMate L k i) ∧ Hid (∃ d, wr = w3.drewN d)) (fun j _ => k - (intOf j).toNat)
    case atStart => exact ⟨0, rfl, Nat.zero_le _, Lib.hid (fun i hi => absurd hi (by omega)), Lib.hid ⟨0, rfl⟩⟩
    case round =>
      obtain ⟨i, rfl, hi, hM, hD⟩ := hrel
      by_cases hik : i < k
      · obtain ⟨D, hDD⟩ : ∃ D : ByteArray, Dg.sha (L.getD i []) = D.data.toList := ⟨⟨(Dg.sha (L.getD i [])).toArray⟩, rfl⟩
        obtain ⟨u, hu⟩ : ∃ s, encStr (L.getD i []) = .string s := ⟨_, rfl⟩
        have c1 : wr.cell? ⟨yb, i, none⟩ = some (.string D) := by
          obtain ⟨d, rfl⟩ := hD.out
          have := HV.out.cell i (by rw [HLEN.out]; omega)
          rw [Nat.zero_add, sha_cell (by have := HQ.out; omega) (by rw [HN.out]; omega), hDD, encStr_to rfl] at this
          exact this
        have c2 : wr.cell? ⟨yb, k, none⟩ = some (.string R) := by
          obtain ⟨d, rfl⟩ := hD.out
          have := HV.out.cell k (by rw [HLEN.out]; omega)
          rw [Nat.zero_add, sha_cell (by have := HQ.out; omega) (by rw [HN.out]; omega), HRK.out, encStr_to rfl] at this
          exact this
        have c3 : wr.cell? ⟨b, off + i, none⟩ = some (.string u) := by
          obtain ⟨d, rfl⟩ := hD.out
          have := (HL.out.below HB3.out).cell i (by rw [HN.out]; omega)
          rw [hu] at this
          exact this
        have c4 : wr.cell? ⟨b, off + k, none⟩ = some (.string s) := by
          obtain ⟨d, rfl⟩ := hD.out
          have := (HL.out.below HB3.out).cell k (by rw [HN.out]; omega)
          rw [HES.out] at this
          exact this
        have hu1 := (encStr_size hu).1
        have k1 := strEq' D R
        have k2 := strEq' u s
        have i1 : i < q := by omega
        have i2 : i < n := by omega
        by_cases g1 : D.data.toList = R.data.toList
        · have q1 : (D.toList == R.toList) = true := by rw [k1]; simpa using g1
          by_cases g2 : u.data.toList = s.data.toList
          · have q2 : (u.toList == s.toList) = true := by rw [k2]; simpa using g2
            have q3 : (u.toList != s.toList) = false := by rw [bne, q2]; rfl
            have HM2 := Lib.hid (hM.out.next (fun h => h.2 (by rw [hu1, HSK.out, g2])))
            clear hDD hu hu1 k1 k2 g1 g2
            go_wp2
            go_quiet (fail)
            go_wp2
            go_roundw
            case rel => exact ⟨i + 1, by go_num, by omega, HM2, Lib.hid (drews_more hD.out _)⟩
            case measure => simp [intOf]; omega
          · have q2 : (u.toList == s.toList) = false := by rw [k2]; simpa using g2
            have q3 : (u.toList != s.toList) = true := by rw [bne, q2]; rfl
            clear hDD hu hu1 k1 k2 g1 g2
            go_wp2
            go_quiet (fail)
            go_wp2
            go_ret
            exact ⟨rfl, by obtain ⟨d, rfl⟩ := hD.out; exact below_drewN (below_drewN HB3.out _) _⟩
        · have q1 : (D.toList == R.toList) = false := by rw [k1]; simpa using g1
          have HM2 := Lib.hid (hM.out.next (fun h => g1 (by rw [← hDD, h.1, HRK.out])))
          clear hDD hu hu1 k1 k2 g1
          go_wp2
          go_quiet (fail)
          go_wp2
          go_roundw
          case rel => exact ⟨i + 1, by go_num, by omega, HM2, Lib.hid (drews_more hD.out _)⟩
          case measure => simp [intOf]; omega
      · obtain rfl : i = k := by omega
        have HNC2 := Lib.hid (hNC.out.next hM.out)
        have HO4 : Hid (SOwn wr w.heap.size (.slice (some ⟨yb, 0, none⟩) q yc) ((L.take (i + 1)).map Dg.sha)) := by
          obtain ⟨d, rfl⟩ := hD.out
          exact Lib.hid (HO3.out.drews d)
        have HB4 : Hid (Below w.heap.size w wr) := by
          obtain ⟨d, rfl⟩ := hD.out
          exact Lib.hid (below_drewN HB3.out d)
        go_wp2
        go_roundw
        case rel => exact ⟨i + 1, _, rfl, by go_num, by omega, HNC2, HO4, HB4⟩
        case measure => simp [intOf]; omega
end Go.Proofs.YteiabaddmclmlaaDoor
