/-
  The reference's Unhex.
-/
import Derived.Test.YtdleaipcogomfaaDoorDRefB
namespace Go.Proofs.YtdleaipcogomfaaDoor
open Go Go.RowKit Go.Shelf
set_option maxHeartbeats 4000000 in
set_option maxRecDepth 100000 in
theorem runhex_any (s : ByteArray) (hs : s.size ≤ 100000000) (w : World) :
    Calls Tryd.prog 36 #[.string s] w fun e w' => e = .returned (.tuple #[.string ⟨((Dg.unhex s.data.toList).getD []).toArray⟩, .bool (Dg.unhex s.data.toList).isSome]) ∧ Below w.heap.size w w' := by
  have hz := Lib.hid (Lib.size_eq s)
  by_cases hodd : s.size % 2 = 1
  · have hn := Dg.unhex_odd s.data.toList (by rw [← hz.out]; exact hodd)
    rw [hn]
    have b1 : ((s.size : Int) % 2) = 1 := by omega
    clear hn
    go_enter Tryd.func36, Tryd.ntmps36
    go_wp2
    go_ret2
    exact ⟨rfl, Below.refl _ _⟩
  · obtain ⟨n, hn⟩ : ∃ n, s.size = 2 * n := ⟨s.size / 2, by omega⟩
    have b1 : ((s.size : Int) % 2) = 0 := by omega
    have b2 : ((s.size : Int) / 2) = (n : Int) := by omega
    have b3 : n ≤ 50000000 := by omega
    have HNN := Lib.hid hn
    clear hn hodd
    obtain ⟨U, hU⟩ : ∃ U, Dg.unhex s.data.toList = U := ⟨_, rfl⟩
    have HU := Lib.hid (show ∀ P : Option (List UInt8) → Prop, (P (Dg.unhex s.data.toList) ↔ P U) from fun P => by rw [hU])
    rw [hU]
    clear hU
    go_enter Tryd.func36, Tryd.ntmps36
    go_wp2_with fail
    clear b1 b2
    go_loopw [4, 5] (fun v i wr => ∃ (j k : Nat) (vv : Value) (L : List UInt8), vv = v ∧ i = .int .i64 j ∧ Hid (j = 2 * k) ∧ k ≤ n ∧ L.length = k ∧ Hid (Dg.unhex s.data.toList = (Dg.unhex (s.data.toList.drop (2 * k))).map (L ++ ·)) ∧ Hid (BytesOf wr w.heap.size vv L) ∧ Hid (Below w.heap.size w wr)) (fun _ i _ => s.size - (intOf i).toNat)
    case atStart => exact ⟨0, 0, _, [], rfl, rfl, rfl, by omega, rfl, (by first | exact trivial | (show _ = _; simp)), World.ownsRow_nil _ _ _ _, Below.refl _ _⟩
    case round =>
      obtain ⟨j, k, v, L, rfl, rfl, hj, hk, hL, hinv, hown, hB⟩ := hrel
      have hN1 : s.size ≤ 2 * n := by have := HNN.out; omega
      have hN2 : 2 * n ≤ s.size := by have := HNN.out; omega
      have hj1 : j ≤ 2 * k := Nat.le_of_eq hj.out
      have hj2 : 2 * k ≤ j := Nat.le_of_eq hj.out.symm
      by_cases hlt : k < n
      · obtain ⟨a, ha⟩ : ∃ c, s[j] = c := ⟨_, rfl⟩
        obtain ⟨b, hb⟩ : ∃ c, s[j + 1] = c := ⟨_, rfl⟩
        have hd : s.data.toList.drop (2 * k) = a :: b :: s.data.toList.drop (2 * (k + 1)) := by
          rw [Dg.drop_two (by rw [← hz.out]; omega), ← ha, ← hb]
          have := hj.out
          subst this
          rfl
        obtain ⟨hstep, hbad⟩ := Dg.unhex_step hinv.out (a := a) (b := b) hd
        clear hd hinv
        have HS := Lib.hid hstep
        have HBad := Lib.hid hbad
        clear hstep hbad
        have e1 : IntKind.i64.wrap ((j : Int) + 1) = ((j + 1 : Nat) : Int) := by rw [IntWalk.i64_in _ (by omega)]; omega
        have al := UInt8.toNat_lt a
        have bl := UInt8.toNat_lt b
        go_wp2_with fail
        refine (rvalue_any a _).mono ?_
        rintro e w5 ⟨rfl, rfl⟩
        go_wp2_with fail
        refine (rvalue_any b _).mono ?_
        rintro e w5 ⟨rfl, rfl⟩
        cases hxa : Dg.hexV a with
        | none =>
          have e0 : Dg.hexI a = -1 := by unfold Dg.hexI; rw [hxa]
          rw [e0]
          have hUn : U = none := (HU.out (fun u => u = none)).1 (HBad.out (.inl hxa))
          have HB2 := hB
          clear HS HBad e0
          go_wp2
          go_ret2
          rw [hUn]
          exact ⟨rfl, HB2.out⟩
        | some x =>
          cases hxb : Dg.hexV b with
          | none =>
            have e9 : Dg.hexI a = (x : Int) := by unfold Dg.hexI; rw [hxa]
            rw [e9]
            clear e9
            have e0 : Dg.hexI b = -1 := by unfold Dg.hexI; rw [hxb]
            rw [e0]
            have hUn : U = none := (HU.out (fun u => u = none)).1 (HBad.out (.inr hxb))
            have HB2 := hB
            clear HS HBad e0
            go_wp2
            go_ret2
            rw [hUn]
            exact ⟨rfl, HB2.out⟩
          | some y =>
            have e9 : Dg.hexI a = (x : Int) := by unfold Dg.hexI; rw [hxa]
            have e8 : Dg.hexI b = (y : Int) := by unfold Dg.hexI; rw [hxb]
            rw [e9, e8]
            have hx := (Dg.hexV_some hxa).1
            have hy := (Dg.hexV_some hxb).1
            have hor : (16 * (x : Int) + (y : Int)) = ((UInt8.ofNat (16 * x + y)).toNat : Int) := by rw [UInt8.toNat_ofNat']; omega
            have hnx := HS.out x y hxa hxb
            obtain ⟨z, hzb⟩ : ∃ z, UInt8.ofNat (16 * x + y) = z := ⟨_, rfl⟩
            rw [hzb] at hor hnx
            have HN := Lib.hid hnx
            have hzl := UInt8.toNat_lt z
            clear hzb hnx HS HBad e9 e8 hxa hxb
            have hown2 := hown
            have hB2 := hB
            go_wp2_with (at_builtin; go_must (refine wpList_append_bytes (by rfl) _ _ (by rfl) w.heap.size _ L (by rfl) (hown2.out.alloc _) ⟨wr.heap.size, 0, none⟩ 1 1 [z] (by rfl) rfl (cells_new wr (bv [z]) _) (by omega) (Nat.le_trans hB2.out.size (by first | exact Nat.le_succ _ | simp)) ?_); intro v1 w3 hown3 hgrow; have HO3 := Lib.hid hown3; have HB3 := Lib.hid (below_grown (below_alloc hB2.out (Nat.le_refl _) _) (hown2.out.alloc _) hgrow (Nat.le_refl _) (Nat.le_refl _)); clear hown3 hgrow)
            go_roundw
            case rel => exact ⟨j + 2, k + 1, v1, L ++ [z], rfl, by go_num, (by show _ = _; rw [hj.out]; omega), by omega, by rw [List.length_append, hL]; rfl, HN.out, HO3.out, HB3.out⟩
            case measure => simp [intOf]; omega
      · obtain rfl : k = n := by omega
        have hinv' := hinv.out
        rw [List.drop_of_length_le (by rw [← hz.out]; omega)] at hinv'
        have hUs : U = some L := (HU.out (fun u => u = some L)).1 (by rw [hinv']; simp [Dg.unhex])
        have hcv := hown.out.back
        have b4 : ¬ ((j : Int) < (s.size : Int)) := by omega
        clear hinv hinv'
        go_wp2
        go_ret2
        exact ⟨rfl, hB.out⟩
end Go.Proofs.YtdleaipcogomfaaDoor
