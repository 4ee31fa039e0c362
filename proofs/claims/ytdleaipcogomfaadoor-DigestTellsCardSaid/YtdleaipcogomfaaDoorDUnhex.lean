/-
  Unhex.
-/
import Derived.Test.YtdleaipcogomfaaDoorDOwn
namespace Go.Proofs.YtdleaipcogomfaaDoor
open Go Go.RowKit Go.Shelf
namespace Dg
def hexI (c : UInt8) : Int := match hexV c with | some n => (n : Int) | none => -1
theorem hexI_index (c : UInt8) : Lib.indexByte [48, 49, 50, 51, 52, 53, 54, 55, 56, 57, 97, 98, 99, 100, 101, 102] c = hexI c := by
  have H : ∀ k : Fin 256, Lib.indexByte [48, 49, 50, 51, 52, 53, 54, 55, 56, 57, 97, 98, 99, 100, 101, 102] (UInt8.ofNat k.val) = hexI (UInt8.ofNat k.val) := by decide +kernel
  have := H ⟨c.toNat, UInt8.toNat_lt c⟩
  simpa using this
theorem nib_or (x y : Nat) (hx : x < 16) (hy : y < 16) : bits .or .i64 ((x : Int) * 16) (y : Int) = ((UInt8.ofNat (16 * x + y)).toNat : Int) := by
  have H : ∀ x y : Fin 16, bits .or .i64 ((x.val : Int) * 16) (y.val : Int) = ((UInt8.ofNat (16 * x.val + y.val)).toNat : Int) := by decide +kernel
  exact H ⟨x, hx⟩ ⟨y, hy⟩
theorem unhex_cons (a b : UInt8) (r : List UInt8) : unhex (a :: b :: r) = match hexV a, hexV b with
    | some x, some y => (unhex r).map (UInt8.ofNat (16 * x + y) :: ·)
    | _, _ => none := by
  conv => lhs; unfold unhex
  rfl
/-- The rest is still to be read. -/
theorem unhex_step {l L : List UInt8} {k : Nat} {a b : UInt8} (h : unhex l = (unhex (l.drop (2 * k))).map (L ++ ·)) (hd : l.drop (2 * k) = a :: b :: l.drop (2 * (k + 1))) :
    (∀ x y, hexV a = some x → hexV b = some y → unhex l = (unhex (l.drop (2 * (k + 1)))).map ((L ++ [UInt8.ofNat (16 * x + y)]) ++ ·)) ∧ (hexV a = none ∨ hexV b = none → unhex l = none) := by
  rw [hd, unhex_cons] at h
  refine ⟨fun x y hx hy => ?_, fun hn => ?_⟩
  · rw [hx, hy] at h
    simp only at h
    rw [h, Option.map_map]
    congr 1
    funext t
    simp
  · rcases hn with hn | hn
    · rw [hn] at h
      simpa using h
    · rw [hn] at h
      cases hexV a <;> simpa using h
theorem drop_two {l : List UInt8} {k : Nat} (h : 2 * k + 1 < l.length) : l.drop (2 * k) = l[2 * k] :: l[2 * k + 1] :: l.drop (2 * (k + 1)) := by
  rw [List.drop_eq_getElem_cons (by omega), List.drop_eq_getElem_cons (i := 2 * k + 1) (by omega)]
  rfl
end Dg
theorem hexIdx_call (c : UInt8) (n : Nat) (w : World) :
    Calls Tryd.prog 63 #[.string ⟨#[48, 49, 50, 51, 52, 53, 54, 55, 56, 57, 97, 98, 99, 100, 101, 102]⟩, .int .u8 (c.toNat : Int)] (w.drewN n) fun e w' => e = .returned (.int .i64 (Dg.hexI c)) ∧ ∃ m, w' = w.drewN m :=
  (indexByte_any ⟨#[48, 49, 50, 51, 52, 53, 54, 55, 56, 57, 97, 98, 99, 100, 101, 102]⟩ (c.toNat : Int) (w.drewN n)).mono fun e w' ⟨h1, h2⟩ => ⟨by rw [h1, ← Dg.hexI_index]; simp, n, h2.symm⟩
theorem ret_pair {a b : ByteArray} {x y : Bool} (h : a = b) (hx : x = y) : Ending.returned (.tuple #[.string a, .bool x]) = .returned (.tuple #[.string b, .bool y]) := by rw [h, hx]
set_option maxHeartbeats 4000000 in
set_option maxRecDepth 100000 in
theorem unhex_any (s : ByteArray) (hs : s.size ≤ 100000000) (w : World) :
    Calls Tryd.prog 35 #[.string s] w fun e w' => e = .returned (.tuple #[.string ⟨((Dg.unhex s.data.toList).getD []).toArray⟩, .bool (Dg.unhex s.data.toList).isSome]) ∧ Below w.heap.size w w' := by
  obtain ⟨i0, hi, hz0, hz1, hz2⟩ := info_parts infoU
  have hz := Lib.hid (Lib.size_eq s)
  by_cases hodd : s.size % 2 = 1
  · have hn := Dg.unhex_odd s.data.toList (by rw [← hz.out]; exact hodd)
    rw [hn]
    have b1 : ((s.size : Int) % 2) = 1 := by omega
    clear hn
    go_enter Tryd.func35, Tryd.ntmps35
    go_wp2
    go_ret2
    exact ⟨rfl, Below.refl _ _⟩
  · obtain ⟨n, hn⟩ : ∃ n, s.size = 2 * n := ⟨s.size / 2, by omega⟩
    have b1 : ((s.size : Int) % 2) = 0 := by omega
    have b2 : ((s.size : Int) / 2) = (n : Int) := by omega
    have b3 : n ≤ 50000000 := by omega
    have HNN := Lib.hid hn
    clear hn hodd
    obtain ⟨U, hU⟩ : ∃ U, Dg.unhex s.data.toList = U := ⟨_, rfl⟩
    have HU := Lib.hid (show ∀ P : Option (List UInt8) → Prop, (P (Dg.unhex s.data.toList) ↔ P U) from fun P => by rw [hU])
    rw [hU]
    clear hU
    go_enter Tryd.func35, Tryd.ntmps35
    go_wp2_with (at_make; refine wpList_make_own _ rfl _ _ 51 rfl w.heap.size 5 i0 (.int .u8 0) 1 Tryd.underlying51 hi hz0 hz1 .i64 .i64 _ n rfl rfl (by omega) (by rw [hz2]; omega) (by unfold maxLen; omega) (Nat.le_refl _) ?_; intro w1 hown hgrow; have HO := Lib.hid hown; have HB := Lib.hid (below_none (Below.refl w.heap.size w) hgrow (Nat.le_refl _)); clear hown hgrow)
    go_loopw [4, 5] (fun v i wr => ∃ (j k : Nat) (vv : Value) (L : List UInt8), vv = v ∧ i = .int .i64 j ∧ Hid (j = 2 * k) ∧ k ≤ n ∧ L.length = k ∧ Hid (Dg.unhex s.data.toList = (Dg.unhex (s.data.toList.drop (2 * k))).map (L ++ ·)) ∧ Hid (BytesOf wr w.heap.size vv L) ∧ Hid (Below w.heap.size w wr)) (fun _ i _ => s.size - (intOf i).toNat)
    case atStart => exact ⟨0, 0, _, [], rfl, rfl, rfl, by omega, rfl, (by first | exact trivial | (show _ = _; simp)), HO.out, HB.out⟩
    case round =>
      clear HO HB
      obtain ⟨j, k, v, L, rfl, rfl, hj, hk, hL, hinv, hown, hB⟩ := hrel
      have hN1 : s.size ≤ 2 * n := by have := HNN.out; omega
      have hN2 : 2 * n ≤ s.size := by have := HNN.out; omega
      have hj1 : j ≤ 2 * k := Nat.le_of_eq hj.out
      have hj2 : 2 * k ≤ j := Nat.le_of_eq hj.out.symm
      by_cases hlt : k < n
      · obtain ⟨a, ha⟩ : ∃ c, s[j] = c := ⟨_, rfl⟩
        obtain ⟨b, hb⟩ : ∃ c, s[j + 1] = c := ⟨_, rfl⟩
        have hd : s.data.toList.drop (2 * k) = a :: b :: s.data.toList.drop (2 * (k + 1)) := by
          rw [Dg.drop_two (by rw [← hz.out]; omega), ← ha, ← hb]
          have := hj.out
          subst this
          rfl
        obtain ⟨hstep, hbad⟩ := Dg.unhex_step hinv.out (a := a) (b := b) hd
        clear hd hinv
        have HS := Lib.hid hstep
        have HBad := Lib.hid hbad
        clear hstep hbad
        have e1 : IntKind.i64.wrap ((j : Int) + 1) = ((j + 1 : Nat) : Int) := by rw [IntWalk.i64_in _ (by omega)]; omega
        have al := UInt8.toNat_lt a
        have bl := UInt8.toNat_lt b
        go_wp2_with fail
        go_quiet (first | (go_at_call 63; exact hexIdx_call _ _ _))
        cases hxa : Dg.hexV a with
        | none =>
          have e0 : Dg.hexI a = -1 := by unfold Dg.hexI; rw [hxa]
          rw [e0]
          have hUn : U = none := (HU.out (fun u => u = none)).1 (HBad.out (.inl hxa))
          have HB2 := Lib.hid (below_drewN hB.out)
          clear HS HBad e0
          go_wp2
          go_ret2
          rw [hUn]
          exact ⟨rfl, HB2.out _⟩
        | some x =>
          cases hxb : Dg.hexV b with
          | none =>
            have e9 : Dg.hexI a = (x : Int) := by unfold Dg.hexI; rw [hxa]
            rw [e9]
            clear e9
            have e0 : Dg.hexI b = -1 := by unfold Dg.hexI; rw [hxb]
            rw [e0]
            have hUn : U = none := (HU.out (fun u => u = none)).1 (HBad.out (.inr hxb))
            have HB2 := Lib.hid (below_drewN hB.out)
            clear HS HBad e0
            go_wp2
            go_ret2
            rw [hUn]
            exact ⟨rfl, HB2.out _⟩
          | some y =>
            have e9 : Dg.hexI a = (x : Int) := by unfold Dg.hexI; rw [hxa]
            have e8 : Dg.hexI b = (y : Int) := by unfold Dg.hexI; rw [hxb]
            rw [e9, e8]
            have hx := (Dg.hexV_some hxa).1
            have hy := (Dg.hexV_some hxb).1
            have hor := Dg.nib_or x y hx hy
            have hnx := HS.out x y hxa hxb
            obtain ⟨z, hzb⟩ : ∃ z, UInt8.ofNat (16 * x + y) = z := ⟨_, rfl⟩
            rw [hzb] at hor hnx
            have HN := Lib.hid hnx
            have hzl := UInt8.toNat_lt z
            clear hzb hnx HS HBad e9 e8 hxa hxb
            generalize hw2 : wr.drewN _ = w2
            have hown2 : Hid (BytesOf w2 w.heap.size v L) := by rw [← hw2]; exact hown.out
            have hB2 : Hid (Below w.heap.size w w2) := by rw [← hw2]; exact below_drewN hB.out _
            clear hw2 hown hB
            go_wp2_with (at_builtin; go_must (refine wpList_append_bytes (by rfl) _ _ (by rfl) w.heap.size _ L (by rfl) (hown2.out.alloc _) ⟨w2.heap.size, 0, none⟩ 1 1 [z] (by rfl) rfl (cells_new w2 (bv [z]) _) (by omega) (Nat.le_trans hB2.out.size (by first | exact Nat.le_succ _ | simp)) ?_); intro v1 w3 hown3 hgrow; have HO3 := Lib.hid hown3; have HB3 := Lib.hid (below_grown (below_alloc hB2.out (Nat.le_refl _) _) (hown2.out.alloc _) hgrow (Nat.le_refl _) (Nat.le_refl _)); clear hown3 hgrow)
            go_roundw
            case rel => exact ⟨j + 2, k + 1, v1, L ++ [z], rfl, by go_num, (by show _ = _; rw [hj.out]; omega), by omega, by rw [List.length_append, hL]; rfl, HN.out, HO3.out, HB3.out⟩
            case measure => simp [intOf]; omega
      · obtain rfl : k = n := by omega
        have hinv' := hinv.out
        rw [List.drop_of_length_le (by rw [← hz.out]; omega)] at hinv'
        have hUs : U = some L := (HU.out (fun u => u = some L)).1 (by rw [hinv']; simp [Dg.unhex])
        have hcv := hown.out.back
        have b4 : ¬ ((j : Int) < (s.size : Int)) := by omega
        clear hinv hinv'
        go_wp2
        go_ret2
        exact ⟨rfl, hB.out⟩
end Go.Proofs.YtdleaipcogomfaaDoor
