/-
  The law WireNests, walked: encodings as the strings of a list, itself as a string, are read back one in the other.
-/
import Derived.Test.YthknahghmlfegaaDoorWBack
namespace Go.Proofs.YthknahghmlfegaaDoor
open Go Go.RowKit Go.Shelf

namespace Wr
theorem encText_le (s : List UInt8) (h : s.length ≤ 9223372036854775807) : (encText s).length ≤ s.length + 22 := by
  have := itoa_len (i64_nat h)
  unfold encText; simp only [List.length_append, List.length_cons, List.length_nil]; omega
theorem parts_len : ∀ X : List Vl, (flat X).length ≤ 9223372036854775807 → (((X.map encV).map encText).flatten).length ≤ (flat X).length + 22 * X.length
  | [], _ => by simp
  | x :: r, h => by
    rw [flat_cons, List.length_append] at h ⊢
    have h1 := parts_len r (by omega)
    have h2 := encText_le (encV x) (by omega)
    simp only [List.map_cons, List.flatten_cons, List.length_append, List.length_cons] at h1 ⊢
    omega
theorem part_le {X : List Vl} {x : Vl} (h : x ∈ X) : (encV x).length ≤ (flat X).length := by
  obtain ⟨a, b, rfl⟩ := List.append_of_mem h
  unfold flat
  simp only [List.map_append, List.map_cons, List.flatten_append, List.flatten_cons, List.length_append]
  omega
end Wr

theorem own_below {w w' : World} {base : Nat} {e : TypeId} {size : Nat} {v : Value} {n : Nat} {xs : List Value} (h : w.ownsRow base e size v n xs) (hb : Below w.heap.size w w') : w'.ownsRow base e size v n xs :=
  h.kept (row := none) ⟨hb.os, hb.tape, hb.output, hb.size, fun i hi _ => hb.block i hi⟩ (by cases v.ownBlock <;> simp)

set_option maxHeartbeats 4000000 in
set_option maxRecDepth 100000 in
theorem nests_few (a : Option Addr) (b off c : Nat) (X : List Wr.Vl) (W : World) (hE : Env W) (hX : RowVl W a b off X) (hm : X.length ≤ 9223372036854775807) (hf : Wr.fewB X = false) :
    Calls Tryd.prog 8 #[.slice a X.length c] W fun e w' => e = .returned (.bool true) ∧ Below W.heap.size W w' := by
  have HE := Lib.hid hE
  have HX := Lib.hid hX
  have HF := Lib.hid hf
  clear hE hX hf
  go_enter Tryd.func8, Tryd.ntmps8
  go_wp2_with fail
  refine (small_any W HE.out).mono ?_
  rintro e w1 ⟨rfl, hb⟩
  have HQ := Lib.hid (few_any a b off c X w1 (HX.out.below hb) hm)
  rw [HF.out] at HQ
  have HB := Lib.hid hb
  clear hb
  go_wp2_with fail
  refine HQ.out.mono ?_
  rintro e w2 ⟨rfl, n, rfl⟩
  go_wp2
  go_ret
  exact ⟨rfl, below_drewN HB.out _⟩

set_option maxHeartbeats 8000000 in
set_option maxRecDepth 100000 in
theorem nests_walk (a : Option Addr) (b off c : Nat) (X : List Wr.Vl) (W : World) (hE : Env W) (hX : RowVl W a b off X) (hf : Wr.fewB X = true) :
    Calls Tryd.prog 8 #[.slice a X.length c] W fun e w' => e = .returned (.bool true) ∧ Below W.heap.size W w' := by
  obtain ⟨hl, hlow⟩ := Wr.fewB_parts hf
  have hflat := Wr.flat_few hf hX.fits
  have hpl := Wr.parts_len X (by omega)
  obtain ⟨i0, hi, hz0, hz1, hz2⟩ := info_parts infoStr
  have HE := Lib.hid hE
  have HX := Lib.hid hX
  have HF := Lib.hid hf
  have HLow := Lib.hid hlow
  -- the parts, as one list
  obtain ⟨P, hP⟩ : ∃ P : List (List UInt8), X.map Wr.encV = P := ⟨_, rfl⟩
  have hPl : P.length = X.length := by rw [← hP, List.length_map]
  have hPt : (P.map Wr.encText).flatten.length ≤ 9680 := by rw [← hP]; omega
  obtain ⟨T, hT⟩ : ∃ T : ByteArray, (⟨(Wr.encList Wr.encText P).toArray⟩ : ByteArray) = T := ⟨_, rfl⟩
  have hTl : T.data.toList = Wr.encList Wr.encText P := by rw [← hT]
  have hTs : T.size ≤ 9702 := by
    have := Wr.itoa_len (Wr.i64_nat (show P.length ≤ 9223372036854775807 by omega))
    rw [Lib.size_eq, hTl]
    unfold Wr.encList; simp only [List.length_append, List.length_cons, List.length_nil]; omega
  obtain ⟨U, hU⟩ : ∃ U : ByteArray, (⟨(Wr.encText T.data.toList).toArray⟩ : ByteArray) = U := ⟨_, rfl⟩
  have hUl : U.data.toList = Wr.encText T.data.toList := by rw [← hU]
  have hUs : U.size ≤ 9724 := by
    have := Wr.encText_le T.data.toList (by rw [← Lib.size_eq]; omega)
    rw [Lib.size_eq, hUl]
    rw [← Lib.size_eq] at this
    omega
  have HP := Lib.hid hP
  have HPl := Lib.hid hPl
  have HPt := Lib.hid hPt
  have HT := Lib.hid hT
  have HTl := Lib.hid hTl
  have HU := Lib.hid hU
  have HUl := Lib.hid hUl
  clear hE hX hf hlow hpl hP hPl hPt hT hTl hU hUl
  go_enter Tryd.func8, Tryd.ntmps8
  go_wp2_with fail
  refine (small_any W HE.out).mono ?_
  rintro e w1 ⟨rfl, hb⟩
  have HQ := Lib.hid (few_any a b off c X w1 (HX.out.below hb) (by omega))
  rw [HF.out] at HQ
  have HB1 := Lib.hid hb
  clear hb
  go_wp2_with fail
  refine HQ.out.mono ?_
  rintro e w2 ⟨rfl, n, rfl⟩
  go_wp2_with fail
  go_loopw [4, 5] (fun v i wr => ∃ (k : Nat) (vv : Value), vv = v ∧ i = .int .i64 k ∧ k ≤ X.length ∧ wr.ownsRow W.heap.size 9 1 vv k ((P.take k).map encStr) ∧ Hid (Below W.heap.size W wr)) (fun _ i _ => X.length - (intOf i).toNat)
  case atStart => exact ⟨0, _, rfl, rfl, Nat.zero_le _, World.ownsRow_nil _ _ _ _, below_drewN HB1.out _⟩
  case round =>
    obtain ⟨k, v, rfl, rfl, hk, hown, hB⟩ := hrel
    by_cases hlt : k < X.length
    · obtain rfl := HX.out.at_ (by omega)
      obtain ⟨x, hx⟩ : ∃ x, X[k]? = some x := ⟨_, List.getElem?_eq_getElem hlt⟩
      have hxl := HLow.out x (List.mem_of_getElem? hx)
      obtain ⟨xa, ya, b1, o1, c1, b2, o2, c2, hfv, k0, k1, k2, k3, k4, _, _⟩ := rowVl_at HX.out hB.out hx
      have HW := Lib.hid (write_any x xa ya b1 o1 c1 b2 o2 c2 wr (HE.out.new hB.out) hfv hxl)
      unfold argV at HW
      have HN : Hid ((P.take (k + 1)).map encStr = (P.take k).map encStr ++ [encStr (Wr.encV x)]) := by
        show _ = _
        rw [List.take_add_one, List.map_append]
        have e : P[k]? = some (Wr.encV x) := by rw [← HP.out, List.getElem?_map, hx]; rfl
        rw [e]; rfl
      clear hfv hxl hx
      go_wp2_with fail
      refine HW.out.mono ?_
      rintro e w3 ⟨rfl, hb⟩
      have hown3 := own_below hown hb
      have hB3 := hB.out.trans (hb.mono hB.out.size)
      have hs3 := hB3.size
      have HB3 := Lib.hid hB3
      clear hb k0 k1 k2 k3 k4 hown hB3
      go_wp2_with (at_builtin; go_must (refine wpList_append_own _ rfl _ _ 23 rfl W.heap.size 9 i0 (.string ⟨#[]⟩) 1 16 Tryd.underlying23 hi hz0 hz1 hz2 rfl (by decide) _ _ _ rfl (hown3.alloc _) ⟨w3.heap.size, 0, none⟩ 1 1 [encStr (Wr.encV x)] rfl rfl ?c1 ?c2 ?c3 ?c4 ?c5 ?_))
      case c1 => exact cell_one_new _ _ _
      case c2 => simp [Value.oneCell']
      case c3 => unfold maxLen; omega
      case c4 => omega
      case c5 => simp; omega
      intro v' w4 hown' hgrow _
      have hB4 : Hid (Below W.heap.size W w4) := (HB3.out.alloc hs3 _).grown hgrow (by simp; omega) (fun k e => (hown3.lt k e).1)
      go_wp2
      go_roundw
      case rel => exact ⟨k + 1, _, rfl, by go_num, by omega, by rw [HN.out, List.map_take]; exact hown', hB4⟩
      case measure => simp [intOf]; omega
    · obtain rfl : k = X.length := by omega
      obtain ⟨za, zb, zc, rfl, hV, _⟩ := rowV_own hown
      have hPtk : P.take X.length = P := List.take_of_length_le (by have := HPl.out; omega)
      rw [hPtk] at hV
      have HV := Lib.hid hV
      clear hV hown hPtk
      have HW := Lib.hid (wtexts_any za zb 0 zc P wr HV.out (by have := HPl.out; omega) (by have := HPt.out; omega) (HE.out.new hB.out))
      rw [HPl.out, HT.out] at HW
      go_wp2_with fail
      refine HW.out.mono ?_
      rintro e w3 ⟨rfl, hb⟩
      have HB3 := Lib.hid (hB.out.trans (hb.mono hB.out.size))
      have HW2 := Lib.hid (wtext_any T (by omega) w3 (HE.out.new HB3.out))
      rw [HU.out] at HW2
      clear hb
      go_wp2_with fail
      refine HW2.out.mono ?_
      rintro e w4 ⟨rfl, hb⟩
      have HB4 := Lib.hid (HB3.out.trans (hb.mono HB3.out.size))
      clear hb
      go_wp2_with fail
      refine (open_any _ _).mono ?_
      rintro e w5 ⟨rfl, hR, hb⟩
      have HR5 := Lib.hid hR
      have HB5 := Lib.hid (HB4.out.trans (hb.mono HB4.out.size))
      have hg5 := HB4.out.size
      have HQ5 := Lib.hid (text_any w4.heap.size U false w5 hR (HE.out.new HB5.out) (by omega))
      have e5 : Wr.takeText U.data.toList = some (T.data.toList, []) := by
        have := Wr.takeText_enc (s := T.data.toList) (by rw [← Lib.size_eq]; omega) []
        rw [List.append_nil] at this
        rw [HUl.out]; exact this
      rw [e5] at HQ5
      simp only [Wr.vOf, Wr.rOf, Wr.bOf, Lib.mk_data] at HQ5
      clear hR hb e5
      go_wp2_with fail
      refine HQ5.out.mono ?_
      rintro e w6 ⟨rfl, hR, hG⟩
      have HR6 := Lib.hid hR
      have HB6 := Lib.hid (HB5.out.trans (Gr.below hG HB5.out.size hg5))
      clear hR hG
      go_wp2_with fail
      refine (open_any _ _).mono ?_
      rintro e w7 ⟨rfl, hR, hb⟩
      have HR7 := Lib.hid hR
      have HR67 := Lib.hid (HR6.out.below hb)
      have HB7 := Lib.hid (HB6.out.trans (hb.mono HB6.out.size))
      have hg7 := HB6.out.size
      clear hR hb
      go_wp2_with fail
      refine (done_any _ _ _ _ HR67.out).mono ?_
      rintro e w' ⟨rfl, rfl⟩
      have HQ7 := Lib.hid (texts_any w6.heap.size T false w7 HR7.out (fun h => by cases h) (HE.out.new HB7.out) (Nat.le_trans HE.out.size hg7) (by omega))
      have e7 : Wr.takeList Wr.takeText T.data.toList = some (P, []) := by
        have := Wr.takeList_enc (f := Wr.takeText) (enc := Wr.encText) (xs := P) (by have := HPl.out; omega) (fun y hy r => Wr.takeText_enc (by
          rw [← HP.out] at hy
          obtain ⟨z, hz, rfl⟩ := List.mem_map.1 hy
          have := Wr.part_le hz
          omega) r) []
        rw [List.append_nil] at this
        rw [HTl.out]; exact this
      rw [e7] at HQ7
      simp only [Wr.vOf, Wr.rOf, Wr.bOf] at HQ7
      rw [HPl.out] at HQ7
      clear e7
      go_wp2_with fail
      refine HQ7.out.mono ?_
      rintro e w8 ⟨vg, rfl, hown8, hR, hG⟩
      obtain ⟨ga, gb, gc, rfl, hV8, _⟩ := rowV_own hown8
      have HV8 := Lib.hid hV8
      have HR8 := Lib.hid hR
      have HB8 := Lib.hid (HB7.out.trans (Gr.below hG HB7.out.size hg7))
      clear hown8 hV8 hR hG
      go_wp2_with fail
      refine (done_any _ _ _ _ HR8.out).mono ?_
      rintro e w' ⟨rfl, rfl⟩
      go_wp2_with fail
      go_loopw [9] (fun i wr => ∃ k : Nat, i = .int .i64 k ∧ k ≤ X.length ∧ Hid (Below w8.heap.size w8 wr)) (fun i _ => X.length - (intOf i).toNat)
      case atStart => exact ⟨0, rfl, Nat.zero_le _, Below.refl _ _⟩
      case round =>
        obtain ⟨k, rfl, hk, hB9⟩ := hrel
        have hBW := Lib.hid (HB8.out.trans (hB9.out.mono HB8.out.size))
        have hg9 := hBW.out.size
        have hg98 := hB9.out.size
        by_cases hlt : k < X.length
        · obtain rfl := HX.out.at_ (by omega)
          obtain rfl := HV8.out.at_ (by rw [List.length_map, HPl.out]; omega)
          obtain ⟨x, hx⟩ : ∃ x, X[k]? = some x := ⟨_, List.getElem?_eq_getElem hlt⟩
          have hxm := List.mem_of_getElem? hx
          have hpe : P[k]? = some (Wr.encV x) := by rw [← HP.out, List.getElem?_map, hx]; rfl
          obtain ⟨y, hy⟩ : ∃ y : ByteArray, encStr (Wr.encV x) = .string y := ⟨_, rfl⟩
          have hyl : y.data.toList = Wr.encV x := by
            have : (⟨(Wr.encV x).toArray⟩ : ByteArray) = y := by injection hy
            rw [← this]
          have hys : y.size ≤ 9240 := by
            have := Wr.part_le hxm
            rw [Lib.size_eq, hyl]; omega
          have ky : wr.cell? ⟨gb, 0 + k, none⟩ = some (.string y) := by
            rw [← hy]
            exact (hB9.out.cell (p := ⟨gb, 0 + k, none⟩) (HV8.out.lt (by rw [List.length_map, HPl.out]; omega))).trans (HV8.out.cell k _ (by rw [List.getElem?_map, hpe]; rfl))
          rw [Nat.zero_add] at ky
          have HYl := Lib.hid hyl
          have HXk := Lib.hid hx
          clear hx hxm hpe hy hyl
          go_wp2_with fail
          refine (open_any _ _).mono ?_
          rintro e w9 ⟨rfl, hR, hb⟩
          have HR9 := Lib.hid hR
          have HB9 := Lib.hid (hBW.out.trans (hb.mono hg9))
          have HB89 := Lib.hid (hB9.out.trans (hb.mono hg98))
          obtain ⟨xa, ya, b1, o1, c1, b2, o2, c2, hfv, k0, k1, k2, k3, k4, hb1, hb2⟩ := rowVl_at HX.out HB9.out HXk.out
          have HW := Lib.hid (equal_any x xa ya b1 o1 c1 b2 o2 c2 w9 (HE.out.new HB9.out) hfv wr.heap.size y [] hR (Nat.le_trans HE.out.size hg9) (by omega) (by rw [HYl.out, List.append_nil]) (fun hp => by have := hb1 hp; omega) (fun hp => by have := hb2 hp; omega))
          unfold argV at HW
          clear hR hb hfv hb1 hb2
          go_wp2_with fail
          refine HW.out.mono ?_
          rintro e w10 ⟨rfl, hR, hG⟩
          have HR10 := Lib.hid hR
          have HB10 := Lib.hid (HB89.out.trans (Gr.below hG HB89.out.size hg98))
          clear hR hG k0 k1 k2 k3 k4
          go_wp2_with fail
          refine (done_any _ _ _ _ HR10.out).mono ?_
          rintro e w' ⟨rfl, rfl⟩
          go_wp2_with fail
          go_roundw
          case rel => exact ⟨k + 1, by go_num, by omega, HB10.out⟩
          case measure => simp [intOf]; omega
        · go_wp2
          go_ret
          exact ⟨rfl, hBW.out⟩

/-- The law WireNests, walked. -/
theorem nests_law (a : Option Addr) (b off c : Nat) (X : List Wr.Vl) (W : World) (hE : Env W) (hX : RowVl W a b off X) (hm : X.length ≤ 9223372036854775807) :
    Calls Tryd.prog 8 #[.slice a X.length c] W fun e w' => e = .returned (.bool true) ∧ Below W.heap.size W w' := by
  cases hf : Wr.fewB X with
  | false => exact nests_few a b off c X W hE hX hm hf
  | true => exact nests_walk a b off c X W hE hX hf
end Go.Proofs.YthknahghmlfegaaDoor
