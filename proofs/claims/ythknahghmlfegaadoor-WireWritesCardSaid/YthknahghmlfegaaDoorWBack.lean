/-
  The law WireBack, walked: a reader of the concatenated encodings returns the values in order, and leaves exactly what follows.
-/
import Derived.Test.YthknahghmlfegaaDoorWEq
namespace Go.Proofs.YthknahghmlfegaaDoor
open Go Go.RowKit Go.Shelf

namespace Wr
def flat (X : List Vl) : List UInt8 := (X.map encV).flatten
theorem flat_snoc (X : List Vl) (x : Vl) : flat (X ++ [x]) = flat X ++ encV x := by simp [flat]
theorem flat_cons (x : Vl) (X : List Vl) : flat (x :: X) = encV x ++ flat X := by simp [flat]
theorem flat_nil : flat [] = [] := rfl
theorem fewB_parts {X : List Vl} (h : fewB X = true) : X.length ≤ 20 ∧ ∀ x ∈ X, lowV x = true := by
  unfold fewB at h
  simp only [Bool.and_eq_true, decide_eq_true_eq, List.all_eq_true] at h
  exact ⟨h.1, h.2.1⟩
theorem fewB_weights {X : List Vl} (h : fewB X = true) : weights X ≤ 400 := by
  unfold fewB at h
  simp only [Bool.and_eq_true, decide_eq_true_eq] at h
  exact h.2.2
theorem texts_len2 : ∀ X : List (List UInt8), (∀ x ∈ X, x.length ≤ 400) → (X.map encText).flatten.length ≤ sumT X + 22 * X.length
  | [], _ => by simp
  | x :: r, h => by
    have h1 := texts_len2 r (fun y hy => h y (by simp [hy]))
    have h2 := encText_len (h x (by simp))
    simp only [sumT, List.map_cons, List.flatten_cons, List.length_append, List.length_cons, List.sum_cons] at h1 ⊢
    omega
theorem encV_w {x : Vl} (hf : Fit x) (h : lowV x = true) : (encV x).length ≤ 22 + 22 * weight x := by
  obtain ⟨h1, h2, h3, h4⟩ := lowV_parts h
  unfold encV weight
  split
  · unfold encNum encInt; have := itoa_len (numb_i64 hf.N).1; split <;> simp; omega
  · split
    · unfold encInt; have := itoa_len hf.N; simp; omega
    · split
      · have := encText_len h3; omega
      · split
        · have := encList_len (enc := encInt) x.L h1; have := ints_len x.L hf.ints; omega
        · have := encList_len (enc := encText) x.T h2; have := texts_len2 x.T h4; omega
theorem flat_w : ∀ X : List Vl, (∀ x ∈ X, Fit x ∧ lowV x = true) → (flat X).length ≤ 22 * X.length + 22 * weights X
  | [], _ => by simp [flat]
  | x :: r, h => by
    have h1 := flat_w r (fun y hy => h y (by simp [hy]))
    have h2 := encV_w (h x (by simp)).1 (h x (by simp)).2
    rw [flat_cons]
    simp only [weights, List.map_cons, List.length_append, List.length_cons, List.sum_cons] at h1 ⊢
    omega
theorem flat_split (X : List Vl) (k : Nat) : (flat X).length = (flat (X.take k)).length + (flat (X.drop k)).length := by
  unfold flat
  rw [← List.length_append, ← List.flatten_append, ← List.map_append, List.take_append_drop]
theorem flat_few {X : List Vl} (h : fewB X = true) (hf : ∀ x ∈ X, Fit x) : (flat X).length ≤ 9240 := by
  have h1 := flat_w X (fun x hx => ⟨hf x hx, (fewB_parts h).2 x hx⟩)
  have h2 := (fewB_parts h).1
  have h3 := fewB_weights h
  omega
end Wr
theorem RowVl.fits {W : World} {a : Option Addr} {b off : Nat} {X : List Wr.Vl} (h : RowVl W a b off X) : ∀ x ∈ X, Wr.Fit x := fun x hx => by
  obtain ⟨j, hj⟩ := List.getElem?_of_mem hx
  obtain ⟨_, _, _, _, _, _, _, _, hf, _⟩ := h.el j x hj
  exact hf.fit

/-- The cells of one value of a row, in a later world. -/
theorem rowVl_at {W wr : World} {a : Option Addr} {b off : Nat} {X : List Wr.Vl} (h : RowVl W a b off X) (hb : Below W.heap.size W wr) {k : Nat} {x : Wr.Vl} (hk : X[k]? = some x) :
    ∃ xa ya b1 o1 c1 b2 o2 c2, FV wr x xa ya b1 o1 b2 o2 ∧ wr.cell? ⟨b, off + k * 5, none⟩ = some (.int .i64 x.K) ∧ wr.cell? ⟨b, off + k * 5 + 1, none⟩ = some (.int .i64 x.N) ∧ wr.cell? ⟨b, off + k * 5 + 2, none⟩ = some (encStr x.S) ∧
      wr.cell? ⟨b, off + k * 5 + 3, none⟩ = some (.slice xa x.L.length c1) ∧ wr.cell? ⟨b, off + k * 5 + 4, none⟩ = some (.slice ya x.T.length c2) ∧ (0 < x.L.length → b1 < W.heap.size) ∧ (0 < x.T.length → b2 < W.heap.size) := by
  obtain ⟨xa, ya, b1, o1, c1, b2, o2, c2, hf, k0, k1, k2, k3, k4⟩ := (h.below hb).el k x hk
  obtain ⟨xa', ya', b1', o1', c1', b2', o2', c2', hf', _, _, _, k3', k4'⟩ := h.el k x hk
  have hp : 0 < X.length := by have := (List.getElem?_eq_some_iff.1 hk).1; omega
  have e3 := (hb.cell (p := ⟨b, off + k * 5 + 3, none⟩) (h.lt hp)).trans k3'
  have e4 := (hb.cell (p := ⟨b, off + k * 5 + 4, none⟩) (h.lt hp)).trans k4'
  rw [k3] at e3
  rw [k4] at e4
  injection e3 with e3
  injection e4 with e4
  injection e3 with e3 _ _
  injection e4 with e4 _ _
  refine ⟨xa, ya, b1, o1, c1, b2, o2, c2, hf, k0, k1, k2, k3, k4, fun hp => ?_, fun hp => ?_⟩
  · have h1 := hf.L.at_ (by rw [List.length_map]; exact hp)
    have h2 := hf'.L.at_ (by rw [List.length_map]; exact hp)
    rw [h1, h2] at e3
    injection e3 with e3
    injection e3 with e3 _
    rw [e3]; exact hf'.L.lt (by rw [List.length_map]; exact hp)
  · have h1 := hf.T.at_ (by rw [List.length_map]; exact hp)
    have h2 := hf'.T.at_ (by rw [List.length_map]; exact hp)
    rw [h1, h2] at e4
    injection e4 with e4
    injection e4 with e4 _
    rw [e4]; exact hf'.T.lt (by rw [List.length_map]; exact hp)

set_option maxHeartbeats 4000000 in
set_option maxRecDepth 100000 in
theorem back_few (a : Option Addr) (b off c : Nat) (X : List Wr.Vl) (tail : ByteArray) (W : World) (hE : Env W) (hX : RowVl W a b off X) (hm : X.length ≤ 9223372036854775807) (hf : Wr.fewB X = false) :
    Calls Tryd.prog 5 #[.slice a X.length c, .string tail] W fun e w' => e = .returned (.bool true) ∧ Below W.heap.size W w' := by
  have HE := Lib.hid hE
  have HX := Lib.hid hX
  have HF := Lib.hid hf
  clear hE hX hf
  go_enter Tryd.func5, Tryd.ntmps5
  go_wp2_with fail
  refine (small_any W HE.out).mono ?_
  rintro e w1 ⟨rfl, hb⟩
  have HQ := Lib.hid (few_any a b off c X w1 (HX.out.below hb) hm)
  rw [HF.out] at HQ
  have HB := Lib.hid hb
  clear hb
  go_wp2_with fail
  refine HQ.out.mono ?_
  rintro e w2 ⟨rfl, n, rfl⟩
  go_wp2
  go_ret
  exact ⟨rfl, below_drewN HB.out _⟩

set_option maxHeartbeats 4000000 in
set_option maxRecDepth 100000 in
theorem back_long (a : Option Addr) (b off c : Nat) (X : List Wr.Vl) (tail : ByteArray) (W : World) (hE : Env W) (hX : RowVl W a b off X) (hm : X.length ≤ 9223372036854775807) (hf : Wr.fewB X = true) (ht : 400 < tail.size) (htm : tail.size ≤ 9223372036854775807) :
    Calls Tryd.prog 5 #[.slice a X.length c, .string tail] W fun e w' => e = .returned (.bool true) ∧ Below W.heap.size W w' := by
  have HE := Lib.hid hE
  have HX := Lib.hid hX
  have HF := Lib.hid hf
  clear hE hX hf
  go_enter Tryd.func5, Tryd.ntmps5
  go_wp2_with fail
  refine (small_any W HE.out).mono ?_
  rintro e w1 ⟨rfl, hb⟩
  have HQ := Lib.hid (few_any a b off c X w1 (HX.out.below hb) hm)
  rw [HF.out] at HQ
  have HB := Lib.hid hb
  clear hb
  go_wp2_with fail
  refine HQ.out.mono ?_
  rintro e w2 ⟨rfl, n, rfl⟩
  go_wp2
  go_ret
  exact ⟨rfl, below_drewN HB.out _⟩

set_option maxHeartbeats 8000000 in
set_option maxRecDepth 100000 in
theorem back_walk (a : Option Addr) (b off c : Nat) (X : List Wr.Vl) (tail : ByteArray) (W : World) (hE : Env W) (hX : RowVl W a b off X) (hf : Wr.fewB X = true) (ht : tail.size ≤ 400) :
    Calls Tryd.prog 5 #[.slice a X.length c, .string tail] W fun e w' => e = .returned (.bool true) ∧ Below W.heap.size W w' := by
  obtain ⟨hl, hlow⟩ := Wr.fewB_parts hf
  have hflat := Wr.flat_few hf hX.fits
  have HE := Lib.hid hE
  have HX := Lib.hid hX
  have HF := Lib.hid hf
  have HLow := Lib.hid hlow
  clear hE hX hf hlow
  go_enter Tryd.func5, Tryd.ntmps5
  go_wp2_with fail
  refine (small_any W HE.out).mono ?_
  rintro e w1 ⟨rfl, hb⟩
  have HQ := Lib.hid (few_any a b off c X w1 (HX.out.below hb) (by omega))
  rw [HF.out] at HQ
  have HB1 := Lib.hid hb
  clear hb
  go_wp2_with fail
  refine HQ.out.mono ?_
  rintro e w2 ⟨rfl, n, rfl⟩
  go_wp2_with fail
  go_loopw [6, 7] (fun s i wr => ∃ (k : Nat) (S : ByteArray), s = .string S ∧ i = .int .i64 k ∧ k ≤ X.length ∧ Hid (S.data.toList = Wr.flat (X.take k)) ∧ S.size ≤ 9240 ∧ Hid (Below W.heap.size W wr)) (fun _ i _ => X.length - (intOf i).toNat)
  case atStart => exact ⟨0, ⟨#[]⟩, rfl, rfl, Nat.zero_le _, (show _ = _ by simp [Wr.flat]), Nat.zero_le _, below_drewN HB1.out _⟩
  case round =>
    obtain ⟨k, S, rfl, rfl, hk, hS, hSs, hB⟩ := hrel
    by_cases hlt : k < X.length
    · obtain rfl := HX.out.at_ (by omega)
      obtain ⟨x, hx⟩ : ∃ x, X[k]? = some x := ⟨_, List.getElem?_eq_getElem hlt⟩
      have hxl := HLow.out x (List.mem_of_getElem? hx)
      obtain ⟨xa, ya, b1, o1, c1, b2, o2, c2, hfv, k0, k1, k2, k3, k4, _, _⟩ := rowVl_at HX.out hB.out hx
      have hwl := Wr.encV_len hfv.fit hxl
      have HW := Lib.hid (write_any x xa ya b1 o1 c1 b2 o2 c2 wr (HE.out.new hB.out) hfv hxl)
      unfold argV at HW
      obtain ⟨V, hV⟩ : ∃ V : ByteArray, (⟨(Wr.encV x).toArray⟩ : ByteArray) = V := ⟨_, rfl⟩
      have hVs : V.size ≤ 170000 := by rw [← hV, Wr.bs_len]; exact hwl
      have hVl : V.data.toList = Wr.encV x := by rw [← hV]
      rw [hV] at HW
      have HVl := Lib.hid hVl
      have HXk := Lib.hid hx
      clear hV hVl hwl hfv hxl hx
      go_wp2_with fail
      refine HW.out.mono ?_
      rintro e w3 ⟨rfl, hb⟩
      have HB3 := Lib.hid (hB.out.trans (hb.mono hB.out.size))
      clear hb k0 k1 k2 k3 k4
      go_wp2_with fail
      go_roundw
      case rel => exact ⟨k + 1, S ++ V, rfl, by go_num, by omega, (show _ = _ by
          have hx := HXk.out
          rw [List.take_add_one, hx]
          show _ = Wr.flat (X.take k ++ [x])
          rw [Wr.flat_snoc, ← hS.out, ← HVl.out]; simp), by
            have h1 : (S ++ V).size = S.size + V.size := by simp
            have h2 : Wr.flat (X.take (k + 1)) = Wr.flat (X.take k) ++ Wr.encV x := by
              have hx := HXk.out
              rw [List.take_add_one, hx]
              exact Wr.flat_snoc _ _
            have h3 := Wr.flat_split X (k + 1)
            rw [h2, List.length_append, ← hS.out, ← HVl.out, ← Lib.size_eq, ← Lib.size_eq] at h3
            omega, HB3.out⟩
      case measure => simp [intOf]; omega
    · obtain rfl : k = X.length := by omega
      have hS2 := hS.out
      rw [List.take_length] at hS2
      have HS := Lib.hid hS2
      clear hS2 hS
      obtain ⟨wo, rfl⟩ : ∃ wo : World, wo = wr := ⟨_, rfl⟩
      go_wp2_with fail
      refine (open_any _ _).mono ?_
      rintro e w3 ⟨rfl, hR, hb⟩
      have HR := Lib.hid hR
      have HB3 := Lib.hid (hB.out.trans (hb.mono hB.out.size))
      have hgW := hB.out.size
      clear hR hb
      go_wp2_with fail
      go_loopw [9] (fun i wr => ∃ (k : Nat) (T : ByteArray), i = .int .i64 k ∧ k ≤ X.length ∧ Hid (T.data.toList = Wr.flat (X.drop k) ++ tail.data.toList) ∧ T.size ≤ 9640 ∧ Hid (Rd wr wo.heap.size T false) ∧ Hid (Below W.heap.size W wr)) (fun i _ => X.length - (intOf i).toNat)
      case atStart => exact ⟨0, S ++ tail, rfl, Nat.zero_le _, (show _ = _ by rw [List.drop_zero, ← HS.out]; simp), by
          have : (S ++ tail).size = S.size + tail.size := by simp
          omega, HR.out, HB3.out⟩
      case round =>
        obtain ⟨k, T, rfl, hk, hT, hTs, hR, hB⟩ := hrel
        by_cases hlt : k < X.length
        · obtain rfl := HX.out.at_ (by omega)
          obtain ⟨x, hx⟩ : ∃ x, X[k]? = some x := ⟨_, List.getElem?_eq_getElem hlt⟩
          obtain ⟨xa, ya, b1, o1, c1, b2, o2, c2, hfv, k0, k1, k2, k3, k4, hb1, hb2⟩ := rowVl_at HX.out hB.out hx
          have hdr : X.drop k = x :: X.drop (k + 1) := by
            rw [List.drop_eq_getElem_cons hlt]
            rw [List.getElem?_eq_getElem hlt] at hx
            injection hx with hx
            rw [hx]
          have hTT : T.data.toList = Wr.encV x ++ (Wr.flat (X.drop (k + 1)) ++ tail.data.toList) := by rw [hT.out, hdr, Wr.flat_cons, List.append_assoc]
          have hls : (Wr.flat (X.drop (k + 1)) ++ tail.data.toList).length ≤ T.size := by
            have h1 := congrArg List.length hTT
            rw [List.length_append, ← Lib.size_eq] at h1
            omega
          have HW := Lib.hid (equal_any x xa ya b1 o1 c1 b2 o2 c2 wr (HE.out.new hB.out) hfv wo.heap.size T _ hR.out (Nat.le_trans HE.out.size hgW) (by omega) hTT (fun hp => by have := hb1 hp; omega) (fun hp => by have := hb2 hp; omega))
          unfold argV at HW
          have HLs := Lib.hid hls
          clear hfv hx hb1 hb2 hdr hTT hls
          go_wp2_with fail
          refine HW.out.mono ?_
          rintro e w4 ⟨rfl, hR4, hG4⟩
          have HR4 := Lib.hid hR4
          have HB4 := Lib.hid (hB.out.trans (Gr.below hG4 hB.out.size hgW))
          clear hR4 hG4 k0 k1 k2 k3 k4
          go_wp2_with fail
          go_roundw
          case rel => exact ⟨k + 1, ⟨(Wr.flat (X.drop (k + 1)) ++ tail.data.toList).toArray⟩, by go_num, by omega, (show _ = _ from rfl), by rw [Wr.bs_len]; have := HLs.out; omega, HR4.out, HB4.out⟩
          case measure => simp [intOf]; omega
        · obtain rfl : k = X.length := by omega
          have hT2 := hT.out
          rw [List.drop_length, Wr.flat_nil, List.nil_append] at hT2
          have hTt : T = tail := by
            have h1 := Lib.mk_data T
            rw [hT2, Lib.mk_data] at h1
            exact h1.symm
          subst hTt
          clear hT2 hT
          go_wp2_with fail
          refine (left_any _ _ _ _ hR.out).mono ?_
          rintro e w' ⟨rfl, rfl⟩
          go_wp2_with fail
          refine (done_any _ _ _ _ hR.out).mono ?_
          rintro e w' ⟨rfl, rfl⟩
          go_wp2
          go_ret
          exact ⟨rfl, hB.out⟩

/-- The law WireBack, walked. -/
theorem back_law (a : Option Addr) (b off c : Nat) (X : List Wr.Vl) (tail : ByteArray) (W : World) (hE : Env W) (hX : RowVl W a b off X) (hm : X.length ≤ 9223372036854775807) (htm : tail.size ≤ 9223372036854775807) :
    Calls Tryd.prog 5 #[.slice a X.length c, .string tail] W fun e w' => e = .returned (.bool true) ∧ Below W.heap.size W w' := by
  cases hf : Wr.fewB X with
  | false => exact back_few a b off c X tail W hE hX hm hf
  | true =>
    by_cases ht : tail.size ≤ 400
    · exact back_walk a b off c X tail W hE hX hf ht
    · exact back_long a b off c X tail W hE hX hm hf (by omega) htm
end Go.Proofs.YthknahghmlfegaaDoor
