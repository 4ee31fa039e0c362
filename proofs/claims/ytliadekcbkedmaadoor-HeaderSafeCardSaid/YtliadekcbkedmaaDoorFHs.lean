/-
  HeaderSafe.
-/
import Derived.Test.YtliadekcbkedmaaDoorFFw
import Derived.Test.YtliadekcbkedmaaDoorFWs
namespace Go.Proofs.YtliadekcbkedmaaDoor
open Go Go.RowKit Go.Shelf
namespace Hd
theorem write_len : ∀ (X : List Fd), (write X).length ≤ 2 * sumF X X.length + 5 * X.length
  | [] => by simp [write]
  | f :: X => by
    have ih := write_len X
    have h1 := writeField_len f
    have e : sumF (f :: X) (f :: X).length = f.1.length + f.2.length + sumF X X.length := by
      unfold sumF
      rw [List.take_length, List.take_length, List.map_cons, List.sum_cons]
    rw [e, List.length_cons]
    cases hn : named f.1 with
    | false =>
      have e2 : write (f :: X) = write X := by simp [write, hn]
      rw [e2]; omega
    | true =>
      have e2 : write (f :: X) = writeField f ++ write X := by simp [write, hn]
      rw [e2, List.length_append]; omega
/-- The names of the first k fields that have one. -/
def nms (X : List Fd) (k : Nat) : List (List UInt8) := ((X.take k).filter fun f => named f.1).map (·.1)
theorem nms_yes {X : List Fd} {k : Nat} {f : Fd} (h : X[k]? = some f) (hn : named f.1 = true) : nms X (k + 1) = nms X k ++ [f.1] := by
  unfold nms; rw [List.take_add_one, h, List.filter_append, List.map_append]; simp [hn]
theorem nms_no {X : List Fd} {k : Nat} {f : Fd} (h : X[k]? = some f) (hn : named f.1 = false) : nms X (k + 1) = nms X k := by
  unfold nms; rw [List.take_add_one, h, List.filter_append, List.map_append]; simp [hn]
theorem nms_pre {X : List Fd} {k j : Nat} (h : k ≤ j) : nms X k <+: nms X j := by
  unfold nms
  exact ((List.take_prefix_take_left h).filter _).map _
/-- What both calls of Parse answer. -/
theorem safe_parse (X : List Fd) (body : List UInt8) (h : X.length ≤ 400) : ∃ vs : List Fd, vs.map (·.1) = nms X X.length ∧ parse (write X) = (vs, []) ∧ parse (write X ++ 10 :: body) = (vs, body) := by
  obtain ⟨vs, h1, h2⟩ := parse_write X
  refine ⟨vs, by rw [h1]; unfold nms; rw [List.take_length], ?_, ?_⟩
  · have := h2 [] [] (by simpa using h)
    rw [List.append_nil, List.nil_append] at this
    rw [parse_G, this, parseG_nil]
  · have := h2 [] (10 :: body) (by simpa using h)
    rw [List.nil_append] at this
    have hc := content_line (x := []) (t := body) (fun c hc => by cases hc)
    rw [List.nil_append] at hc
    rw [parse_G, this, parseG_step _ (by simp), if_pos hc.1, hc.2]
end Hd

theorem lt_cellW {w : World} {b o : Nat} {v : Value} (h : w.cell? ⟨b, o, none⟩ = some v) : b < w.heap.size := World.block_lt_of_cell? w ⟨b, o, none⟩ h
theorem drew_more {a b c : World} (h : Drew a b) (g : Drew b c) : Drew a c := by
  obtain ⟨n, rfl⟩ := g
  exact drews_more h n
set_option maxHeartbeats 8000000 in
set_option maxRecDepth 100000 in
theorem safe_law (X : List Hd.Fd) (body : ByteArray) (n cap : Nat) (xa : Option Addr) (xb xo : Nat) (w : World) (hX : PL w xa xb xo X) (hn : X.length = n) (hn2 : n ≤ 9223372036854775807) (hb : body.size ≤ 9223372036854775807) (hM : MaxAt w) :
    Calls Tryd.prog 5 #[.slice xa n cap, .string body] w fun e w' => e = .returned (.bool true) ∧ Below w.heap.size w w' := by
  have HSm := Lib.hid (small_any w hM)
  have HX := Lib.hid hX
  have HN := Lib.hid hn
  have HO := Lib.hid (On.refl hM)
  have HFw0 := Lib.hid (fun W h => few_any X n cap xa xb xo W h hn hn2)
  by_cases hF : ¬ FewP X
  · have HFw : Hid (∀ W, PL W xa xb xo X → Calls Tryd.prog 17 #[.slice xa n cap] W fun e w' => e = .returned (.bool false) ∧ Drew W w') := Lib.hid (fun W h => (HFw0.out W h).mono (fun e w' ⟨⟨b, he, hb⟩, hd⟩ => ⟨by rw [he]; cases b with | false => rfl | true => exact absurd (hb.1 rfl) hF, hd⟩))
    clear hX hn hM HFw0
    go_enter Tryd.func5, Tryd.ntmps5
    go_wp2_with (first
      | (go_at_call 9; with_reducible refine HSm.out.mono ?_; rintro e ws ⟨rfl, hbs⟩; have HO1 := Lib.hid (HO.out.more hbs); have HX1 := Lib.hid (HX.out.new hbs); clear hbs)
      | (go_at_call 17; with_reducible refine (HFw.out _ HX1.out).mono ?_; rintro e wf ⟨rfl, hdf⟩; have HO2 := Lib.hid (HO1.out.more hdf.below); have HX2 := Lib.hid (HX1.out.new hdf.below); clear hdf))
    go_ret
    exact ⟨rfl, HO2.out.b⟩
  have hF := Classical.not_not.1 hF
  have HFw : Hid (∀ W, PL W xa xb xo X → Calls Tryd.prog 17 #[.slice xa n cap] W fun e w' => e = .returned (.bool true) ∧ Drew W w') := Lib.hid (fun W h => (HFw0.out W h).mono (fun e w' ⟨⟨b, he, hb⟩, hd⟩ => ⟨by rw [he, hb.2 hF], hd⟩))
  clear HFw0
  by_cases h4 : 400 < n
  · have q4 : (400 : Int) < (n : Int) := by omega
    have qd4 : decide ((400 : Int) < (n : Int)) = true := decide_eq_true q4
    clear hX hn hM
    go_enter Tryd.func5, Tryd.ntmps5
    go_wp2_with (first
      | (go_at_call 9; with_reducible refine HSm.out.mono ?_; rintro e ws ⟨rfl, hbs⟩; have HO1 := Lib.hid (HO.out.more hbs); have HX1 := Lib.hid (HX.out.new hbs); clear hbs)
      | (go_at_call 17; with_reducible refine (HFw.out _ HX1.out).mono ?_; rintro e wf ⟨rfl, hdf⟩; have HO2 := Lib.hid (HO1.out.more hdf.below); have HX2 := Lib.hid (HX1.out.new hdf.below); clear hdf))
    go_ret
    exact ⟨rfl, HO2.out.b⟩
  have q4 : ¬ ((400 : Int) < (n : Int)) := by omega
  have qd4 : decide ((400 : Int) < (n : Int)) = false := decide_eq_false q4
  by_cases h5 : 1000 < body.size
  · have q5 : (1000 : Int) < (body.size : Int) := by omega
    have qd5 : decide ((1000 : Int) < (body.size : Int)) = true := decide_eq_true q5
    clear hX hn hM
    go_enter Tryd.func5, Tryd.ntmps5
    go_wp2_with (first
      | (go_at_call 9; with_reducible refine HSm.out.mono ?_; rintro e ws ⟨rfl, hbs⟩; have HO1 := Lib.hid (HO.out.more hbs); have HX1 := Lib.hid (HX.out.new hbs); clear hbs)
      | (go_at_call 17; with_reducible refine (HFw.out _ HX1.out).mono ?_; rintro e wf ⟨rfl, hdf⟩; have HO2 := Lib.hid (HO1.out.more hdf.below); have HX2 := Lib.hid (HX1.out.new hdf.below); clear hdf))
    go_ret
    exact ⟨rfl, HO2.out.b⟩
  have q5 : ¬ ((1000 : Int) < (body.size : Int)) := by omega
  have qd5 : decide ((1000 : Int) < (body.size : Int)) = false := decide_eq_false q5
  obtain ⟨vs, hvn, hp1, hp2⟩ := Hd.safe_parse X body.data.toList (by omega)
  have hwl := Hd.write_len X
  have hF2 := hF.2.1
  obtain ⟨S, hS⟩ : ∃ S, Hd.write X = S := ⟨_, rfl⟩
  rw [hS] at hp1 hp2 hwl
  have hSl : S.length ≤ 15000 := by omega
  have hE : ∀ p ∈ X, p.1.length ≤ 100000 ∧ p.2.length ≤ 100000 := fun p hp => by
    obtain ⟨j, hj⟩ := List.mem_iff_getElem?.1 hp
    have := hF.2.2 j p (List.getElem?_eq_some_iff.1 hj).1 hj
    omega
  have HWr := Lib.hid (fun W (h : PL W xa xb xo X) hm => write_any X n cap xa xb xo W h hn (by omega) hE hm)
  rw [hS] at HWr
  obtain ⟨A, hA⟩ : ∃ A : ByteArray, (⟨S.toArray⟩ : ByteArray) = A := ⟨_, rfl⟩
  rw [hA] at HWr
  have hAs : A.size = S.length := by rw [← hA, mk_len]
  have hAd : A.data.toList = S := by rw [← hA]
  obtain ⟨A1, hA1⟩ : ∃ A1 : ByteArray, A ++ ⟨#[10]⟩ = A1 := ⟨_, rfl⟩
  have hA1d : A1.data.toList = S ++ [10] := by rw [← hA1, ba_append, hAd]
  have hA1s : A1.size = S.length + 1 := by rw [Lib.size_eq, hA1d, List.length_append]; rfl
  obtain ⟨A2, hA2⟩ : ∃ A2 : ByteArray, A1 ++ body = A2 := ⟨_, rfl⟩
  have hA2d : A2.data.toList = S ++ 10 :: body.data.toList := by rw [← hA2, ba_append, hA1d]; simp
  have hA2s : A2.size = S.length + 1 + body.size := by rw [Lib.size_eq, hA2d, List.length_append, List.length_cons, ← Lib.size_eq]; omega
  have hadd1 := fun w' : World => run_string_add_sum (P := Tryd.prog) (w := w') A ⟨#[10]⟩ (by show A.size + 1 ≤ _; omega)
  have hadd2 := fun w' : World => run_string_add_sum (P := Tryd.prog) (w := w') A1 body (by omega)
  rw [hA1] at hadd1
  rw [hA2] at hadd2
  have HP1 := Lib.hid (fun W hm => parse_to (s := A) (X := vs) (n := vs.length) (m := A.size) (by rw [hAd, hp1]) (by rw [hAd, hp1]; rfl) rfl (by omega) W hm)
  have HP2 := Lib.hid (fun W hm => parse_to (s := A2) (X := vs) (n := vs.length) (m := A.size + 1) (by rw [hA2d, hp2]) (by rw [hA2d, hp2, hA2s, ← Lib.size_eq]; omega) rfl (by omega) W hm)
  have hvl : vs.length ≤ n := by
    have := congrArg List.length hvn
    rw [List.length_map] at this
    have h2 : (Hd.nms X X.length).length ≤ X.length := by
      unfold Hd.nms
      rw [List.length_map, List.take_length]
      exact List.length_filter_le _ _
    omega
  have HSa := Lib.hid (fun (W : World) (a b : Option Addr) (x y c d : Nat) (h1 : PL W a x 0 vs) (h2 : PL W b y 0 vs) => sameF_yes (cx := c) (cy := d) h1 h2 rfl (by omega))
  have HVn := Lib.hid hvn
  have HFo := Lib.hid hF.2.2
  have hAb : A.size ≤ 15000 := by omega
  clear hX hn hM hF hp1 hp2 hwl hS hE hA hAs hAd hA1 hA1d hA1s hA2 hA2d hA2s hvn hF2
  go_enter Tryd.func5, Tryd.ntmps5
  go_wp2_with (first
    | (go_at_call 9; with_reducible refine HSm.out.mono ?_; rintro e ws ⟨rfl, hbs⟩; have HO1 := Lib.hid (HO.out.more hbs); have HX1 := Lib.hid (HX.out.new hbs); clear hbs)
    | (go_at_call 17; with_reducible refine (HFw.out _ HX1.out).mono ?_; rintro e wf ⟨rfl, hdf⟩; have HO2 := Lib.hid (HO1.out.more hdf.below); have HX2 := Lib.hid (HX1.out.new hdf.below); clear hdf)
    | (go_at_call 20; with_reducible refine (HWr.out _ HX2.out HO2.out.m).mono ?_; rintro e w3 ⟨rfl, hb3⟩; have HO3 := Lib.hid (HO2.out.more hb3); have HX3 := Lib.hid (HX2.out.new hb3); clear hb3)
    | (go_at_call 21; with_reducible refine (HP1.out _ HO3.out.m).mono ?_; rintro e w4 ⟨a4, b4, c4, rfl, hL4, hb4⟩; have HO4 := Lib.hid (HO3.out.more hb4.out); have HX4 := Lib.hid (HX3.out.new hb4.out); clear hb4)
    | (go_at_call 21; with_reducible refine (HP2.out _ HO4.out.m).mono ?_; rintro e w5 ⟨a5, b5, c5, rfl, hL5, hb5⟩; have HO5 := Lib.hid (HO4.out.more hb5.out); have HX5 := Lib.hid (HX4.out.new hb5.out); have hL45 := Lib.hid (hL4.out.new hb5.out); clear hb5)
    | (go_at_call 22; with_reducible refine (HSa.out _ _ _ _ _ _ _ hL45.out hL5.out).mono ?_; rintro e w6 ⟨rfl, hb6⟩; have HO6 := Lib.hid (HO5.out.more hb6.out); have HX6 := Lib.hid (HX5.out.new hb6.out); have hL6 := Lib.hid (hL45.out.new hb6.out); clear hb6))
  go_loopw [11, 12] (fun z i wr => ∃ k j : Nat, i = .int .i64 k ∧ z = .int .i64 j ∧ k ≤ n ∧ j ≤ k ∧ Hid ((Hd.nms X k).length = j) ∧ Hid (Drew w6 wr)) (fun _ i _ => n - (intOf i).toNat)
  case atStart => exact ⟨0, 0, rfl, rfl, Nat.zero_le _, Nat.le_refl _, rfl, ⟨0, rfl⟩⟩
  case round =>
    obtain ⟨k, j, rfl, rfl, hk, hjk, hJ, hD⟩ := hrel
    by_cases hlt : k < n
    · obtain ⟨⟨N, V⟩, hp⟩ : ∃ p, X[k]? = some p := ⟨_, List.getElem?_eq_getElem (by rw [HN.out]; exact hlt)⟩
      have hXr := HX6.out.new hD.out.below
      obtain rfl := hXr.at_ (by rw [HN.out]; omega)
      have d0 := (hXr.c k _ hp).1
      simp only at d0
      have hNl := (HFo.out k _ (by rw [HN.out]; exact hlt) hp).1
      simp only at hNl
      have HNm := Lib.hid (fun W => namedR_any ⟨N.toArray⟩ W (by rw [mk_len]; omega))
      rw [show (⟨N.toArray⟩ : ByteArray).data.toList = N from rfl] at HNm
      cases hnm : Hd.named N with
      | false =>
        rw [hnm] at HNm
        have HJ2 := Lib.hid (show (Hd.nms X (k + 1)).length = j by rw [Hd.nms_no hp hnm]; exact hJ.out)
        clear hp hXr hnm hNl
        go_wp2_with (go_at_call 18; with_reducible refine (HNm.out _).mono ?_; rintro e w7 ⟨rfl, hd7⟩; have HD7 := Lib.hid (show Drew w6 w7 from drew_more hD.out hd7); clear hd7)
        go_roundw
        case rel => exact ⟨k + 1, j, by go_num, rfl, by omega, by omega, HJ2.out, HD7.out⟩
        case measure => simp [intOf]; omega
      | true =>
        rw [hnm] at HNm
        have e1 := Hd.nms_yes hp hnm
        have hpre : Hd.nms X (k + 1) <+: Hd.nms X X.length := Hd.nms_pre (by rw [HN.out]; omega)
        rw [← HVn.out] at hpre
        have hl1 : (Hd.nms X (k + 1)).length = j + 1 := by rw [e1, List.length_append, hJ.out]; rfl
        have hjv : j < vs.length := by
          have := hpre.length_le
          rw [hl1, List.length_map] at this
          omega
        obtain ⟨⟨N2, V2⟩, hq⟩ : ∃ p, vs[j]? = some p := ⟨_, List.getElem?_eq_getElem hjv⟩
        have hN2 : N2 = N := by
          obtain ⟨r, hr⟩ := hpre
          have h1 : (vs.map (·.1))[j]? = some N2 := by rw [List.getElem?_map, hq]; rfl
          rw [← hr, e1, List.append_assoc, List.getElem?_append_right (by rw [hJ.out]; exact Nat.le_refl _), hJ.out, Nat.sub_self] at h1
          simpa using h1.symm
        subst hN2
        have e0 := ((hL6.out.new hD.out.below).c j _ hq).1
        simp only [Nat.zero_add] at e0
        have HJ2 := Lib.hid hl1
        have HLa := Lib.hid (hL6.out.at_ (by omega))
        have q8 : (j : Int) < (vs.length : Int) := by omega
        have qd8 : decide ((vs.length : Int) ≤ (j : Int)) = false := decide_eq_false (by omega)
        obtain rfl := HLa.out
        have x0 := (HX6.out.lt (by rw [HN.out]; omega))
        clear hp hXr hnm hNl e1 hpre hl1 hq HLa
        go_wp2_with (go_at_call 18; with_reducible refine (HNm.out _).mono ?_; rintro e w7 ⟨rfl, hd7⟩; have HD7 := Lib.hid (show Drew w6 w7 from drew_more hD.out hd7); have y0 := (hd7.below.cell (p := ⟨xb, xo + k * 2, none⟩) (lt_cellW d0)).trans d0; have y1 := (hd7.below.cell (p := ⟨b4, j * 2, none⟩) (lt_cellW e0)).trans e0; clear hd7)
        refine region_calmW (fun U => U.cell? ⟨b4, j * 2, none⟩ = some (.string ⟨N2.toArray⟩) ∧ U.cell? ⟨xb, xo + k * 2, none⟩ = some (.string ⟨N2.toArray⟩)) (by kernel_rfl) ⟨y1, y0⟩ (fun hHeld => ?_)
        show wpAnyH _ _ _ _ _ 11 (Array.replicate 11 false) _ _
        refine takeH 0 77 (v := ?_) rfl rfl (by kernel_rfl) (by kernel_rfl) (by kernel_rfl) (Or.inl ⟨by rfl, ?_⟩) (by assumption) ?_
        rotate_left
        · intro U hSU
          obtain ⟨s1, s2⟩ := hSU
          go_simp
          try with_reducible rfl
        simp only [List.setIfInBounds_toArray, List.set_cons_zero, List.set_cons_succ]
        refine takeH 1 78 (v := ?_) rfl rfl (by kernel_rfl) (by kernel_rfl) (by kernel_rfl) (Or.inl ⟨by rfl, ?_⟩) (by assumption) ?_
        rotate_left
        · intro U hSU
          obtain ⟨s1, s2⟩ := hSU
          go_simp
          try with_reducible rfl
        simp only [List.setIfInBounds_toArray, List.set_cons_zero, List.set_cons_succ]
        refine takeH 2 79 (v := ?_) rfl rfl (by kernel_rfl) (by kernel_rfl) (by kernel_rfl) (Or.inl ⟨by rfl, ?_⟩) (by assumption) ?_
        rotate_left
        · intro U hSU
          obtain ⟨s1, s2⟩ := hSU
          go_simp
          try with_reducible rfl
        simp only [List.setIfInBounds_toArray, List.set_cons_zero, List.set_cons_succ]
        refine takeH 3 80 (v := ?_) rfl rfl (by kernel_rfl) (by kernel_rfl) (by kernel_rfl) (Or.inl ⟨by rfl, ?_⟩) (by assumption) ?_
        rotate_left
        · intro U hSU
          obtain ⟨s1, s2⟩ := hSU
          go_simp
          try with_reducible rfl
        simp only [List.setIfInBounds_toArray, List.set_cons_zero, List.set_cons_succ]
        refine takeH 4 81 (v := ?_) rfl rfl (by kernel_rfl) (by kernel_rfl) (by kernel_rfl) (Or.inl ⟨by rfl, ?_⟩) (by assumption) ?_
        rotate_left
        · intro U hSU
          obtain ⟨s1, s2⟩ := hSU
          go_simp
          try with_reducible rfl
        simp only [List.setIfInBounds_toArray, List.set_cons_zero, List.set_cons_succ]
        refine takeH 5 82 (v := ?_) rfl rfl (by kernel_rfl) (by kernel_rfl) (by kernel_rfl) (Or.inl ⟨by rfl, ?_⟩) (by assumption) ?_
        rotate_left
        · intro U hSU
          obtain ⟨s1, s2⟩ := hSU
          go_simp
          try with_reducible rfl
        simp only [List.setIfInBounds_toArray, List.set_cons_zero, List.set_cons_succ]
        refine takeH 6 83 (v := ?_) rfl rfl (by kernel_rfl) (by kernel_rfl) (by kernel_rfl) (Or.inl ⟨by rfl, ?_⟩) (by assumption) ?_
        rotate_left
        · intro U hSU
          obtain ⟨s1, s2⟩ := hSU
          go_simp
          try with_reducible rfl
        simp only [List.setIfInBounds_toArray, List.set_cons_zero, List.set_cons_succ]
        refine takeH 7 84 (v := ?_) rfl rfl (by kernel_rfl) (by kernel_rfl) (by kernel_rfl) (Or.inl ⟨by rfl, ?_⟩) (by assumption) ?_
        rotate_left
        · intro U hSU
          obtain ⟨s1, s2⟩ := hSU
          go_simp
          try with_reducible rfl
        simp only [List.setIfInBounds_toArray, List.set_cons_zero, List.set_cons_succ]
        refine takeH 8 85 (v := ?_) rfl rfl (by kernel_rfl) (by kernel_rfl) (by kernel_rfl) (Or.inl ⟨by rfl, ?_⟩) (by assumption) ?_
        rotate_left
        · intro U hSU
          obtain ⟨s1, s2⟩ := hSU
          go_simp
          try with_reducible rfl
        simp only [List.setIfInBounds_toArray, List.set_cons_zero, List.set_cons_succ]
        refine takeH 9 86 (v := ?_) rfl rfl (by kernel_rfl) (by kernel_rfl) (by kernel_rfl) (Or.inl ⟨by rfl, ?_⟩) (by assumption) ?_
        rotate_left
        · intro U hSU
          obtain ⟨s1, s2⟩ := hSU
          go_simp
          try with_reducible rfl
        simp only [List.setIfInBounds_toArray, List.set_cons_zero, List.set_cons_succ]
        refine takeH 10 87 (v := ?_) rfl rfl (by kernel_rfl) (by kernel_rfl) (by kernel_rfl) (Or.inl ⟨by rfl, ?_⟩) (by assumption) ?_
        rotate_left
        · intro U hSU
          obtain ⟨s1, s2⟩ := hSU
          go_simp
          try with_reducible rfl
        simp only [List.setIfInBounds_toArray, List.set_cons_zero, List.set_cons_succ]
        refine wpAnyH_done (by kernel_rfl) ?_ _
        refine Calm.normal ?_
        go_wp2
        go_roundw
        case rel => exact ⟨k + 1, j + 1, by go_num, by go_num, by omega, by omega, HJ2.out, drews_more HD7.out 1⟩
        case measure => simp [intOf]; omega
    · obtain rfl : k = n := by omega
      have hjv : j = vs.length := by
        rw [← hJ.out, ← HN.out, ← HVn.out, List.length_map]
      subst hjv
      have HB := Lib.hid (below_to HO6.out.b (Nat.le_refl _) hD.out.below)
      go_wp2
      go_ret
      exact ⟨rfl, HB.out⟩
end Go.Proofs.YtliadekcbkedmaaDoor
