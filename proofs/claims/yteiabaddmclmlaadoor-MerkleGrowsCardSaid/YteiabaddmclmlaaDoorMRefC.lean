/-
  The reference's Path.
-/
import Derived.Test.YteiabaddmclmlaaDoorMRefB
import Derived.Test.YteiabaddmclmlaaDoorMPath
namespace Go.Proofs.YteiabaddmclmlaaDoor
open Go Go.RowKit Go.Shelf
theorem start_below (w : World) : Below w.heap.size w (w.drew.alloc (.cells #[] 9)) := below_alloc (below_drew (Below.refl _ _)) (Nat.le_refl _) _
theorem start_own (w : World) : SOwn (w.drew.alloc (.cells #[] 9)) w.heap.size (.slice (some ⟨w.heap.size, 0, none⟩) 0 0) [] := sown_lit w.drew (Nat.le_refl _) [] (by simp)
theorem start_then (w : World) {w5 : World} (h : Below (w.drew.alloc (.cells #[] 9)).heap.size (w.drew.alloc (.cells #[] 9)) w5) : Below w.heap.size w w5 := (start_below w).trans (h.mono (start_below w).size)
set_option maxHeartbeats 4000000 in
set_option maxRecDepth 100000 in
theorem rpath_out (X : List (List UInt8)) (n : Nat) (hn : X.length = n) (hN : n ≤ 1000000) (i : Int) (hi : i < 0 ∨ (n : Int) ≤ i ∨ n = 1) (xa : Option Addr) (cap : Nat) (w : World) :
    Calls Tryd.prog 37 #[.slice xa n cap, .int .i64 i] w fun e w' => e = .returned (.slice none 0 0) ∧ Below w.heap.size w w' := by
  by_cases h0 : i < 0
  · go_enter Tryd.func37, Tryd.ntmps37
    go_wp2
    go_ret
    exact ⟨rfl, Below.refl _ _⟩
  by_cases h1 : (n : Int) ≤ i
  · go_enter Tryd.func37, Tryd.ntmps37
    go_wp2
    go_ret
    exact ⟨rfl, Below.refl _ _⟩
  obtain rfl : n = 1 := by omega
  have h2 : ¬ i ≥ 1 := by omega
  go_enter Tryd.func37, Tryd.ntmps37
  go_wp2
  go_ret
  exact ⟨rfl, Below.refl _ _⟩
set_option maxHeartbeats 4000000 in
set_option maxRecDepth 100000 in
theorem rpath_any : ∀ (N : Nat) (X : List (List UInt8)) (n : Nat) (_ : X.length = n) (_ : n ≤ N) (_ : N ≤ 1000000) (_ : ∀ x ∈ X, x.length ≤ 40) (i : Nat) (_ : i < n) (xa : Option Addr) (b off cap : Nat) (w : World) (_ : Lv w xa b off cap X),
    Calls Tryd.prog 37 #[.slice xa n cap, .int .i64 (i : Int)] w fun e w' => ∃ v, e = .returned v ∧ SOwn w' w.heap.size v (Mk.path X i) ∧ Below w.heap.size w w' := by
  intro N
  induction N with
  | zero => exact fun X n hn hN _ _ i hi => by omega
  | succ N ih =>
    intro X n hn hN hN2 hX i hi xa b off cap w hL
    have IH := Lib.hid ih
    have HL := Lib.hid hL
    clear ih hL
    by_cases h2 : 2 ≤ n
    · obtain rfl := HL.out.at_ (by omega)
      have hk1 := Mk.split_lt h2
      have hk0 := Mk.split_pos n
      have hp1 := Mk.path_left (X := X) (i := i) (by omega)
      have hp2 := Mk.path_right (X := X) (i := i) (by omega) (by omega)
      rw [hn] at hp1 hp2
      have HK := Lib.hid (fun w' : World => rsplit_any n h2 (by omega) w')
      obtain ⟨k, hk⟩ : ∃ k, Mk.split n = k := ⟨_, rfl⟩
      rw [hk] at hk0 hk1 HK hp1 hp2
      have hcap := HL.out.le
      have hcap2 : n ≤ cap := by omega
      have b1 : (0 : Int) ≤ (k : Int) := by omega
      have b2 : (k : Int) ≤ (n : Int) := by omega
      have b3 : (k : Int) ≤ (cap : Int) := by omega
      have b4 : (n : Int) ≤ (cap : Int) := by omega
      have b5 : k ≤ n := by omega
      have b6 : k ≤ cap := by omega
      have b7 : ¬ cap = k := by omega
      have d0 : ¬ (i : Int) < 0 := by omega
      have d1 : ¬ (i : Int) ≥ (n : Int) := by omega
      have d2 : (n : Int) ≠ 1 := by omega
      have hXt : ∀ x ∈ X.take k, x.length ≤ 40 := fun x hx => hX x (List.mem_of_mem_take hx)
      have hXd : ∀ x ∈ X.drop k, x.length ≤ 40 := fun x hx => hX x (List.mem_of_mem_drop hx)
      obtain ⟨R1, hR1⟩ : ∃ R : ByteArray, Mk.root (X.take k) = R.data.toList := ⟨⟨(Mk.root (X.take k)).toArray⟩, rfl⟩
      obtain ⟨R2, hR2⟩ : ∃ R : ByteArray, Mk.root (X.drop k) = R.data.toList := ⟨⟨(Mk.root (X.drop k)).toArray⟩, rfl⟩
      have lt1 : (X.take k).length = k := by rw [List.length_take]; omega
      have ld1 : (X.drop k).length = n - k := by rw [List.length_drop]; omega
      by_cases hik : i < k
      · have hp := hp1 hik
        rw [hR2] at hp
        have hPl := Mk.path_len N (X.take k) i (by omega)
        obtain ⟨P, hP⟩ : ∃ P, Mk.path (X.take k) i = P := ⟨_, rfl⟩
        rw [hP] at hp hPl
        have hiki : (i : Int) < (k : Int) := by omega
        have HP := Lib.hid (show ∀ T : List (List UInt8) → Prop, T (P ++ [R2.data.toList]) → T (Mk.path X i) from fun T h => by rw [hp]; exact h)
        have S1 := Lib.hid (fun (w5 : World) (hb : Below w.heap.size w w5) => (IH.out (X.take k) k lt1 (by omega) (by omega) hXt i hik _ b off cap w5 ((HL.out.take k).below hb)))
        rw [hP] at S1
        have S2 := Lib.hid (fun (w5 : World) (hb : Below w.heap.size w w5) => rroot_to (X.drop k) (n - k) ld1 (by omega) hXd R2 hR2 _ b (off + k) (cap - k) w5 ((HL.out.drop k (by omega)).below hb))
        clear hcap hk hXt hXd hR1 hR2 hX hp1 hp2 hp hP lt1 ld1
        go_enter Tryd.func37, Tryd.ntmps37
        go_wp2_with fail
        refine (HK.out _).mono ?_
        rintro _ w' ⟨rfl, rfl⟩
        go_wp2_with fail
        go_region_held3 (fun _ => True) (trivial) ((first | (refine step_append_strs (by rfl) _ _ (by rfl) w'.heap.size _ ([] ++ P) (by rfl) (hO3.alloc _) ⟨w7.heap.size, 0, none⟩ 1 1 [R2.data.toList] (by rfl) rfl (cells_new w7 (sv [R2.data.toList]) _) (by simp; omega) (Nat.le_trans hB3.size (by first | exact Nat.le_succ _ | simp)) ?_; intro v8 w8 hown hgrow) | (go_at_call 34; refine (S2.out _ hB2).mono ?_; rintro e w7 ⟨rfl, hB7⟩; have hB3 := hB2.trans (hB7.mono hB2.size); have hO3 := hO2.below hB7) | (refine step_append_rows (by rfl) _ _ (by rfl) w'.heap.size _ [] (by rfl) hO0 _ v5 P (by rfl) hO1 (by simp; omega) hB1.size ?_; intro v6 w6 hO2 hg6; have hB2 := below_grown hB1 hO0 hg6 (Nat.le_refl _) (Nat.le_refl _)) | (refine step_append_rows (by rfl) _ _ (by rfl) w'.heap.size _ [] (by rfl) (sown_lit w5 hB1.size [] (by simp)) _ v5 P (by rfl) (hO1.alloc _) (by simp; omega) (below_alloc hB1 (Nat.le_refl _) _).size ?_; intro v6 w6 hO2 hg6; have hB2 := below_grown (below_alloc hB1 (Nat.le_refl _) _) (sown_lit w5 hB1.size [] (by simp)) hg6 (Nat.le_refl _) (Nat.le_refl _)) | (go_at_call 37; refine (S1.out _ (start_below w')).mono ?_; rintro e w5 ⟨v5, rfl, hO1, hB5⟩; have hB1 := start_then w' hB5; have hO0 := (start_own w').below hB5) | (go_at_call 37; refine (S1.out _ (below_drew (Below.refl _ _))).mono ?_; rintro e w5 ⟨v5, rfl, hO1, hB5⟩; have hB1 := (below_drew (Below.refl _ _)).trans hB5) | fail))
        all_goals
          have HO := Lib.hid (HP.out (fun t => SOwn w8 w'.heap.size v8 t) hown)
          have HB := Lib.hid (below_grown (below_alloc hB3 (Nat.le_refl _) _) (hO3.alloc _) hgrow (Nat.le_refl _) (Nat.le_refl _))
          try clear hO0
          clear hB1 hB2 hB3 hB5 hB7 hO1 hO2 hO3 hown hgrow hg6
          go_wp2
          go_ret
          exact ⟨v8, rfl, HO.out, HB.out⟩
      · have hp := hp2 hik
        rw [hR1] at hp
        have hPl := Mk.path_len N (X.drop k) (i - k) (by omega)
        obtain ⟨P, hP⟩ : ∃ P, Mk.path (X.drop k) (i - k) = P := ⟨_, rfl⟩
        rw [hP] at hp hPl
        have hiki : ¬ (i : Int) < (k : Int) := by omega
        obtain ⟨j, hj⟩ : ∃ j, i - k = j := ⟨_, rfl⟩
        have j1 : (i : Int) - (k : Int) = (j : Int) := by omega
        have j2 : IntKind.i64.wrap ((i : Int) - (k : Int)) = (j : Int) := by rw [IntWalk.i64_in _ (by omega)]; omega
        have j3 : IntKind.i64.wrap (j : Int) = (j : Int) := IntWalk.i64_in _ (by omega)
        rw [hj] at hP
        have HP := Lib.hid (show ∀ T : List (List UInt8) → Prop, T (P ++ [R1.data.toList]) → T (Mk.path X i) from fun T h => by rw [hp]; exact h)
        have S1 := Lib.hid (fun (w5 : World) (hb : Below w.heap.size w w5) => (IH.out (X.drop k) (n - k) ld1 (by omega) (by omega) hXd j (by omega) _ b (off + k) (cap - k) w5 ((HL.out.drop k (by omega)).below hb)))
        rw [hP] at S1
        have S2 := Lib.hid (fun (w5 : World) (hb : Below w.heap.size w w5) => rroot_to (X.take k) k lt1 (by omega) hXt R1 hR1 _ b off cap w5 ((HL.out.take k).below hb))
        clear hcap hk hXt hXd hR1 hR2 hX hp1 hp2 hp hP lt1 ld1 hj
        go_enter Tryd.func37, Tryd.ntmps37
        go_wp2_with fail
        refine (HK.out _).mono ?_
        rintro _ w' ⟨rfl, rfl⟩
        go_wp2_with fail
        go_region_held3 (fun _ => True) (trivial) ((first | (refine step_append_strs (by rfl) _ _ (by rfl) w'.heap.size _ ([] ++ P) (by rfl) (hO3.alloc _) ⟨w7.heap.size, 0, none⟩ 1 1 [R1.data.toList] (by rfl) rfl (cells_new w7 (sv [R1.data.toList]) _) (by simp; omega) (Nat.le_trans hB3.size (by first | exact Nat.le_succ _ | simp)) ?_; intro v8 w8 hown hgrow) | (go_at_call 34; refine (S2.out _ hB2).mono ?_; rintro e w7 ⟨rfl, hB7⟩; have hB3 := hB2.trans (hB7.mono hB2.size); have hO3 := hO2.below hB7) | (refine step_append_rows (by rfl) _ _ (by rfl) w'.heap.size _ [] (by rfl) hO0 _ v5 P (by rfl) hO1 (by simp; omega) hB1.size ?_; intro v6 w6 hO2 hg6; have hB2 := below_grown hB1 hO0 hg6 (Nat.le_refl _) (Nat.le_refl _)) | (refine step_append_rows (by rfl) _ _ (by rfl) w'.heap.size _ [] (by rfl) (sown_lit w5 hB1.size [] (by simp)) _ v5 P (by rfl) (hO1.alloc _) (by simp; omega) (below_alloc hB1 (Nat.le_refl _) _).size ?_; intro v6 w6 hO2 hg6; have hB2 := below_grown (below_alloc hB1 (Nat.le_refl _) _) (sown_lit w5 hB1.size [] (by simp)) hg6 (Nat.le_refl _) (Nat.le_refl _)) | (go_at_call 37; refine (S1.out _ (start_below w')).mono ?_; rintro e w5 ⟨v5, rfl, hO1, hB5⟩; have hB1 := start_then w' hB5; have hO0 := (start_own w').below hB5) | (go_at_call 37; refine (S1.out _ (below_drew (Below.refl _ _))).mono ?_; rintro e w5 ⟨v5, rfl, hO1, hB5⟩; have hB1 := (below_drew (Below.refl _ _)).trans hB5) | fail))
        all_goals
          have HO := Lib.hid (HP.out (fun t => SOwn w8 w'.heap.size v8 t) hown)
          have HB := Lib.hid (below_grown (below_alloc hB3 (Nat.le_refl _) _) (hO3.alloc _) hgrow (Nat.le_refl _) (Nat.le_refl _))
          try clear hO0
          clear hB1 hB2 hB3 hB5 hB7 hO1 hO2 hO3 hown hgrow hg6
          go_wp2
          go_ret
          exact ⟨v8, rfl, HO.out, HB.out⟩
    · obtain rfl : n = 1 := by omega
      exact (rpath_out X 1 hn (by omega) i (.inr (.inr rfl)) xa cap w).mono fun e w' h => ⟨_, h.1, by rw [Mk.path_none (by omega)]; exact SOwn.nil _ _, h.2⟩
end Go.Proofs.YteiabaddmclmlaaDoor
