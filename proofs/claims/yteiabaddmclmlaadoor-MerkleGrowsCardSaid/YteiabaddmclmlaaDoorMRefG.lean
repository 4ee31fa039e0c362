/-
  The reference's growth and Grown.
-/
import Derived.Test.YteiabaddmclmlaaDoorMRefC
import Derived.Test.YteiabaddmclmlaaDoorMGrow
namespace Go.Proofs.YteiabaddmclmlaaDoor
open Go Go.RowKit Go.Shelf
set_option maxHeartbeats 4000000 in
set_option maxRecDepth 100000 in
theorem rgrowth_any : ∀ (N : Nat) (X : List (List UInt8)) (n : Nat) (_ : X.length = n) (_ : n ≤ N) (_ : N ≤ 1000000) (_ : ∀ x ∈ X, x.length ≤ 40) (m : Nat) (_ : 0 < m) (_ : m ≤ n) (known : Bool) (xa : Option Addr) (b off cap : Nat) (w : World) (_ : Lv w xa b off cap X),
    Calls Tryd.prog 62 #[.slice xa n cap, .int .i64 (m : Int), .bool known] w fun e w' => ∃ v, e = .returned v ∧ SOwn w' w.heap.size v (Mk.growth X m known) ∧ Below w.heap.size w w' := by
  intro N
  induction N with
  | zero => exact fun X n hn hN _ _ m h0 hm => by omega
  | succ N ih =>
    intro X n hn hN hN2 hX m h0 hm known xa b off cap w hL
    have IH := Lib.hid ih
    have HL := Lib.hid hL
    clear ih hL
    by_cases hmn : m = n
    · subst hmn
      have e1 : ((m : Int) == (m : Int)) = true := by simp
      cases known with
      | true =>
        have HG := Lib.hid (show Mk.growth X m true = [] from by have := Mk.growth_all X true; rw [hn] at this; rw [this]; rfl)
        clear hn hX
        go_enter Tryd.func62, Tryd.ntmps62
        go_wp2_with fail
        go_ret
        exact ⟨_, rfl, by rw [HG.out]; exact SOwn.nil _ _, Below.refl _ _⟩
      | false =>
        obtain ⟨R, hR⟩ : ∃ R : ByteArray, Mk.root X = R.data.toList := ⟨⟨(Mk.root X).toArray⟩, rfl⟩
        have HG := Lib.hid (show Mk.growth X m false = [R.data.toList] from by have := Mk.growth_all X false; rw [hn] at this; rw [this, hR]; rfl)
        have S := Lib.hid (rroot_to X m hn (by omega) hX R hR xa b off cap w HL.out)
        clear hn hX hR
        go_enter Tryd.func62, Tryd.ntmps62
        go_wp2_with fail
        refine S.out.mono ?_
        rintro _ w1 ⟨rfl, hb1⟩
        have B1 := Lib.hid hb1
        clear hb1
        go_wp2_with fail
        go_ret
        exact ⟨_, rfl, by rw [HG.out]; exact sown_one B1.out.size R, below_alloc B1.out (Nat.le_refl _) _⟩
    · have h2 : 2 ≤ n := by omega
      obtain rfl := HL.out.at_ (by omega)
      have e1 : ((m : Int) == (n : Int)) = false := by rw [beq_eq_false_iff_ne]; omega
      have e2 : (m : Int) ≠ (n : Int) := by omega
      have hk1 := Mk.split_lt h2
      have hk0 := Mk.split_pos n
      have hp1 := Mk.growth_left (X := X) (m := m) (known := known) (by omega)
      have hp2 := Mk.growth_right (X := X) (m := m) (known := known) (by omega) (by omega)
      rw [hn] at hp1 hp2
      have HK := Lib.hid (fun w' : World => rsplit_any n h2 (by omega) w')
      obtain ⟨k, hk⟩ : ∃ k, Mk.split n = k := ⟨_, rfl⟩
      rw [hk] at hk0 hk1 HK hp1 hp2
      have hcap := HL.out.le
      have hcap2 : n ≤ cap := by omega
      have b1 : (0 : Int) ≤ (k : Int) := by omega
      have b2 : (k : Int) ≤ (n : Int) := by omega
      have b3 : (k : Int) ≤ (cap : Int) := by omega
      have b4 : (n : Int) ≤ (cap : Int) := by omega
      have b5 : k ≤ n := by omega
      have b6 : k ≤ cap := by omega
      have b7 : ¬ cap = k := by omega
      have hXt : ∀ x ∈ X.take k, x.length ≤ 40 := fun x hx => hX x (List.mem_of_mem_take hx)
      have hXd : ∀ x ∈ X.drop k, x.length ≤ 40 := fun x hx => hX x (List.mem_of_mem_drop hx)
      obtain ⟨R1, hR1⟩ : ∃ R : ByteArray, Mk.root (X.take k) = R.data.toList := ⟨⟨(Mk.root (X.take k)).toArray⟩, rfl⟩
      obtain ⟨R2, hR2⟩ : ∃ R : ByteArray, Mk.root (X.drop k) = R.data.toList := ⟨⟨(Mk.root (X.drop k)).toArray⟩, rfl⟩
      have lt1 : (X.take k).length = k := by rw [List.length_take]; omega
      have ld1 : (X.drop k).length = n - k := by rw [List.length_drop]; omega
      by_cases hik : m ≤ k
      · have hp := hp1 hik
        rw [hR2] at hp
        have hPl := Mk.growth_len N (X.take k) m known (by omega)
        obtain ⟨P, hP⟩ : ∃ P, Mk.growth (X.take k) m known = P := ⟨_, rfl⟩
        rw [hP] at hp hPl
        have hiki : (m : Int) ≤ (k : Int) := by omega
        have HP := Lib.hid (show ∀ T : List (List UInt8) → Prop, T (P ++ [R2.data.toList]) → T (Mk.growth X m known) from fun T h => by rw [hp]; exact h)
        have S1 := Lib.hid (fun (w5 : World) (hb : Below w.heap.size w w5) => (IH.out (X.take k) k lt1 (by omega) (by omega) hXt m h0 hik known _ b off cap w5 ((HL.out.take k).below hb)))
        rw [hP] at S1
        have S2 := Lib.hid (fun (w5 : World) (hb : Below w.heap.size w w5) => rroot_to (X.drop k) (n - k) ld1 (by omega) hXd R2 hR2 _ b (off + k) (cap - k) w5 ((HL.out.drop k (by omega)).below hb))
        clear hcap hk hXt hXd hR1 hR2 hX hp1 hp2 hp hP lt1 ld1 hn
        go_enter Tryd.func62, Tryd.ntmps62
        go_wp2_with fail
        refine (HK.out _).mono ?_
        rintro _ w' ⟨rfl, rfl⟩
        go_wp2_with fail
        go_region_held3 (fun _ => True) (trivial) ((first | (refine step_append_strs (by rfl) _ _ (by rfl) w'.heap.size _ ([] ++ P) (by rfl) (hO3.alloc _) ⟨w7.heap.size, 0, none⟩ 1 1 [R2.data.toList] (by rfl) rfl (cells_new w7 (sv [R2.data.toList]) _) (by simp; omega) (Nat.le_trans hB3.size (by first | exact Nat.le_succ _ | simp)) ?_; intro v8 w8 hown hgrow) | (go_at_call 34; refine (S2.out _ hB2).mono ?_; rintro e w7 ⟨rfl, hB7⟩; have hB3 := hB2.trans (hB7.mono hB2.size); have hO3 := hO2.below hB7) | (refine step_append_rows (by rfl) _ _ (by rfl) w'.heap.size _ [] (by rfl) hO0 _ v5 P (by rfl) hO1 (by simp; omega) hB1.size ?_; intro v6 w6 hO2 hg6; have hB2 := below_grown hB1 hO0 hg6 (Nat.le_refl _) (Nat.le_refl _)) | (refine step_append_rows (by rfl) _ _ (by rfl) w'.heap.size _ [] (by rfl) (sown_lit w5 hB1.size [] (by simp)) _ v5 P (by rfl) (hO1.alloc _) (by simp; omega) (below_alloc hB1 (Nat.le_refl _) _).size ?_; intro v6 w6 hO2 hg6; have hB2 := below_grown (below_alloc hB1 (Nat.le_refl _) _) (sown_lit w5 hB1.size [] (by simp)) hg6 (Nat.le_refl _) (Nat.le_refl _)) | (go_at_call 62; refine (S1.out _ (start_below w')).mono ?_; rintro e w5 ⟨v5, rfl, hO1, hB5⟩; have hB1 := start_then w' hB5; have hO0 := (start_own w').below hB5) | (go_at_call 62; refine (S1.out _ (below_drew (Below.refl _ _))).mono ?_; rintro e w5 ⟨v5, rfl, hO1, hB5⟩; have hB1 := (below_drew (Below.refl _ _)).trans hB5) | fail))
        all_goals
          have HO := Lib.hid (HP.out (fun t => SOwn w8 w'.heap.size v8 t) hown)
          have HB := Lib.hid (below_grown (below_alloc hB3 (Nat.le_refl _) _) (hO3.alloc _) hgrow (Nat.le_refl _) (Nat.le_refl _))
          try clear hO0
          clear hB1 hB2 hB3 hB5 hB7 hO1 hO2 hO3 hown hgrow hg6
          go_wp2
          go_ret
          exact ⟨v8, rfl, HO.out, HB.out⟩
      · have hp := hp2 hik
        rw [hR1] at hp
        have hPl := Mk.growth_len N (X.drop k) (m - k) false (by omega)
        obtain ⟨P, hP⟩ : ∃ P, Mk.growth (X.drop k) (m - k) false = P := ⟨_, rfl⟩
        rw [hP] at hp hPl
        have hiki : ¬ (m : Int) ≤ (k : Int) := by omega
        obtain ⟨j, hj⟩ : ∃ j, m - k = j := ⟨_, rfl⟩
        have j1 : (m : Int) - (k : Int) = (j : Int) := by omega
        have j2 : IntKind.i64.wrap ((m : Int) - (k : Int)) = (j : Int) := by rw [IntWalk.i64_in _ (by omega)]; omega
        have j3 : IntKind.i64.wrap (j : Int) = (j : Int) := IntWalk.i64_in _ (by omega)
        rw [hj] at hP
        have HP := Lib.hid (show ∀ T : List (List UInt8) → Prop, T (P ++ [R1.data.toList]) → T (Mk.growth X m known) from fun T h => by rw [hp]; exact h)
        have S1 := Lib.hid (fun (w5 : World) (hb : Below w.heap.size w w5) => (IH.out (X.drop k) (n - k) ld1 (by omega) (by omega) hXd j (by omega) (by omega) false _ b (off + k) (cap - k) w5 ((HL.out.drop k (by omega)).below hb)))
        rw [hP] at S1
        have S2 := Lib.hid (fun (w5 : World) (hb : Below w.heap.size w w5) => rroot_to (X.take k) k lt1 (by omega) hXt R1 hR1 _ b off cap w5 ((HL.out.take k).below hb))
        clear hcap hk hXt hXd hR1 hR2 hX hp1 hp2 hp hP lt1 ld1 hj hn
        go_enter Tryd.func62, Tryd.ntmps62
        go_wp2_with fail
        refine (HK.out _).mono ?_
        rintro _ w' ⟨rfl, rfl⟩
        go_wp2_with fail
        go_region_held3 (fun _ => True) (trivial) ((first | (refine step_append_strs (by rfl) _ _ (by rfl) w'.heap.size _ ([] ++ P) (by rfl) (hO3.alloc _) ⟨w7.heap.size, 0, none⟩ 1 1 [R1.data.toList] (by rfl) rfl (cells_new w7 (sv [R1.data.toList]) _) (by simp; omega) (Nat.le_trans hB3.size (by first | exact Nat.le_succ _ | simp)) ?_; intro v8 w8 hown hgrow) | (go_at_call 34; refine (S2.out _ hB2).mono ?_; rintro e w7 ⟨rfl, hB7⟩; have hB3 := hB2.trans (hB7.mono hB2.size); have hO3 := hO2.below hB7) | (refine step_append_rows (by rfl) _ _ (by rfl) w'.heap.size _ [] (by rfl) hO0 _ v5 P (by rfl) hO1 (by simp; omega) hB1.size ?_; intro v6 w6 hO2 hg6; have hB2 := below_grown hB1 hO0 hg6 (Nat.le_refl _) (Nat.le_refl _)) | (refine step_append_rows (by rfl) _ _ (by rfl) w'.heap.size _ [] (by rfl) (sown_lit w5 hB1.size [] (by simp)) _ v5 P (by rfl) (hO1.alloc _) (by simp; omega) (below_alloc hB1 (Nat.le_refl _) _).size ?_; intro v6 w6 hO2 hg6; have hB2 := below_grown (below_alloc hB1 (Nat.le_refl _) _) (sown_lit w5 hB1.size [] (by simp)) hg6 (Nat.le_refl _) (Nat.le_refl _)) | (go_at_call 62; refine (S1.out _ (start_below w')).mono ?_; rintro e w5 ⟨v5, rfl, hO1, hB5⟩; have hB1 := start_then w' hB5; have hO0 := (start_own w').below hB5) | (go_at_call 62; refine (S1.out _ (below_drew (Below.refl _ _))).mono ?_; rintro e w5 ⟨v5, rfl, hO1, hB5⟩; have hB1 := (below_drew (Below.refl _ _)).trans hB5) | fail))
        all_goals
          have HO := Lib.hid (HP.out (fun t => SOwn w8 w'.heap.size v8 t) hown)
          have HB := Lib.hid (below_grown (below_alloc hB3 (Nat.le_refl _) _) (hO3.alloc _) hgrow (Nat.le_refl _) (Nat.le_refl _))
          try clear hO0
          clear hB1 hB2 hB3 hB5 hB7 hO1 hO2 hO3 hown hgrow hg6
          go_wp2
          go_ret
          exact ⟨v8, rfl, HO.out, HB.out⟩
set_option maxHeartbeats 1000000 in
set_option maxRecDepth 100000 in
theorem rgrown_any (X : List (List UInt8)) (n : Nat) (hn : X.length = n) (hN : n ≤ 1000000) (hX : ∀ x ∈ X, x.length ≤ 40) (m : Int) (xa : Option Addr) (b off cap : Nat) (w : World) (hL : Lv w xa b off cap X) :
    Calls Tryd.prog 39 #[.slice xa n cap, .int .i64 m] w fun e w' => ∃ v, e = .returned v ∧ SOwn w' w.heap.size v (Mk.grown X m) ∧ Below w.heap.size w w' := by
  by_cases h1 : m < 1
  · have HG := Lib.hid (show Mk.grown X m = [] from by unfold Mk.grown; rw [if_neg (by omega)])
    clear hn hX hL
    go_enter Tryd.func39, Tryd.ntmps39
    go_wp2_with fail
    go_ret
    exact ⟨_, rfl, by rw [HG.out]; exact SOwn.nil _ _, Below.refl _ _⟩
  by_cases h2 : m > (n : Int)
  · have HG := Lib.hid (show Mk.grown X m = [] from by unfold Mk.grown; rw [if_neg (by omega)])
    clear hn hX hL
    go_enter Tryd.func39, Tryd.ntmps39
    go_wp2_with fail
    go_ret
    exact ⟨_, rfl, by rw [HG.out]; exact SOwn.nil _ _, Below.refl _ _⟩
  obtain ⟨j, rfl⟩ := Int.eq_ofNat_of_zero_le (by omega : 0 ≤ m)
  have HG := Lib.hid (show Mk.grown X (j : Int) = Mk.growth X j true from by unfold Mk.grown; rw [if_pos (by omega), Int.toNat_natCast])
  have S := Lib.hid (rgrowth_any n X n hn (Nat.le_refl _) hN hX j (by omega) (by omega) true xa b off cap w hL)
  clear hn hX hL
  go_enter Tryd.func39, Tryd.ntmps39
  go_wp2_with fail
  refine S.out.mono ?_
  rintro _ w1 ⟨v, rfl, ho, hb⟩
  have HO := Lib.hid ho
  have HB := Lib.hid hb
  clear ho hb
  go_wp2_with fail
  go_ret
  exact ⟨v, rfl, by rw [HG.out]; exact HO.out, HB.out⟩
end Go.Proofs.YteiabaddmclmlaaDoor
