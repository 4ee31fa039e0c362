/-
  The program's Path.
-/
import Derived.Test.YteiabaddmclmlaaDoorMRoot
namespace Go.Proofs.YteiabaddmclmlaaDoor
open Go Go.RowKit Go.Shelf
namespace Mk
theorem path_len : ∀ (N : Nat) (X : List B) (i : Nat), X.length ≤ N → (path X i).length ≤ N
  | 0, X, i, h => by rw [path_none (by omega)]; simp
  | N + 1, X, i, h => by
    by_cases hc : 2 ≤ X.length ∧ i < X.length
    · have h1 := split_lt hc.1
      have h0 := split_pos X.length
      by_cases hi : i < split X.length
      · rw [path_left hc.1 hi, List.length_append]
        have := path_len N (X.take (split X.length)) i (by rw [List.length_take]; omega)
        simp; omega
      · rw [path_right hc.1 hc.2 hi, List.length_append]
        have := path_len N (X.drop (split X.length)) (i - split X.length) (by rw [List.length_drop]; omega)
        simp; omega
    · rw [path_none hc]; simp
end Mk
set_option maxHeartbeats 4000000 in
set_option maxRecDepth 100000 in
theorem path_out (X : List (List UInt8)) (n : Nat) (hn : X.length = n) (hN : n ≤ 1000000) (i : Int) (hi : i < 0 ∨ (n : Int) ≤ i ∨ n = 1) (xa : Option Addr) (cap : Nat) (w : World) :
    Calls Tryd.prog 36 #[.slice xa n cap, .int .i64 i] w fun e w' => e = .returned (.slice none 0 0) ∧ Below w.heap.size w w' := by
  by_cases h0 : i < 0
  · go_enter Tryd.func36, Tryd.ntmps36
    go_wp2
    go_ret
    exact ⟨rfl, Below.refl _ _⟩
  by_cases h1 : (n : Int) ≤ i
  · go_enter Tryd.func36, Tryd.ntmps36
    go_wp2
    go_ret
    exact ⟨rfl, Below.refl _ _⟩
  obtain rfl : n = 1 := by omega
  have h2 : ¬ i ≥ 1 := by omega
  go_enter Tryd.func36, Tryd.ntmps36
  go_wp2
  go_ret
  exact ⟨rfl, Below.refl _ _⟩
set_option maxHeartbeats 4000000 in
set_option maxRecDepth 100000 in
theorem path_any : ∀ (N : Nat) (X : List (List UInt8)) (n : Nat) (_ : X.length = n) (_ : n ≤ N) (_ : N ≤ 1000000) (_ : ∀ x ∈ X, x.length ≤ 40) (i : Nat) (_ : i < n) (xa : Option Addr) (b off cap : Nat) (w : World) (_ : Lv w xa b off cap X) (_ : Env w),
    Calls Tryd.prog 36 #[.slice xa n cap, .int .i64 (i : Int)] w fun e w' => ∃ v, e = .returned v ∧ SOwn w' w.heap.size v (Mk.path X i) ∧ Below w.heap.size w w' := by
  intro N
  induction N with
  | zero => exact fun X n hn hN _ _ i hi => by omega
  | succ N ih =>
    intro X n hn hN hN2 hX i hi xa b off cap w hL hE
    have IH := Lib.hid ih
    have HL := Lib.hid hL
    have HE := Lib.hid hE
    clear ih hL hE
    by_cases h2 : 2 ≤ n
    · obtain rfl := HL.out.at_ (by omega)
      have hk1 := Mk.split_lt h2
      have hk0 := Mk.split_pos n
      have hp1 := Mk.path_left (X := X) (i := i) (by omega)
      have hp2 := Mk.path_right (X := X) (i := i) (by omega) (by omega)
      rw [hn] at hp1 hp2
      have HK := Lib.hid (fun w' : World => split_any n h2 (by omega) w')
      obtain ⟨k, hk⟩ : ∃ k, Mk.split n = k := ⟨_, rfl⟩
      rw [hk] at hk0 hk1 HK hp1 hp2
      have hcap := HL.out.le
      have hcap2 : n ≤ cap := by omega
      have b1 : (0 : Int) ≤ (k : Int) := by omega
      have b2 : (k : Int) ≤ (n : Int) := by omega
      have b3 : (k : Int) ≤ (cap : Int) := by omega
      have b4 : (n : Int) ≤ (cap : Int) := by omega
      have b5 : k ≤ n := by omega
      have b6 : k ≤ cap := by omega
      have b7 : ¬ cap = k := by omega
      have d0 : ¬ (i : Int) < 0 := by omega
      have d1 : ¬ (i : Int) ≥ (n : Int) := by omega
      have d2 : (n : Int) ≠ 1 := by omega
      have hXt : ∀ x ∈ X.take k, x.length ≤ 40 := fun x hx => hX x (List.mem_of_mem_take hx)
      have hXd : ∀ x ∈ X.drop k, x.length ≤ 40 := fun x hx => hX x (List.mem_of_mem_drop hx)
      obtain ⟨R1, hR1⟩ : ∃ R : ByteArray, Mk.root (X.take k) = R.data.toList := ⟨⟨(Mk.root (X.take k)).toArray⟩, rfl⟩
      obtain ⟨R2, hR2⟩ : ∃ R : ByteArray, Mk.root (X.drop k) = R.data.toList := ⟨⟨(Mk.root (X.drop k)).toArray⟩, rfl⟩
      have lt1 : (X.take k).length = k := by rw [List.length_take]; omega
      have ld1 : (X.drop k).length = n - k := by rw [List.length_drop]; omega
      by_cases hik : i < k
      · have hp := hp1 hik
        rw [hR2] at hp
        have hPl := Mk.path_len N (X.take k) i (by omega)
        obtain ⟨P, hP⟩ : ∃ P, Mk.path (X.take k) i = P := ⟨_, rfl⟩
        rw [hP] at hp hPl
        have hiki : (i : Int) < (k : Int) := by omega
        have HP := Lib.hid (show ∀ T : List (List UInt8) → Prop, T (P ++ [R2.data.toList]) → T (Mk.path X i) from fun T h => by rw [hp]; exact h)
        have S1 := Lib.hid (fun (w5 : World) (hb : Below w.heap.size w w5) => (IH.out (X.take k) k lt1 (by omega) (by omega) hXt i hik _ b off cap w5 ((HL.out.take k).below hb) (HE.out.new hb)))
        rw [hP] at S1
        have S2 := Lib.hid (fun (w5 : World) (hb : Below w.heap.size w w5) => root_to (X.drop k) (n - k) ld1 (by omega) hXd R2 hR2 _ b (off + k) (cap - k) w5 ((HL.out.drop k (by omega)).below hb) (HE.out.new hb))
        clear hcap hk hXt hXd hR1 hR2 hX hp1 hp2 hp hP lt1 ld1
        go_enter Tryd.func36, Tryd.ntmps36
        go_wp2_with fail
        refine (HK.out _).mono ?_
        rintro _ w' ⟨rfl, rfl⟩
        go_wp2_with fail
        go_region_held3 (fun _ => True) (trivial) ((first | (refine step_append_strs (by rfl) _ _ (by rfl) w'.heap.size _ P (by rfl) (hO2.alloc _) ⟨w6.heap.size, 0, none⟩ 1 1 [R2.data.toList] (by rfl) rfl (cells_new w6 (sv [R2.data.toList]) _) (by omega) (Nat.le_trans hB2.size (by first | exact Nat.le_succ _ | simp)) ?_; intro v8 w8 hown hgrow) | (go_at_call 33; refine (S2.out _ hB1).mono ?_; rintro e w6 ⟨rfl, hB6⟩; have hB2 := hB1.trans (hB6.mono hB1.size); have hO2 := hO1.below hB6) | (go_at_call 36; refine (S1.out _ (below_drew (Below.refl _ _))).mono ?_; rintro e w5 ⟨v5, rfl, hO1, hB5⟩; have hB1 := (below_drew (Below.refl _ _)).trans hB5) | fail))
        all_goals
          have HO := Lib.hid (HP.out (fun t => SOwn w8 w'.heap.size v8 t) hown)
          have HB := Lib.hid (below_grown (below_alloc hB2 (Nat.le_refl _) _) (hO2.alloc _) hgrow (Nat.le_refl _) (Nat.le_refl _))
          clear hB1 hB2 hB5 hB6 hO1 hO2 hown hgrow
          go_wp2
          go_ret
          exact ⟨v8, rfl, HO.out, HB.out⟩
      · have hp := hp2 hik
        rw [hR1] at hp
        have hPl := Mk.path_len N (X.drop k) (i - k) (by omega)
        obtain ⟨P, hP⟩ : ∃ P, Mk.path (X.drop k) (i - k) = P := ⟨_, rfl⟩
        rw [hP] at hp hPl
        have hiki : ¬ (i : Int) < (k : Int) := by omega
        obtain ⟨j, hj⟩ : ∃ j, i - k = j := ⟨_, rfl⟩
        have j1 : (i : Int) - (k : Int) = (j : Int) := by omega
        have j2 : IntKind.i64.wrap ((i : Int) - (k : Int)) = (j : Int) := by rw [IntWalk.i64_in _ (by omega)]; omega
        have j3 : IntKind.i64.wrap (j : Int) = (j : Int) := IntWalk.i64_in _ (by omega)
        rw [hj] at hP
        have HP := Lib.hid (show ∀ T : List (List UInt8) → Prop, T (P ++ [R1.data.toList]) → T (Mk.path X i) from fun T h => by rw [hp]; exact h)
        have S1 := Lib.hid (fun (w5 : World) (hb : Below w.heap.size w w5) => (IH.out (X.drop k) (n - k) ld1 (by omega) (by omega) hXd j (by omega) _ b (off + k) (cap - k) w5 ((HL.out.drop k (by omega)).below hb) (HE.out.new hb)))
        rw [hP] at S1
        have S2 := Lib.hid (fun (w5 : World) (hb : Below w.heap.size w w5) => root_to (X.take k) k lt1 (by omega) hXt R1 hR1 _ b off cap w5 ((HL.out.take k).below hb) (HE.out.new hb))
        clear hcap hk hXt hXd hR1 hR2 hX hp1 hp2 hp hP lt1 ld1 hj
        go_enter Tryd.func36, Tryd.ntmps36
        go_wp2_with fail
        refine (HK.out _).mono ?_
        rintro _ w' ⟨rfl, rfl⟩
        go_wp2_with fail
        go_region_held3 (fun _ => True) (trivial) ((first | (refine step_append_strs (by rfl) _ _ (by rfl) w'.heap.size _ P (by rfl) (hO2.alloc _) ⟨w6.heap.size, 0, none⟩ 1 1 [R1.data.toList] (by rfl) rfl (cells_new w6 (sv [R1.data.toList]) _) (by omega) (Nat.le_trans hB2.size (by first | exact Nat.le_succ _ | simp)) ?_; intro v8 w8 hown hgrow) | (go_at_call 33; refine (S2.out _ hB1).mono ?_; rintro e w6 ⟨rfl, hB6⟩; have hB2 := hB1.trans (hB6.mono hB1.size); have hO2 := hO1.below hB6) | (go_at_call 36; refine (S1.out _ (below_drew (Below.refl _ _))).mono ?_; rintro e w5 ⟨v5, rfl, hO1, hB5⟩; have hB1 := (below_drew (Below.refl _ _)).trans hB5) | fail))
        all_goals
          have HO := Lib.hid (HP.out (fun t => SOwn w8 w'.heap.size v8 t) hown)
          have HB := Lib.hid (below_grown (below_alloc hB2 (Nat.le_refl _) _) (hO2.alloc _) hgrow (Nat.le_refl _) (Nat.le_refl _))
          clear hB1 hB2 hB5 hB6 hO1 hO2 hown hgrow
          go_wp2
          go_ret
          exact ⟨v8, rfl, HO.out, HB.out⟩
    · obtain rfl : n = 1 := by omega
      exact (path_out X 1 hn (by omega) i (.inr (.inr rfl)) xa cap w).mono fun e w' h => ⟨_, h.1, by rw [Mk.path_none (by omega)]; exact SOwn.nil _ _, h.2⟩
end Go.Proofs.YteiabaddmclmlaaDoor
