/-
  The law MerkleParts, walked.
-/
import Derived.Test.YteiabaddmclmlaaDoorMTells
namespace Go.Proofs.YteiabaddmclmlaaDoor
open Go Go.RowKit Go.Shelf
theorem path_own (X : List (List UInt8)) (n : Nat) (hn : X.length = n) (hN : n ≤ 1000000) (hX : ∀ x ∈ X, x.length ≤ 40) (i : Int) (P : List (List UInt8)) (hP : Mk.pathI X i = P) (xa : Option Addr) (b off cap : Nat) (w : World) (hL : Lv w xa b off cap X) (hE : Env w) :
    Calls Tryd.prog 36 #[.slice xa n cap, .int .i64 i] w fun e w' => ∃ v, e = .returned v ∧ SOwn w' w.heap.size v P ∧ Below w.heap.size w w' :=
  (path_every X n hn hN hX i P hP P.length rfl xa b off cap w hL hE).mono fun e w' h => by
    obtain ⟨ya, c, d, v, hv, he, ho, hl, hb⟩ := h
    exact ⟨v, he, ho, hb⟩
theorem pathI_nat (X : List (List UInt8)) (i : Nat) : Mk.pathI X (i : Int) = Mk.path X i := by unfold Mk.pathI; rw [if_pos (by omega), Int.toNat_natCast]
theorem parts_one (at_ : Nat) (k : Int) (h2 : 2 ≤ at_) (h64 : at_ ≤ 64) (hat : at_ = 2 ^ k.toNat) (hk1 : 1 ≤ k) (hk6 : k ≤ 6) (L : List (List UInt8)) (n : Nat) (hn : L.length = n) (i : Nat) (hi : i < n) (hlo : at_ < n) (hhi : n ≤ 2 * at_) :
    Mk.root (L.map Mk.leaf) = Mk.join (Mk.root ((L.map Mk.leaf).take at_)) (Mk.root ((L.map Mk.leaf).drop at_)) ∧
    Mk.pathI (L.map Mk.leaf) (i : Int) = (if i < at_ then Mk.pathI ((L.map Mk.leaf).take at_) (i : Int) ++ [Mk.root ((L.map Mk.leaf).drop at_)] else Mk.pathI ((L.map Mk.leaf).drop at_) ((i - at_ : Nat) : Int) ++ [Mk.root ((L.map Mk.leaf).take at_)]) := by
  have hs : Mk.split n = at_ := by rw [hat]; exact Mk.split_eq (by rw [← hat]; exact hlo) (by rw [← hat]; exact hhi)
  have hl : (L.map Mk.leaf).length = n := by rw [List.length_map]; exact hn
  have hr := Mk.root_many (X := L.map Mk.leaf) (by omega)
  rw [hl, hs] at hr
  refine ⟨hr, ?_⟩
  simp only [pathI_nat]
  by_cases h : i < at_
  · have := Mk.path_left (X := L.map Mk.leaf) (i := i) (by omega) (by rw [hl, hs]; exact h)
    rw [hl, hs] at this
    rw [if_pos h, this]
  · have := Mk.path_right (X := L.map Mk.leaf) (i := i) (by omega) (by omega) (by rw [hl, hs]; exact h)
    rw [hl, hs] at this
    rw [if_neg h, this]
set_option maxHeartbeats 20000000 in
set_option maxRecDepth 100000 in
theorem parts_1 (L : List (List UInt8)) (n : Nat) (hn : L.length = n) (hL40 : ∀ x ∈ L, x.length ≤ 40) (hlo : 2 < n) (hhi : n ≤ 4) (i : Nat) (hi : i < n) (xa : Option Addr) (b off cap : Nat) (w : World) (hL : Lv w xa b off cap L) (hE : Env w)
    (HS : Hid (Calls Tryd.prog 27 #[] w fun e w' => e = .returned (.bool true) ∧ Below w.heap.size w w')) (F1 : Hid (∀ W, Below w.heap.size w W → Calls Tryd.prog 28 #[.slice xa n cap] W fun e w' => e = .returned (.bool true) ∧ W = w')) :
    Calls Tryd.prog 8 #[.slice xa n cap, .int .i64 1, .int .i64 (i : Int)] w fun e w' => e = .returned (.bool true) ∧ Below w.heap.size w w' := by
  have HL := Lib.hid hL
  have HE := Lib.hid hE
  obtain ⟨hr, hp⟩ := parts_one 2 1 (by omega) (by omega) rfl (by omega) (by omega) L n hn i hi hlo (by omega)
  have hl : (L.map Mk.leaf).length = n := by rw [List.length_map]; exact hn
  have hX : ∀ x ∈ L.map Mk.leaf, x.length ≤ 40 := fun x hx => by
    obtain ⟨y, _, rfl⟩ := List.mem_map.1 hx
    rw [Mk.leaf_len]; omega
  have SV := Lib.hid (fun W (hb : Below w.heap.size w W) => leaves_any L n hn (by omega) hL40 xa b off cap W (HL.out.below hb) (HE.out.new hb))
  obtain ⟨X, hXX⟩ : ∃ X, L.map Mk.leaf = X := ⟨_, rfl⟩
  rw [hXX] at SV hr hp hl hX
  clear hXX hL hE hL40 hn
  have hXt : ∀ x ∈ X.take 2, x.length ≤ 40 := fun x hx => hX x (List.mem_of_mem_take hx)
  have hXd : ∀ x ∈ X.drop 2, x.length ≤ 40 := fun x hx => hX x (List.mem_of_mem_drop hx)
  have lt1 : (X.take 2).length = 2 := by rw [List.length_take]; omega
  have ld1 : (X.drop 2).length = n - 2 := by rw [List.length_drop]; omega
  obtain ⟨R1, hR1⟩ : ∃ R : ByteArray, Mk.root (X.take 2) = R.data.toList := ⟨⟨(Mk.root (X.take 2)).toArray⟩, rfl⟩
  obtain ⟨R2, hR2⟩ : ∃ R : ByteArray, Mk.root (X.drop 2) = R.data.toList := ⟨⟨(Mk.root (X.drop 2)).toArray⟩, rfl⟩
  have z1 : R1.size ≤ 40 := by rw [Lib.size_eq, ← hR1]; exact Mk.root_len hXt
  have z2 : R2.size ≤ 40 := by rw [Lib.size_eq, ← hR2]; exact Mk.root_len hXd
  obtain ⟨J, hJ⟩ : ∃ R : ByteArray, Mk.join R1.data.toList R2.data.toList = R.data.toList := ⟨⟨(Mk.join R1.data.toList R2.data.toList).toArray⟩, rfl⟩
  rw [hR1, hR2, hJ] at hr
  rw [hR1, hR2] at hp
  have qJ1 : (J.toList == J.toList) = true := by simp
  obtain ⟨P1, hP1⟩ : ∃ P, Mk.pathI (X.take 2) (i : Int) = P := ⟨_, rfl⟩
  obtain ⟨P2, hP2⟩ : ∃ P, Mk.pathI (X.drop 2) ((i - 2 : Nat) : Int) = P := ⟨_, rfl⟩
  obtain ⟨P, hP⟩ : ∃ P, Mk.pathI X (i : Int) = P := ⟨_, rfl⟩
  obtain ⟨m, hPm⟩ : ∃ m, P.length = m := ⟨_, rfl⟩
  have lPm : m ≤ 1000000 := by
    rw [← hPm, ← hP, pathI_nat]
    have := Mk.path_len _ X i (Nat.le_refl _); omega
  have lP1 : P1.length ≤ 1000000 := by
    rw [← hP1, pathI_nat]
    have := Mk.path_len _ (X.take 2) i (Nat.le_refl _); omega
  have lP2 : P2.length ≤ 1000000 := by
    rw [← hP2, pathI_nat]
    have := Mk.path_len _ (X.drop 2) (i - 2) (Nat.le_refl _); omega
  rw [hP1, hP2, hP] at hp
  have T1 := Lib.hid (fun ya vb cp W hl2 hE2 => root_to (X.take 2) 2 lt1 (by omega) hXt R1 hR1 ya vb 0 cp W hl2 hE2)
  have T2 := Lib.hid (fun ya vb off cp W hl2 hE2 => root_to (X.drop 2) (n - 2) ld1 (by omega) hXd R2 hR2 ya vb off cp W hl2 hE2)
  have T3 := Lib.hid (fun ya vb cp W hl2 hE2 => path_own (X.take 2) 2 lt1 (by omega) hXt (i : Int) P1 hP1 ya vb 0 cp W hl2 hE2)
  have T4 := Lib.hid (fun ya vb off cp W hl2 hE2 => path_own (X.drop 2) (n - 2) ld1 (by omega) hXd ((i - 2 : Nat) : Int) P2 hP2 ya vb off cp W hl2 hE2)
  have T5 := Lib.hid (fun ya vb cp W hl2 hE2 => root_to X n hl (by omega) hX J hr ya vb 0 cp W hl2 hE2)
  have T6 := Lib.hid (fun W hE => join_to R1 R2 J (by omega) (by omega) hJ W hE)
  have T7 := Lib.hid (fun ya vb cp W hl2 hE2 => path_every X n hl (by omega) hX (i : Int) P hP m hPm ya vb 0 cp W hl2 hE2)
  have n1 : ¬ (n : Int) ≤ 2 := by omega
  have n2 : ¬ (n : Int) > 4 := by omega
  have n3 : ¬ (i : Int) < 0 := by omega
  have n4 : ¬ (i : Int) ≥ (n : Int) := by omega
  have n5 : 2 ≤ n := by omega
  have n6 : (2 : Int) ≤ (n : Int) := by omega
  have T8 := Lib.hid (fun xa ya b off cap b' off' cap' W => strings_same P m hPm lPm xa ya b off cap b' off' cap' W)
  have HPM := Lib.hid hPm
  have HX := Lib.hid hl
  clear hr hXt hXd hX hR1 hR2 hJ hP1 hP2 hP lt1 ld1 z1 z2 hPm hl
  by_cases hiA : i < 2
  · rw [if_pos hiA] at hp
    have HP := Lib.hid (show ∀ Z : List (List UInt8) → Prop, Z (P1 ++ [R2.data.toList]) → Z P from fun Z h => by rw [hp]; exact h)
    have n7 : ¬ (i : Int) ≥ 2 := by omega
    clear hp
    go_enter Tryd.func8, Tryd.ntmps8
    go_wp2_with fail
    refine HS.out.mono ?_
    rintro _ w1 ⟨rfl, hb⟩
    have B1 := Lib.hid hb
    clear hb
    go_wp2_with fail
    refine (F1.out _ B1.out).mono ?_
    rintro _ w2 ⟨rfl, rfl⟩
    go_wp2_with fail
    refine (SV.out _ B1.out).mono ?_
    rintro _ w2 ⟨v2, rfl, ho2, hb⟩
    have B2 := Lib.hid (B1.out.trans (hb.mono B1.out.size))
    have hrow := ho2.row
    rw [HX.out] at hrow
    obtain ⟨ya, vb, cp, rfl, hlv⟩ := hrow
    obtain rfl := hlv.at_ (by rw [HX.out]; omega)
    have L2 := Lib.hid hlv
    have hcp := hlv.le
    rw [HX.out] at hcp
    have c1 : (2 : Int) ≤ (cp : Int) := by omega
    have c2 : 2 ≤ cp := by omega
    have c3 : ¬ cp = 2 := by omega
    have c4 : (n : Int) ≤ (cp : Int) := by omega
    clear hb ho2 hlv
    go_wp2_with fail
    refine (T1.out _ _ _ _ (L2.out.take 2) (HE.out.new B2.out)).mono ?_
    rintro _ w3 ⟨rfl, hb⟩
    have B3 := Lib.hid (B2.out.trans (hb.mono B2.out.size))
    have L3 := Lib.hid (L2.out.below hb)
    clear hb
    go_wp2_with fail
    refine (T2.out _ _ _ _ _ (L3.out.drop 2 (by rw [HX.out]; omega)) (HE.out.new B3.out)).mono ?_
    rintro _ w4 ⟨rfl, hb⟩
    have B4 := Lib.hid (B3.out.trans (hb.mono B3.out.size))
    have L4 := Lib.hid (L3.out.below hb)
    clear hb
    go_wp2_with fail
    refine (T3.out _ _ _ _ (L4.out.take 2) (HE.out.new B4.out)).mono ?_
    rintro _ w5 ⟨v5, rfl, ho, hb⟩
    have b5 := Lib.hid hb
    have O5 := Lib.hid ho
    clear hb ho
    go_wp2_with (at_builtin; go_must (refine wpList_append_strs (by rfl) _ _ (by rfl) w4.heap.size _ P1 (by rfl) (O5.out.alloc _) ⟨w5.heap.size, 0, none⟩ 1 1 [R2.data.toList] (by rfl) rfl (cells_new w5 (sv [R2.data.toList]) _) (by omega) (Nat.le_trans b5.out.size (by first | exact Nat.le_succ _ | simp)) ?_); intro v6 w6 hown hgrow; have O6 := Lib.hid hown; have b6 := Lib.hid (below_grown (below_alloc b5.out (Nat.le_refl _) _) (O5.out.alloc _) hgrow (Nat.le_refl _) (Nat.le_refl _)); have B6 := Lib.hid (B4.out.trans (b6.out.mono B4.out.size)); have L6 := Lib.hid (L4.out.below b6.out); clear hown hgrow)
    have O8 := Lib.hid (HP.out (fun t => SOwn w6 w4.heap.size v6 t) O6.out)
    have hrow := O8.out.row
    rw [HPM.out] at hrow
    obtain ⟨za, zb, zc, rfl, hlv⟩ := hrow
    have LV := Lib.hid hlv
    clear hlv
    go_wp2_with fail
    refine (T5.out _ _ _ _ L6.out (HE.out.new B6.out)).mono ?_
    rintro _ w9 ⟨rfl, hb⟩
    have B9 := Lib.hid (B6.out.trans (hb.mono B6.out.size))
    have L9 := Lib.hid (L6.out.below hb)
    have V9 := Lib.hid (LV.out.below hb)
    clear hb
    go_wp2_with fail
    refine (T6.out _ (HE.out.new B9.out)).mono ?_
    rintro _ w10 ⟨rfl, hb⟩
    have B10 := Lib.hid (B9.out.trans (hb.mono B9.out.size))
    have L10 := Lib.hid (L9.out.below hb)
    have V10 := Lib.hid (V9.out.below hb)
    clear hb
    go_wp2_with fail
    refine (T7.out _ _ _ _ L10.out (HE.out.new B10.out)).mono ?_
    rintro _ w11 ⟨yb, yc, yd, _, rfl, rfl, -, hl2, hb⟩
    have B11 := Lib.hid (B10.out.trans (hb.mono B10.out.size))
    have V11 := Lib.hid (V10.out.below hb)
    have P11 := Lib.hid hl2
    clear hb hl2
    go_wp2_with fail
    refine (T8.out _ _ _ _ _ _ _ _ _ P11.out V11.out).mono ?_
    rintro _ w12 ⟨rfl, hb⟩
    have B12 := Lib.hid (B11.out.trans (hb.mono B11.out.size))
    clear hb
    go_wp2_with fail
    go_ret
    exact ⟨rfl, B12.out⟩

  · rw [if_neg hiA] at hp
    have HP := Lib.hid (show ∀ Z : List (List UInt8) → Prop, Z (P2 ++ [R1.data.toList]) → Z P from fun Z h => by rw [hp]; exact h)
    have n7 : (i : Int) ≥ 2 := by omega
    obtain ⟨j, hj⟩ : ∃ j, i - 2 = j := ⟨_, rfl⟩
    rw [hj] at T4
    have j1 : (i : Int) - 2 = (j : Int) := by omega
    have j2 : IntKind.i64.wrap ((i : Int) - 2) = (j : Int) := by rw [IntWalk.i64_in _ (by omega)]; omega
    have j3 : IntKind.i64.wrap (j : Int) = (j : Int) := IntWalk.i64_in _ (by omega)
    clear hp hj
    go_enter Tryd.func8, Tryd.ntmps8
    go_wp2_with fail
    refine HS.out.mono ?_
    rintro _ w1 ⟨rfl, hb⟩
    have B1 := Lib.hid hb
    clear hb
    go_wp2_with fail
    refine (F1.out _ B1.out).mono ?_
    rintro _ w2 ⟨rfl, rfl⟩
    go_wp2_with fail
    refine (SV.out _ B1.out).mono ?_
    rintro _ w2 ⟨v2, rfl, ho2, hb⟩
    have B2 := Lib.hid (B1.out.trans (hb.mono B1.out.size))
    have hrow := ho2.row
    rw [HX.out] at hrow
    obtain ⟨ya, vb, cp, rfl, hlv⟩ := hrow
    obtain rfl := hlv.at_ (by rw [HX.out]; omega)
    have L2 := Lib.hid hlv
    have hcp := hlv.le
    rw [HX.out] at hcp
    have c1 : (2 : Int) ≤ (cp : Int) := by omega
    have c2 : 2 ≤ cp := by omega
    have c3 : ¬ cp = 2 := by omega
    have c4 : (n : Int) ≤ (cp : Int) := by omega
    clear hb ho2 hlv
    go_wp2_with fail
    refine (T1.out _ _ _ _ (L2.out.take 2) (HE.out.new B2.out)).mono ?_
    rintro _ w3 ⟨rfl, hb⟩
    have B3 := Lib.hid (B2.out.trans (hb.mono B2.out.size))
    have L3 := Lib.hid (L2.out.below hb)
    clear hb
    go_wp2_with fail
    refine (T2.out _ _ _ _ _ (L3.out.drop 2 (by rw [HX.out]; omega)) (HE.out.new B3.out)).mono ?_
    rintro _ w4 ⟨rfl, hb⟩
    have B4 := Lib.hid (B3.out.trans (hb.mono B3.out.size))
    have L4 := Lib.hid (L3.out.below hb)
    clear hb
    go_wp2_with fail
    refine (T3.out _ _ _ _ (L4.out.take 2) (HE.out.new B4.out)).mono ?_
    rintro _ w5 ⟨v5, rfl, ho, hb⟩
    have b5 := Lib.hid hb
    have O5 := Lib.hid ho
    clear hb ho
    go_wp2_with (at_builtin; go_must (refine wpList_append_strs (by rfl) _ _ (by rfl) w4.heap.size _ P1 (by rfl) (O5.out.alloc _) ⟨w5.heap.size, 0, none⟩ 1 1 [R2.data.toList] (by rfl) rfl (cells_new w5 (sv [R2.data.toList]) _) (by omega) (Nat.le_trans b5.out.size (by first | exact Nat.le_succ _ | simp)) ?_); intro v6 w6 hown hgrow; have O6 := Lib.hid hown; have b6 := Lib.hid (below_grown (below_alloc b5.out (Nat.le_refl _) _) (O5.out.alloc _) hgrow (Nat.le_refl _) (Nat.le_refl _)); have B6 := Lib.hid (B4.out.trans (b6.out.mono B4.out.size)); have L6 := Lib.hid (L4.out.below b6.out); clear hown hgrow)
    refine (T4.out _ _ _ _ _ (L6.out.drop 2 (by rw [HX.out]; omega)) (HE.out.new B6.out)).mono ?_
    rintro _ w7 ⟨v7, rfl, ho, hb⟩
    have b7 := Lib.hid hb
    have O7 := Lib.hid ho
    clear hb ho
    go_wp2_with (at_builtin; go_must (refine wpList_append_strs (by rfl) _ _ (by rfl) w6.heap.size _ P2 (by rfl) (O7.out.alloc _) ⟨w7.heap.size, 0, none⟩ 1 1 [R1.data.toList] (by rfl) rfl (cells_new w7 (sv [R1.data.toList]) _) (by omega) (Nat.le_trans b7.out.size (by first | exact Nat.le_succ _ | simp)) ?_); intro v8 w8 hown hgrow; have O8 := Lib.hid (HP.out (fun t => SOwn w8 w6.heap.size v8 t) hown); have b8 := Lib.hid (below_grown (below_alloc b7.out (Nat.le_refl _) _) (O7.out.alloc _) hgrow (Nat.le_refl _) (Nat.le_refl _)); have B8 := Lib.hid (B6.out.trans (b8.out.mono B6.out.size)); have L8 := Lib.hid (L6.out.below b8.out); clear hown hgrow)
    have hrow := O8.out.row
    rw [HPM.out] at hrow
    obtain ⟨za, zb, zc, rfl, hlv⟩ := hrow
    have LV := Lib.hid hlv
    clear hlv
    go_wp2_with fail
    refine (T5.out _ _ _ _ L8.out (HE.out.new B8.out)).mono ?_
    rintro _ w9 ⟨rfl, hb⟩
    have B9 := Lib.hid (B8.out.trans (hb.mono B8.out.size))
    have L9 := Lib.hid (L8.out.below hb)
    have V9 := Lib.hid (LV.out.below hb)
    clear hb
    go_wp2_with fail
    refine (T6.out _ (HE.out.new B9.out)).mono ?_
    rintro _ w10 ⟨rfl, hb⟩
    have B10 := Lib.hid (B9.out.trans (hb.mono B9.out.size))
    have L10 := Lib.hid (L9.out.below hb)
    have V10 := Lib.hid (V9.out.below hb)
    clear hb
    go_wp2_with fail
    refine (T7.out _ _ _ _ L10.out (HE.out.new B10.out)).mono ?_
    rintro _ w11 ⟨yb, yc, yd, _, rfl, rfl, -, hl2, hb⟩
    have B11 := Lib.hid (B10.out.trans (hb.mono B10.out.size))
    have V11 := Lib.hid (V10.out.below hb)
    have P11 := Lib.hid hl2
    clear hb hl2
    go_wp2_with fail
    refine (T8.out _ _ _ _ _ _ _ _ _ P11.out V11.out).mono ?_
    rintro _ w12 ⟨rfl, hb⟩
    have B12 := Lib.hid (B11.out.trans (hb.mono B11.out.size))
    clear hb
    go_wp2_with fail
    go_ret
    exact ⟨rfl, B12.out⟩

set_option maxHeartbeats 20000000 in
set_option maxRecDepth 100000 in
theorem parts_2 (L : List (List UInt8)) (n : Nat) (hn : L.length = n) (hL40 : ∀ x ∈ L, x.length ≤ 40) (hlo : 4 < n) (hhi : n ≤ 8) (i : Nat) (hi : i < n) (xa : Option Addr) (b off cap : Nat) (w : World) (hL : Lv w xa b off cap L) (hE : Env w)
    (HS : Hid (Calls Tryd.prog 27 #[] w fun e w' => e = .returned (.bool true) ∧ Below w.heap.size w w')) (F1 : Hid (∀ W, Below w.heap.size w W → Calls Tryd.prog 28 #[.slice xa n cap] W fun e w' => e = .returned (.bool true) ∧ W = w')) :
    Calls Tryd.prog 8 #[.slice xa n cap, .int .i64 2, .int .i64 (i : Int)] w fun e w' => e = .returned (.bool true) ∧ Below w.heap.size w w' := by
  have HL := Lib.hid hL
  have HE := Lib.hid hE
  obtain ⟨hr, hp⟩ := parts_one 4 2 (by omega) (by omega) rfl (by omega) (by omega) L n hn i hi hlo (by omega)
  have hl : (L.map Mk.leaf).length = n := by rw [List.length_map]; exact hn
  have hX : ∀ x ∈ L.map Mk.leaf, x.length ≤ 40 := fun x hx => by
    obtain ⟨y, _, rfl⟩ := List.mem_map.1 hx
    rw [Mk.leaf_len]; omega
  have SV := Lib.hid (fun W (hb : Below w.heap.size w W) => leaves_any L n hn (by omega) hL40 xa b off cap W (HL.out.below hb) (HE.out.new hb))
  obtain ⟨X, hXX⟩ : ∃ X, L.map Mk.leaf = X := ⟨_, rfl⟩
  rw [hXX] at SV hr hp hl hX
  clear hXX hL hE hL40 hn
  have hXt : ∀ x ∈ X.take 4, x.length ≤ 40 := fun x hx => hX x (List.mem_of_mem_take hx)
  have hXd : ∀ x ∈ X.drop 4, x.length ≤ 40 := fun x hx => hX x (List.mem_of_mem_drop hx)
  have lt1 : (X.take 4).length = 4 := by rw [List.length_take]; omega
  have ld1 : (X.drop 4).length = n - 4 := by rw [List.length_drop]; omega
  obtain ⟨R1, hR1⟩ : ∃ R : ByteArray, Mk.root (X.take 4) = R.data.toList := ⟨⟨(Mk.root (X.take 4)).toArray⟩, rfl⟩
  obtain ⟨R2, hR2⟩ : ∃ R : ByteArray, Mk.root (X.drop 4) = R.data.toList := ⟨⟨(Mk.root (X.drop 4)).toArray⟩, rfl⟩
  have z1 : R1.size ≤ 40 := by rw [Lib.size_eq, ← hR1]; exact Mk.root_len hXt
  have z2 : R2.size ≤ 40 := by rw [Lib.size_eq, ← hR2]; exact Mk.root_len hXd
  obtain ⟨J, hJ⟩ : ∃ R : ByteArray, Mk.join R1.data.toList R2.data.toList = R.data.toList := ⟨⟨(Mk.join R1.data.toList R2.data.toList).toArray⟩, rfl⟩
  rw [hR1, hR2, hJ] at hr
  rw [hR1, hR2] at hp
  have qJ1 : (J.toList == J.toList) = true := by simp
  obtain ⟨P1, hP1⟩ : ∃ P, Mk.pathI (X.take 4) (i : Int) = P := ⟨_, rfl⟩
  obtain ⟨P2, hP2⟩ : ∃ P, Mk.pathI (X.drop 4) ((i - 4 : Nat) : Int) = P := ⟨_, rfl⟩
  obtain ⟨P, hP⟩ : ∃ P, Mk.pathI X (i : Int) = P := ⟨_, rfl⟩
  obtain ⟨m, hPm⟩ : ∃ m, P.length = m := ⟨_, rfl⟩
  have lPm : m ≤ 1000000 := by
    rw [← hPm, ← hP, pathI_nat]
    have := Mk.path_len _ X i (Nat.le_refl _); omega
  have lP1 : P1.length ≤ 1000000 := by
    rw [← hP1, pathI_nat]
    have := Mk.path_len _ (X.take 4) i (Nat.le_refl _); omega
  have lP2 : P2.length ≤ 1000000 := by
    rw [← hP2, pathI_nat]
    have := Mk.path_len _ (X.drop 4) (i - 4) (Nat.le_refl _); omega
  rw [hP1, hP2, hP] at hp
  have T1 := Lib.hid (fun ya vb cp W hl2 hE2 => root_to (X.take 4) 4 lt1 (by omega) hXt R1 hR1 ya vb 0 cp W hl2 hE2)
  have T2 := Lib.hid (fun ya vb off cp W hl2 hE2 => root_to (X.drop 4) (n - 4) ld1 (by omega) hXd R2 hR2 ya vb off cp W hl2 hE2)
  have T3 := Lib.hid (fun ya vb cp W hl2 hE2 => path_own (X.take 4) 4 lt1 (by omega) hXt (i : Int) P1 hP1 ya vb 0 cp W hl2 hE2)
  have T4 := Lib.hid (fun ya vb off cp W hl2 hE2 => path_own (X.drop 4) (n - 4) ld1 (by omega) hXd ((i - 4 : Nat) : Int) P2 hP2 ya vb off cp W hl2 hE2)
  have T5 := Lib.hid (fun ya vb cp W hl2 hE2 => root_to X n hl (by omega) hX J hr ya vb 0 cp W hl2 hE2)
  have T6 := Lib.hid (fun W hE => join_to R1 R2 J (by omega) (by omega) hJ W hE)
  have T7 := Lib.hid (fun ya vb cp W hl2 hE2 => path_every X n hl (by omega) hX (i : Int) P hP m hPm ya vb 0 cp W hl2 hE2)
  have n1 : ¬ (n : Int) ≤ 4 := by omega
  have n2 : ¬ (n : Int) > 8 := by omega
  have n3 : ¬ (i : Int) < 0 := by omega
  have n4 : ¬ (i : Int) ≥ (n : Int) := by omega
  have n5 : 4 ≤ n := by omega
  have n6 : (4 : Int) ≤ (n : Int) := by omega
  have T8 := Lib.hid (fun xa ya b off cap b' off' cap' W => strings_same P m hPm lPm xa ya b off cap b' off' cap' W)
  have HPM := Lib.hid hPm
  have HX := Lib.hid hl
  clear hr hXt hXd hX hR1 hR2 hJ hP1 hP2 hP lt1 ld1 z1 z2 hPm hl
  by_cases hiA : i < 4
  · rw [if_pos hiA] at hp
    have HP := Lib.hid (show ∀ Z : List (List UInt8) → Prop, Z (P1 ++ [R2.data.toList]) → Z P from fun Z h => by rw [hp]; exact h)
    have n7 : ¬ (i : Int) ≥ 4 := by omega
    clear hp
    go_enter Tryd.func8, Tryd.ntmps8
    go_wp2_with fail
    refine HS.out.mono ?_
    rintro _ w1 ⟨rfl, hb⟩
    have B1 := Lib.hid hb
    clear hb
    go_wp2_with fail
    refine (F1.out _ B1.out).mono ?_
    rintro _ w2 ⟨rfl, rfl⟩
    go_wp2_with fail
    refine (SV.out _ B1.out).mono ?_
    rintro _ w2 ⟨v2, rfl, ho2, hb⟩
    have B2 := Lib.hid (B1.out.trans (hb.mono B1.out.size))
    have hrow := ho2.row
    rw [HX.out] at hrow
    obtain ⟨ya, vb, cp, rfl, hlv⟩ := hrow
    obtain rfl := hlv.at_ (by rw [HX.out]; omega)
    have L2 := Lib.hid hlv
    have hcp := hlv.le
    rw [HX.out] at hcp
    have c1 : (4 : Int) ≤ (cp : Int) := by omega
    have c2 : 4 ≤ cp := by omega
    have c3 : ¬ cp = 4 := by omega
    have c4 : (n : Int) ≤ (cp : Int) := by omega
    clear hb ho2 hlv
    go_wp2_with fail
    refine (T1.out _ _ _ _ (L2.out.take 4) (HE.out.new B2.out)).mono ?_
    rintro _ w3 ⟨rfl, hb⟩
    have B3 := Lib.hid (B2.out.trans (hb.mono B2.out.size))
    have L3 := Lib.hid (L2.out.below hb)
    clear hb
    go_wp2_with fail
    refine (T2.out _ _ _ _ _ (L3.out.drop 4 (by rw [HX.out]; omega)) (HE.out.new B3.out)).mono ?_
    rintro _ w4 ⟨rfl, hb⟩
    have B4 := Lib.hid (B3.out.trans (hb.mono B3.out.size))
    have L4 := Lib.hid (L3.out.below hb)
    clear hb
    go_wp2_with fail
    refine (T3.out _ _ _ _ (L4.out.take 4) (HE.out.new B4.out)).mono ?_
    rintro _ w5 ⟨v5, rfl, ho, hb⟩
    have b5 := Lib.hid hb
    have O5 := Lib.hid ho
    clear hb ho
    go_wp2_with (at_builtin; go_must (refine wpList_append_strs (by rfl) _ _ (by rfl) w4.heap.size _ P1 (by rfl) (O5.out.alloc _) ⟨w5.heap.size, 0, none⟩ 1 1 [R2.data.toList] (by rfl) rfl (cells_new w5 (sv [R2.data.toList]) _) (by omega) (Nat.le_trans b5.out.size (by first | exact Nat.le_succ _ | simp)) ?_); intro v6 w6 hown hgrow; have O6 := Lib.hid hown; have b6 := Lib.hid (below_grown (below_alloc b5.out (Nat.le_refl _) _) (O5.out.alloc _) hgrow (Nat.le_refl _) (Nat.le_refl _)); have B6 := Lib.hid (B4.out.trans (b6.out.mono B4.out.size)); have L6 := Lib.hid (L4.out.below b6.out); clear hown hgrow)
    have O8 := Lib.hid (HP.out (fun t => SOwn w6 w4.heap.size v6 t) O6.out)
    have hrow := O8.out.row
    rw [HPM.out] at hrow
    obtain ⟨za, zb, zc, rfl, hlv⟩ := hrow
    have LV := Lib.hid hlv
    clear hlv
    go_wp2_with fail
    refine (T5.out _ _ _ _ L6.out (HE.out.new B6.out)).mono ?_
    rintro _ w9 ⟨rfl, hb⟩
    have B9 := Lib.hid (B6.out.trans (hb.mono B6.out.size))
    have L9 := Lib.hid (L6.out.below hb)
    have V9 := Lib.hid (LV.out.below hb)
    clear hb
    go_wp2_with fail
    refine (T6.out _ (HE.out.new B9.out)).mono ?_
    rintro _ w10 ⟨rfl, hb⟩
    have B10 := Lib.hid (B9.out.trans (hb.mono B9.out.size))
    have L10 := Lib.hid (L9.out.below hb)
    have V10 := Lib.hid (V9.out.below hb)
    clear hb
    go_wp2_with fail
    refine (T7.out _ _ _ _ L10.out (HE.out.new B10.out)).mono ?_
    rintro _ w11 ⟨yb, yc, yd, _, rfl, rfl, -, hl2, hb⟩
    have B11 := Lib.hid (B10.out.trans (hb.mono B10.out.size))
    have V11 := Lib.hid (V10.out.below hb)
    have P11 := Lib.hid hl2
    clear hb hl2
    go_wp2_with fail
    refine (T8.out _ _ _ _ _ _ _ _ _ P11.out V11.out).mono ?_
    rintro _ w12 ⟨rfl, hb⟩
    have B12 := Lib.hid (B11.out.trans (hb.mono B11.out.size))
    clear hb
    go_wp2_with fail
    go_ret
    exact ⟨rfl, B12.out⟩

  · rw [if_neg hiA] at hp
    have HP := Lib.hid (show ∀ Z : List (List UInt8) → Prop, Z (P2 ++ [R1.data.toList]) → Z P from fun Z h => by rw [hp]; exact h)
    have n7 : (i : Int) ≥ 4 := by omega
    obtain ⟨j, hj⟩ : ∃ j, i - 4 = j := ⟨_, rfl⟩
    rw [hj] at T4
    have j1 : (i : Int) - 4 = (j : Int) := by omega
    have j2 : IntKind.i64.wrap ((i : Int) - 4) = (j : Int) := by rw [IntWalk.i64_in _ (by omega)]; omega
    have j3 : IntKind.i64.wrap (j : Int) = (j : Int) := IntWalk.i64_in _ (by omega)
    clear hp hj
    go_enter Tryd.func8, Tryd.ntmps8
    go_wp2_with fail
    refine HS.out.mono ?_
    rintro _ w1 ⟨rfl, hb⟩
    have B1 := Lib.hid hb
    clear hb
    go_wp2_with fail
    refine (F1.out _ B1.out).mono ?_
    rintro _ w2 ⟨rfl, rfl⟩
    go_wp2_with fail
    refine (SV.out _ B1.out).mono ?_
    rintro _ w2 ⟨v2, rfl, ho2, hb⟩
    have B2 := Lib.hid (B1.out.trans (hb.mono B1.out.size))
    have hrow := ho2.row
    rw [HX.out] at hrow
    obtain ⟨ya, vb, cp, rfl, hlv⟩ := hrow
    obtain rfl := hlv.at_ (by rw [HX.out]; omega)
    have L2 := Lib.hid hlv
    have hcp := hlv.le
    rw [HX.out] at hcp
    have c1 : (4 : Int) ≤ (cp : Int) := by omega
    have c2 : 4 ≤ cp := by omega
    have c3 : ¬ cp = 4 := by omega
    have c4 : (n : Int) ≤ (cp : Int) := by omega
    clear hb ho2 hlv
    go_wp2_with fail
    refine (T1.out _ _ _ _ (L2.out.take 4) (HE.out.new B2.out)).mono ?_
    rintro _ w3 ⟨rfl, hb⟩
    have B3 := Lib.hid (B2.out.trans (hb.mono B2.out.size))
    have L3 := Lib.hid (L2.out.below hb)
    clear hb
    go_wp2_with fail
    refine (T2.out _ _ _ _ _ (L3.out.drop 4 (by rw [HX.out]; omega)) (HE.out.new B3.out)).mono ?_
    rintro _ w4 ⟨rfl, hb⟩
    have B4 := Lib.hid (B3.out.trans (hb.mono B3.out.size))
    have L4 := Lib.hid (L3.out.below hb)
    clear hb
    go_wp2_with fail
    refine (T3.out _ _ _ _ (L4.out.take 4) (HE.out.new B4.out)).mono ?_
    rintro _ w5 ⟨v5, rfl, ho, hb⟩
    have b5 := Lib.hid hb
    have O5 := Lib.hid ho
    clear hb ho
    go_wp2_with (at_builtin; go_must (refine wpList_append_strs (by rfl) _ _ (by rfl) w4.heap.size _ P1 (by rfl) (O5.out.alloc _) ⟨w5.heap.size, 0, none⟩ 1 1 [R2.data.toList] (by rfl) rfl (cells_new w5 (sv [R2.data.toList]) _) (by omega) (Nat.le_trans b5.out.size (by first | exact Nat.le_succ _ | simp)) ?_); intro v6 w6 hown hgrow; have O6 := Lib.hid hown; have b6 := Lib.hid (below_grown (below_alloc b5.out (Nat.le_refl _) _) (O5.out.alloc _) hgrow (Nat.le_refl _) (Nat.le_refl _)); have B6 := Lib.hid (B4.out.trans (b6.out.mono B4.out.size)); have L6 := Lib.hid (L4.out.below b6.out); clear hown hgrow)
    refine (T4.out _ _ _ _ _ (L6.out.drop 4 (by rw [HX.out]; omega)) (HE.out.new B6.out)).mono ?_
    rintro _ w7 ⟨v7, rfl, ho, hb⟩
    have b7 := Lib.hid hb
    have O7 := Lib.hid ho
    clear hb ho
    go_wp2_with (at_builtin; go_must (refine wpList_append_strs (by rfl) _ _ (by rfl) w6.heap.size _ P2 (by rfl) (O7.out.alloc _) ⟨w7.heap.size, 0, none⟩ 1 1 [R1.data.toList] (by rfl) rfl (cells_new w7 (sv [R1.data.toList]) _) (by omega) (Nat.le_trans b7.out.size (by first | exact Nat.le_succ _ | simp)) ?_); intro v8 w8 hown hgrow; have O8 := Lib.hid (HP.out (fun t => SOwn w8 w6.heap.size v8 t) hown); have b8 := Lib.hid (below_grown (below_alloc b7.out (Nat.le_refl _) _) (O7.out.alloc _) hgrow (Nat.le_refl _) (Nat.le_refl _)); have B8 := Lib.hid (B6.out.trans (b8.out.mono B6.out.size)); have L8 := Lib.hid (L6.out.below b8.out); clear hown hgrow)
    have hrow := O8.out.row
    rw [HPM.out] at hrow
    obtain ⟨za, zb, zc, rfl, hlv⟩ := hrow
    have LV := Lib.hid hlv
    clear hlv
    go_wp2_with fail
    refine (T5.out _ _ _ _ L8.out (HE.out.new B8.out)).mono ?_
    rintro _ w9 ⟨rfl, hb⟩
    have B9 := Lib.hid (B8.out.trans (hb.mono B8.out.size))
    have L9 := Lib.hid (L8.out.below hb)
    have V9 := Lib.hid (LV.out.below hb)
    clear hb
    go_wp2_with fail
    refine (T6.out _ (HE.out.new B9.out)).mono ?_
    rintro _ w10 ⟨rfl, hb⟩
    have B10 := Lib.hid (B9.out.trans (hb.mono B9.out.size))
    have L10 := Lib.hid (L9.out.below hb)
    have V10 := Lib.hid (V9.out.below hb)
    clear hb
    go_wp2_with fail
    refine (T7.out _ _ _ _ L10.out (HE.out.new B10.out)).mono ?_
    rintro _ w11 ⟨yb, yc, yd, _, rfl, rfl, -, hl2, hb⟩
    have B11 := Lib.hid (B10.out.trans (hb.mono B10.out.size))
    have V11 := Lib.hid (V10.out.below hb)
    have P11 := Lib.hid hl2
    clear hb hl2
    go_wp2_with fail
    refine (T8.out _ _ _ _ _ _ _ _ _ P11.out V11.out).mono ?_
    rintro _ w12 ⟨rfl, hb⟩
    have B12 := Lib.hid (B11.out.trans (hb.mono B11.out.size))
    clear hb
    go_wp2_with fail
    go_ret
    exact ⟨rfl, B12.out⟩

set_option maxHeartbeats 20000000 in
set_option maxRecDepth 100000 in
theorem parts_3 (L : List (List UInt8)) (n : Nat) (hn : L.length = n) (hL40 : ∀ x ∈ L, x.length ≤ 40) (hlo : 8 < n) (hhi : n ≤ 16) (i : Nat) (hi : i < n) (xa : Option Addr) (b off cap : Nat) (w : World) (hL : Lv w xa b off cap L) (hE : Env w)
    (HS : Hid (Calls Tryd.prog 27 #[] w fun e w' => e = .returned (.bool true) ∧ Below w.heap.size w w')) (F1 : Hid (∀ W, Below w.heap.size w W → Calls Tryd.prog 28 #[.slice xa n cap] W fun e w' => e = .returned (.bool true) ∧ W = w')) :
    Calls Tryd.prog 8 #[.slice xa n cap, .int .i64 3, .int .i64 (i : Int)] w fun e w' => e = .returned (.bool true) ∧ Below w.heap.size w w' := by
  have HL := Lib.hid hL
  have HE := Lib.hid hE
  obtain ⟨hr, hp⟩ := parts_one 8 3 (by omega) (by omega) rfl (by omega) (by omega) L n hn i hi hlo (by omega)
  have hl : (L.map Mk.leaf).length = n := by rw [List.length_map]; exact hn
  have hX : ∀ x ∈ L.map Mk.leaf, x.length ≤ 40 := fun x hx => by
    obtain ⟨y, _, rfl⟩ := List.mem_map.1 hx
    rw [Mk.leaf_len]; omega
  have SV := Lib.hid (fun W (hb : Below w.heap.size w W) => leaves_any L n hn (by omega) hL40 xa b off cap W (HL.out.below hb) (HE.out.new hb))
  obtain ⟨X, hXX⟩ : ∃ X, L.map Mk.leaf = X := ⟨_, rfl⟩
  rw [hXX] at SV hr hp hl hX
  clear hXX hL hE hL40 hn
  have hXt : ∀ x ∈ X.take 8, x.length ≤ 40 := fun x hx => hX x (List.mem_of_mem_take hx)
  have hXd : ∀ x ∈ X.drop 8, x.length ≤ 40 := fun x hx => hX x (List.mem_of_mem_drop hx)
  have lt1 : (X.take 8).length = 8 := by rw [List.length_take]; omega
  have ld1 : (X.drop 8).length = n - 8 := by rw [List.length_drop]; omega
  obtain ⟨R1, hR1⟩ : ∃ R : ByteArray, Mk.root (X.take 8) = R.data.toList := ⟨⟨(Mk.root (X.take 8)).toArray⟩, rfl⟩
  obtain ⟨R2, hR2⟩ : ∃ R : ByteArray, Mk.root (X.drop 8) = R.data.toList := ⟨⟨(Mk.root (X.drop 8)).toArray⟩, rfl⟩
  have z1 : R1.size ≤ 40 := by rw [Lib.size_eq, ← hR1]; exact Mk.root_len hXt
  have z2 : R2.size ≤ 40 := by rw [Lib.size_eq, ← hR2]; exact Mk.root_len hXd
  obtain ⟨J, hJ⟩ : ∃ R : ByteArray, Mk.join R1.data.toList R2.data.toList = R.data.toList := ⟨⟨(Mk.join R1.data.toList R2.data.toList).toArray⟩, rfl⟩
  rw [hR1, hR2, hJ] at hr
  rw [hR1, hR2] at hp
  have qJ1 : (J.toList == J.toList) = true := by simp
  obtain ⟨P1, hP1⟩ : ∃ P, Mk.pathI (X.take 8) (i : Int) = P := ⟨_, rfl⟩
  obtain ⟨P2, hP2⟩ : ∃ P, Mk.pathI (X.drop 8) ((i - 8 : Nat) : Int) = P := ⟨_, rfl⟩
  obtain ⟨P, hP⟩ : ∃ P, Mk.pathI X (i : Int) = P := ⟨_, rfl⟩
  obtain ⟨m, hPm⟩ : ∃ m, P.length = m := ⟨_, rfl⟩
  have lPm : m ≤ 1000000 := by
    rw [← hPm, ← hP, pathI_nat]
    have := Mk.path_len _ X i (Nat.le_refl _); omega
  have lP1 : P1.length ≤ 1000000 := by
    rw [← hP1, pathI_nat]
    have := Mk.path_len _ (X.take 8) i (Nat.le_refl _); omega
  have lP2 : P2.length ≤ 1000000 := by
    rw [← hP2, pathI_nat]
    have := Mk.path_len _ (X.drop 8) (i - 8) (Nat.le_refl _); omega
  rw [hP1, hP2, hP] at hp
  have T1 := Lib.hid (fun ya vb cp W hl2 hE2 => root_to (X.take 8) 8 lt1 (by omega) hXt R1 hR1 ya vb 0 cp W hl2 hE2)
  have T2 := Lib.hid (fun ya vb off cp W hl2 hE2 => root_to (X.drop 8) (n - 8) ld1 (by omega) hXd R2 hR2 ya vb off cp W hl2 hE2)
  have T3 := Lib.hid (fun ya vb cp W hl2 hE2 => path_own (X.take 8) 8 lt1 (by omega) hXt (i : Int) P1 hP1 ya vb 0 cp W hl2 hE2)
  have T4 := Lib.hid (fun ya vb off cp W hl2 hE2 => path_own (X.drop 8) (n - 8) ld1 (by omega) hXd ((i - 8 : Nat) : Int) P2 hP2 ya vb off cp W hl2 hE2)
  have T5 := Lib.hid (fun ya vb cp W hl2 hE2 => root_to X n hl (by omega) hX J hr ya vb 0 cp W hl2 hE2)
  have T6 := Lib.hid (fun W hE => join_to R1 R2 J (by omega) (by omega) hJ W hE)
  have T7 := Lib.hid (fun ya vb cp W hl2 hE2 => path_every X n hl (by omega) hX (i : Int) P hP m hPm ya vb 0 cp W hl2 hE2)
  have n1 : ¬ (n : Int) ≤ 8 := by omega
  have n2 : ¬ (n : Int) > 16 := by omega
  have n3 : ¬ (i : Int) < 0 := by omega
  have n4 : ¬ (i : Int) ≥ (n : Int) := by omega
  have n5 : 8 ≤ n := by omega
  have n6 : (8 : Int) ≤ (n : Int) := by omega
  have T8 := Lib.hid (fun xa ya b off cap b' off' cap' W => strings_same P m hPm lPm xa ya b off cap b' off' cap' W)
  have HPM := Lib.hid hPm
  have HX := Lib.hid hl
  clear hr hXt hXd hX hR1 hR2 hJ hP1 hP2 hP lt1 ld1 z1 z2 hPm hl
  by_cases hiA : i < 8
  · rw [if_pos hiA] at hp
    have HP := Lib.hid (show ∀ Z : List (List UInt8) → Prop, Z (P1 ++ [R2.data.toList]) → Z P from fun Z h => by rw [hp]; exact h)
    have n7 : ¬ (i : Int) ≥ 8 := by omega
    clear hp
    go_enter Tryd.func8, Tryd.ntmps8
    go_wp2_with fail
    refine HS.out.mono ?_
    rintro _ w1 ⟨rfl, hb⟩
    have B1 := Lib.hid hb
    clear hb
    go_wp2_with fail
    refine (F1.out _ B1.out).mono ?_
    rintro _ w2 ⟨rfl, rfl⟩
    go_wp2_with fail
    refine (SV.out _ B1.out).mono ?_
    rintro _ w2 ⟨v2, rfl, ho2, hb⟩
    have B2 := Lib.hid (B1.out.trans (hb.mono B1.out.size))
    have hrow := ho2.row
    rw [HX.out] at hrow
    obtain ⟨ya, vb, cp, rfl, hlv⟩ := hrow
    obtain rfl := hlv.at_ (by rw [HX.out]; omega)
    have L2 := Lib.hid hlv
    have hcp := hlv.le
    rw [HX.out] at hcp
    have c1 : (8 : Int) ≤ (cp : Int) := by omega
    have c2 : 8 ≤ cp := by omega
    have c3 : ¬ cp = 8 := by omega
    have c4 : (n : Int) ≤ (cp : Int) := by omega
    clear hb ho2 hlv
    go_wp2_with fail
    refine (T1.out _ _ _ _ (L2.out.take 8) (HE.out.new B2.out)).mono ?_
    rintro _ w3 ⟨rfl, hb⟩
    have B3 := Lib.hid (B2.out.trans (hb.mono B2.out.size))
    have L3 := Lib.hid (L2.out.below hb)
    clear hb
    go_wp2_with fail
    refine (T2.out _ _ _ _ _ (L3.out.drop 8 (by rw [HX.out]; omega)) (HE.out.new B3.out)).mono ?_
    rintro _ w4 ⟨rfl, hb⟩
    have B4 := Lib.hid (B3.out.trans (hb.mono B3.out.size))
    have L4 := Lib.hid (L3.out.below hb)
    clear hb
    go_wp2_with fail
    refine (T3.out _ _ _ _ (L4.out.take 8) (HE.out.new B4.out)).mono ?_
    rintro _ w5 ⟨v5, rfl, ho, hb⟩
    have b5 := Lib.hid hb
    have O5 := Lib.hid ho
    clear hb ho
    go_wp2_with (at_builtin; go_must (refine wpList_append_strs (by rfl) _ _ (by rfl) w4.heap.size _ P1 (by rfl) (O5.out.alloc _) ⟨w5.heap.size, 0, none⟩ 1 1 [R2.data.toList] (by rfl) rfl (cells_new w5 (sv [R2.data.toList]) _) (by omega) (Nat.le_trans b5.out.size (by first | exact Nat.le_succ _ | simp)) ?_); intro v6 w6 hown hgrow; have O6 := Lib.hid hown; have b6 := Lib.hid (below_grown (below_alloc b5.out (Nat.le_refl _) _) (O5.out.alloc _) hgrow (Nat.le_refl _) (Nat.le_refl _)); have B6 := Lib.hid (B4.out.trans (b6.out.mono B4.out.size)); have L6 := Lib.hid (L4.out.below b6.out); clear hown hgrow)
    have O8 := Lib.hid (HP.out (fun t => SOwn w6 w4.heap.size v6 t) O6.out)
    have hrow := O8.out.row
    rw [HPM.out] at hrow
    obtain ⟨za, zb, zc, rfl, hlv⟩ := hrow
    have LV := Lib.hid hlv
    clear hlv
    go_wp2_with fail
    refine (T5.out _ _ _ _ L6.out (HE.out.new B6.out)).mono ?_
    rintro _ w9 ⟨rfl, hb⟩
    have B9 := Lib.hid (B6.out.trans (hb.mono B6.out.size))
    have L9 := Lib.hid (L6.out.below hb)
    have V9 := Lib.hid (LV.out.below hb)
    clear hb
    go_wp2_with fail
    refine (T6.out _ (HE.out.new B9.out)).mono ?_
    rintro _ w10 ⟨rfl, hb⟩
    have B10 := Lib.hid (B9.out.trans (hb.mono B9.out.size))
    have L10 := Lib.hid (L9.out.below hb)
    have V10 := Lib.hid (V9.out.below hb)
    clear hb
    go_wp2_with fail
    refine (T7.out _ _ _ _ L10.out (HE.out.new B10.out)).mono ?_
    rintro _ w11 ⟨yb, yc, yd, _, rfl, rfl, -, hl2, hb⟩
    have B11 := Lib.hid (B10.out.trans (hb.mono B10.out.size))
    have V11 := Lib.hid (V10.out.below hb)
    have P11 := Lib.hid hl2
    clear hb hl2
    go_wp2_with fail
    refine (T8.out _ _ _ _ _ _ _ _ _ P11.out V11.out).mono ?_
    rintro _ w12 ⟨rfl, hb⟩
    have B12 := Lib.hid (B11.out.trans (hb.mono B11.out.size))
    clear hb
    go_wp2_with fail
    go_ret
    exact ⟨rfl, B12.out⟩

  · rw [if_neg hiA] at hp
    have HP := Lib.hid (show ∀ Z : List (List UInt8) → Prop, Z (P2 ++ [R1.data.toList]) → Z P from fun Z h => by rw [hp]; exact h)
    have n7 : (i : Int) ≥ 8 := by omega
    obtain ⟨j, hj⟩ : ∃ j, i - 8 = j := ⟨_, rfl⟩
    rw [hj] at T4
    have j1 : (i : Int) - 8 = (j : Int) := by omega
    have j2 : IntKind.i64.wrap ((i : Int) - 8) = (j : Int) := by rw [IntWalk.i64_in _ (by omega)]; omega
    have j3 : IntKind.i64.wrap (j : Int) = (j : Int) := IntWalk.i64_in _ (by omega)
    clear hp hj
    go_enter Tryd.func8, Tryd.ntmps8
    go_wp2_with fail
    refine HS.out.mono ?_
    rintro _ w1 ⟨rfl, hb⟩
    have B1 := Lib.hid hb
    clear hb
    go_wp2_with fail
    refine (F1.out _ B1.out).mono ?_
    rintro _ w2 ⟨rfl, rfl⟩
    go_wp2_with fail
    refine (SV.out _ B1.out).mono ?_
    rintro _ w2 ⟨v2, rfl, ho2, hb⟩
    have B2 := Lib.hid (B1.out.trans (hb.mono B1.out.size))
    have hrow := ho2.row
    rw [HX.out] at hrow
    obtain ⟨ya, vb, cp, rfl, hlv⟩ := hrow
    obtain rfl := hlv.at_ (by rw [HX.out]; omega)
    have L2 := Lib.hid hlv
    have hcp := hlv.le
    rw [HX.out] at hcp
    have c1 : (8 : Int) ≤ (cp : Int) := by omega
    have c2 : 8 ≤ cp := by omega
    have c3 : ¬ cp = 8 := by omega
    have c4 : (n : Int) ≤ (cp : Int) := by omega
    clear hb ho2 hlv
    go_wp2_with fail
    refine (T1.out _ _ _ _ (L2.out.take 8) (HE.out.new B2.out)).mono ?_
    rintro _ w3 ⟨rfl, hb⟩
    have B3 := Lib.hid (B2.out.trans (hb.mono B2.out.size))
    have L3 := Lib.hid (L2.out.below hb)
    clear hb
    go_wp2_with fail
    refine (T2.out _ _ _ _ _ (L3.out.drop 8 (by rw [HX.out]; omega)) (HE.out.new B3.out)).mono ?_
    rintro _ w4 ⟨rfl, hb⟩
    have B4 := Lib.hid (B3.out.trans (hb.mono B3.out.size))
    have L4 := Lib.hid (L3.out.below hb)
    clear hb
    go_wp2_with fail
    refine (T3.out _ _ _ _ (L4.out.take 8) (HE.out.new B4.out)).mono ?_
    rintro _ w5 ⟨v5, rfl, ho, hb⟩
    have b5 := Lib.hid hb
    have O5 := Lib.hid ho
    clear hb ho
    go_wp2_with (at_builtin; go_must (refine wpList_append_strs (by rfl) _ _ (by rfl) w4.heap.size _ P1 (by rfl) (O5.out.alloc _) ⟨w5.heap.size, 0, none⟩ 1 1 [R2.data.toList] (by rfl) rfl (cells_new w5 (sv [R2.data.toList]) _) (by omega) (Nat.le_trans b5.out.size (by first | exact Nat.le_succ _ | simp)) ?_); intro v6 w6 hown hgrow; have O6 := Lib.hid hown; have b6 := Lib.hid (below_grown (below_alloc b5.out (Nat.le_refl _) _) (O5.out.alloc _) hgrow (Nat.le_refl _) (Nat.le_refl _)); have B6 := Lib.hid (B4.out.trans (b6.out.mono B4.out.size)); have L6 := Lib.hid (L4.out.below b6.out); clear hown hgrow)
    refine (T4.out _ _ _ _ _ (L6.out.drop 8 (by rw [HX.out]; omega)) (HE.out.new B6.out)).mono ?_
    rintro _ w7 ⟨v7, rfl, ho, hb⟩
    have b7 := Lib.hid hb
    have O7 := Lib.hid ho
    clear hb ho
    go_wp2_with (at_builtin; go_must (refine wpList_append_strs (by rfl) _ _ (by rfl) w6.heap.size _ P2 (by rfl) (O7.out.alloc _) ⟨w7.heap.size, 0, none⟩ 1 1 [R1.data.toList] (by rfl) rfl (cells_new w7 (sv [R1.data.toList]) _) (by omega) (Nat.le_trans b7.out.size (by first | exact Nat.le_succ _ | simp)) ?_); intro v8 w8 hown hgrow; have O8 := Lib.hid (HP.out (fun t => SOwn w8 w6.heap.size v8 t) hown); have b8 := Lib.hid (below_grown (below_alloc b7.out (Nat.le_refl _) _) (O7.out.alloc _) hgrow (Nat.le_refl _) (Nat.le_refl _)); have B8 := Lib.hid (B6.out.trans (b8.out.mono B6.out.size)); have L8 := Lib.hid (L6.out.below b8.out); clear hown hgrow)
    have hrow := O8.out.row
    rw [HPM.out] at hrow
    obtain ⟨za, zb, zc, rfl, hlv⟩ := hrow
    have LV := Lib.hid hlv
    clear hlv
    go_wp2_with fail
    refine (T5.out _ _ _ _ L8.out (HE.out.new B8.out)).mono ?_
    rintro _ w9 ⟨rfl, hb⟩
    have B9 := Lib.hid (B8.out.trans (hb.mono B8.out.size))
    have L9 := Lib.hid (L8.out.below hb)
    have V9 := Lib.hid (LV.out.below hb)
    clear hb
    go_wp2_with fail
    refine (T6.out _ (HE.out.new B9.out)).mono ?_
    rintro _ w10 ⟨rfl, hb⟩
    have B10 := Lib.hid (B9.out.trans (hb.mono B9.out.size))
    have L10 := Lib.hid (L9.out.below hb)
    have V10 := Lib.hid (V9.out.below hb)
    clear hb
    go_wp2_with fail
    refine (T7.out _ _ _ _ L10.out (HE.out.new B10.out)).mono ?_
    rintro _ w11 ⟨yb, yc, yd, _, rfl, rfl, -, hl2, hb⟩
    have B11 := Lib.hid (B10.out.trans (hb.mono B10.out.size))
    have V11 := Lib.hid (V10.out.below hb)
    have P11 := Lib.hid hl2
    clear hb hl2
    go_wp2_with fail
    refine (T8.out _ _ _ _ _ _ _ _ _ P11.out V11.out).mono ?_
    rintro _ w12 ⟨rfl, hb⟩
    have B12 := Lib.hid (B11.out.trans (hb.mono B11.out.size))
    clear hb
    go_wp2_with fail
    go_ret
    exact ⟨rfl, B12.out⟩

set_option maxHeartbeats 20000000 in
set_option maxRecDepth 100000 in
theorem parts_4 (L : List (List UInt8)) (n : Nat) (hn : L.length = n) (hL40 : ∀ x ∈ L, x.length ≤ 40) (hlo : 16 < n) (hhi : n ≤ 32) (i : Nat) (hi : i < n) (xa : Option Addr) (b off cap : Nat) (w : World) (hL : Lv w xa b off cap L) (hE : Env w)
    (HS : Hid (Calls Tryd.prog 27 #[] w fun e w' => e = .returned (.bool true) ∧ Below w.heap.size w w')) (F1 : Hid (∀ W, Below w.heap.size w W → Calls Tryd.prog 28 #[.slice xa n cap] W fun e w' => e = .returned (.bool true) ∧ W = w')) :
    Calls Tryd.prog 8 #[.slice xa n cap, .int .i64 4, .int .i64 (i : Int)] w fun e w' => e = .returned (.bool true) ∧ Below w.heap.size w w' := by
  have HL := Lib.hid hL
  have HE := Lib.hid hE
  obtain ⟨hr, hp⟩ := parts_one 16 4 (by omega) (by omega) rfl (by omega) (by omega) L n hn i hi hlo (by omega)
  have hl : (L.map Mk.leaf).length = n := by rw [List.length_map]; exact hn
  have hX : ∀ x ∈ L.map Mk.leaf, x.length ≤ 40 := fun x hx => by
    obtain ⟨y, _, rfl⟩ := List.mem_map.1 hx
    rw [Mk.leaf_len]; omega
  have SV := Lib.hid (fun W (hb : Below w.heap.size w W) => leaves_any L n hn (by omega) hL40 xa b off cap W (HL.out.below hb) (HE.out.new hb))
  obtain ⟨X, hXX⟩ : ∃ X, L.map Mk.leaf = X := ⟨_, rfl⟩
  rw [hXX] at SV hr hp hl hX
  clear hXX hL hE hL40 hn
  have hXt : ∀ x ∈ X.take 16, x.length ≤ 40 := fun x hx => hX x (List.mem_of_mem_take hx)
  have hXd : ∀ x ∈ X.drop 16, x.length ≤ 40 := fun x hx => hX x (List.mem_of_mem_drop hx)
  have lt1 : (X.take 16).length = 16 := by rw [List.length_take]; omega
  have ld1 : (X.drop 16).length = n - 16 := by rw [List.length_drop]; omega
  obtain ⟨R1, hR1⟩ : ∃ R : ByteArray, Mk.root (X.take 16) = R.data.toList := ⟨⟨(Mk.root (X.take 16)).toArray⟩, rfl⟩
  obtain ⟨R2, hR2⟩ : ∃ R : ByteArray, Mk.root (X.drop 16) = R.data.toList := ⟨⟨(Mk.root (X.drop 16)).toArray⟩, rfl⟩
  have z1 : R1.size ≤ 40 := by rw [Lib.size_eq, ← hR1]; exact Mk.root_len hXt
  have z2 : R2.size ≤ 40 := by rw [Lib.size_eq, ← hR2]; exact Mk.root_len hXd
  obtain ⟨J, hJ⟩ : ∃ R : ByteArray, Mk.join R1.data.toList R2.data.toList = R.data.toList := ⟨⟨(Mk.join R1.data.toList R2.data.toList).toArray⟩, rfl⟩
  rw [hR1, hR2, hJ] at hr
  rw [hR1, hR2] at hp
  have qJ1 : (J.toList == J.toList) = true := by simp
  obtain ⟨P1, hP1⟩ : ∃ P, Mk.pathI (X.take 16) (i : Int) = P := ⟨_, rfl⟩
  obtain ⟨P2, hP2⟩ : ∃ P, Mk.pathI (X.drop 16) ((i - 16 : Nat) : Int) = P := ⟨_, rfl⟩
  obtain ⟨P, hP⟩ : ∃ P, Mk.pathI X (i : Int) = P := ⟨_, rfl⟩
  obtain ⟨m, hPm⟩ : ∃ m, P.length = m := ⟨_, rfl⟩
  have lPm : m ≤ 1000000 := by
    rw [← hPm, ← hP, pathI_nat]
    have := Mk.path_len _ X i (Nat.le_refl _); omega
  have lP1 : P1.length ≤ 1000000 := by
    rw [← hP1, pathI_nat]
    have := Mk.path_len _ (X.take 16) i (Nat.le_refl _); omega
  have lP2 : P2.length ≤ 1000000 := by
    rw [← hP2, pathI_nat]
    have := Mk.path_len _ (X.drop 16) (i - 16) (Nat.le_refl _); omega
  rw [hP1, hP2, hP] at hp
  have T1 := Lib.hid (fun ya vb cp W hl2 hE2 => root_to (X.take 16) 16 lt1 (by omega) hXt R1 hR1 ya vb 0 cp W hl2 hE2)
  have T2 := Lib.hid (fun ya vb off cp W hl2 hE2 => root_to (X.drop 16) (n - 16) ld1 (by omega) hXd R2 hR2 ya vb off cp W hl2 hE2)
  have T3 := Lib.hid (fun ya vb cp W hl2 hE2 => path_own (X.take 16) 16 lt1 (by omega) hXt (i : Int) P1 hP1 ya vb 0 cp W hl2 hE2)
  have T4 := Lib.hid (fun ya vb off cp W hl2 hE2 => path_own (X.drop 16) (n - 16) ld1 (by omega) hXd ((i - 16 : Nat) : Int) P2 hP2 ya vb off cp W hl2 hE2)
  have T5 := Lib.hid (fun ya vb cp W hl2 hE2 => root_to X n hl (by omega) hX J hr ya vb 0 cp W hl2 hE2)
  have T6 := Lib.hid (fun W hE => join_to R1 R2 J (by omega) (by omega) hJ W hE)
  have T7 := Lib.hid (fun ya vb cp W hl2 hE2 => path_every X n hl (by omega) hX (i : Int) P hP m hPm ya vb 0 cp W hl2 hE2)
  have n1 : ¬ (n : Int) ≤ 16 := by omega
  have n2 : ¬ (n : Int) > 32 := by omega
  have n3 : ¬ (i : Int) < 0 := by omega
  have n4 : ¬ (i : Int) ≥ (n : Int) := by omega
  have n5 : 16 ≤ n := by omega
  have n6 : (16 : Int) ≤ (n : Int) := by omega
  have T8 := Lib.hid (fun xa ya b off cap b' off' cap' W => strings_same P m hPm lPm xa ya b off cap b' off' cap' W)
  have HPM := Lib.hid hPm
  have HX := Lib.hid hl
  clear hr hXt hXd hX hR1 hR2 hJ hP1 hP2 hP lt1 ld1 z1 z2 hPm hl
  by_cases hiA : i < 16
  · rw [if_pos hiA] at hp
    have HP := Lib.hid (show ∀ Z : List (List UInt8) → Prop, Z (P1 ++ [R2.data.toList]) → Z P from fun Z h => by rw [hp]; exact h)
    have n7 : ¬ (i : Int) ≥ 16 := by omega
    clear hp
    go_enter Tryd.func8, Tryd.ntmps8
    go_wp2_with fail
    refine HS.out.mono ?_
    rintro _ w1 ⟨rfl, hb⟩
    have B1 := Lib.hid hb
    clear hb
    go_wp2_with fail
    refine (F1.out _ B1.out).mono ?_
    rintro _ w2 ⟨rfl, rfl⟩
    go_wp2_with fail
    refine (SV.out _ B1.out).mono ?_
    rintro _ w2 ⟨v2, rfl, ho2, hb⟩
    have B2 := Lib.hid (B1.out.trans (hb.mono B1.out.size))
    have hrow := ho2.row
    rw [HX.out] at hrow
    obtain ⟨ya, vb, cp, rfl, hlv⟩ := hrow
    obtain rfl := hlv.at_ (by rw [HX.out]; omega)
    have L2 := Lib.hid hlv
    have hcp := hlv.le
    rw [HX.out] at hcp
    have c1 : (16 : Int) ≤ (cp : Int) := by omega
    have c2 : 16 ≤ cp := by omega
    have c3 : ¬ cp = 16 := by omega
    have c4 : (n : Int) ≤ (cp : Int) := by omega
    clear hb ho2 hlv
    go_wp2_with fail
    refine (T1.out _ _ _ _ (L2.out.take 16) (HE.out.new B2.out)).mono ?_
    rintro _ w3 ⟨rfl, hb⟩
    have B3 := Lib.hid (B2.out.trans (hb.mono B2.out.size))
    have L3 := Lib.hid (L2.out.below hb)
    clear hb
    go_wp2_with fail
    refine (T2.out _ _ _ _ _ (L3.out.drop 16 (by rw [HX.out]; omega)) (HE.out.new B3.out)).mono ?_
    rintro _ w4 ⟨rfl, hb⟩
    have B4 := Lib.hid (B3.out.trans (hb.mono B3.out.size))
    have L4 := Lib.hid (L3.out.below hb)
    clear hb
    go_wp2_with fail
    refine (T3.out _ _ _ _ (L4.out.take 16) (HE.out.new B4.out)).mono ?_
    rintro _ w5 ⟨v5, rfl, ho, hb⟩
    have b5 := Lib.hid hb
    have O5 := Lib.hid ho
    clear hb ho
    go_wp2_with (at_builtin; go_must (refine wpList_append_strs (by rfl) _ _ (by rfl) w4.heap.size _ P1 (by rfl) (O5.out.alloc _) ⟨w5.heap.size, 0, none⟩ 1 1 [R2.data.toList] (by rfl) rfl (cells_new w5 (sv [R2.data.toList]) _) (by omega) (Nat.le_trans b5.out.size (by first | exact Nat.le_succ _ | simp)) ?_); intro v6 w6 hown hgrow; have O6 := Lib.hid hown; have b6 := Lib.hid (below_grown (below_alloc b5.out (Nat.le_refl _) _) (O5.out.alloc _) hgrow (Nat.le_refl _) (Nat.le_refl _)); have B6 := Lib.hid (B4.out.trans (b6.out.mono B4.out.size)); have L6 := Lib.hid (L4.out.below b6.out); clear hown hgrow)
    have O8 := Lib.hid (HP.out (fun t => SOwn w6 w4.heap.size v6 t) O6.out)
    have hrow := O8.out.row
    rw [HPM.out] at hrow
    obtain ⟨za, zb, zc, rfl, hlv⟩ := hrow
    have LV := Lib.hid hlv
    clear hlv
    go_wp2_with fail
    refine (T5.out _ _ _ _ L6.out (HE.out.new B6.out)).mono ?_
    rintro _ w9 ⟨rfl, hb⟩
    have B9 := Lib.hid (B6.out.trans (hb.mono B6.out.size))
    have L9 := Lib.hid (L6.out.below hb)
    have V9 := Lib.hid (LV.out.below hb)
    clear hb
    go_wp2_with fail
    refine (T6.out _ (HE.out.new B9.out)).mono ?_
    rintro _ w10 ⟨rfl, hb⟩
    have B10 := Lib.hid (B9.out.trans (hb.mono B9.out.size))
    have L10 := Lib.hid (L9.out.below hb)
    have V10 := Lib.hid (V9.out.below hb)
    clear hb
    go_wp2_with fail
    refine (T7.out _ _ _ _ L10.out (HE.out.new B10.out)).mono ?_
    rintro _ w11 ⟨yb, yc, yd, _, rfl, rfl, -, hl2, hb⟩
    have B11 := Lib.hid (B10.out.trans (hb.mono B10.out.size))
    have V11 := Lib.hid (V10.out.below hb)
    have P11 := Lib.hid hl2
    clear hb hl2
    go_wp2_with fail
    refine (T8.out _ _ _ _ _ _ _ _ _ P11.out V11.out).mono ?_
    rintro _ w12 ⟨rfl, hb⟩
    have B12 := Lib.hid (B11.out.trans (hb.mono B11.out.size))
    clear hb
    go_wp2_with fail
    go_ret
    exact ⟨rfl, B12.out⟩

  · rw [if_neg hiA] at hp
    have HP := Lib.hid (show ∀ Z : List (List UInt8) → Prop, Z (P2 ++ [R1.data.toList]) → Z P from fun Z h => by rw [hp]; exact h)
    have n7 : (i : Int) ≥ 16 := by omega
    obtain ⟨j, hj⟩ : ∃ j, i - 16 = j := ⟨_, rfl⟩
    rw [hj] at T4
    have j1 : (i : Int) - 16 = (j : Int) := by omega
    have j2 : IntKind.i64.wrap ((i : Int) - 16) = (j : Int) := by rw [IntWalk.i64_in _ (by omega)]; omega
    have j3 : IntKind.i64.wrap (j : Int) = (j : Int) := IntWalk.i64_in _ (by omega)
    clear hp hj
    go_enter Tryd.func8, Tryd.ntmps8
    go_wp2_with fail
    refine HS.out.mono ?_
    rintro _ w1 ⟨rfl, hb⟩
    have B1 := Lib.hid hb
    clear hb
    go_wp2_with fail
    refine (F1.out _ B1.out).mono ?_
    rintro _ w2 ⟨rfl, rfl⟩
    go_wp2_with fail
    refine (SV.out _ B1.out).mono ?_
    rintro _ w2 ⟨v2, rfl, ho2, hb⟩
    have B2 := Lib.hid (B1.out.trans (hb.mono B1.out.size))
    have hrow := ho2.row
    rw [HX.out] at hrow
    obtain ⟨ya, vb, cp, rfl, hlv⟩ := hrow
    obtain rfl := hlv.at_ (by rw [HX.out]; omega)
    have L2 := Lib.hid hlv
    have hcp := hlv.le
    rw [HX.out] at hcp
    have c1 : (16 : Int) ≤ (cp : Int) := by omega
    have c2 : 16 ≤ cp := by omega
    have c3 : ¬ cp = 16 := by omega
    have c4 : (n : Int) ≤ (cp : Int) := by omega
    clear hb ho2 hlv
    go_wp2_with fail
    refine (T1.out _ _ _ _ (L2.out.take 16) (HE.out.new B2.out)).mono ?_
    rintro _ w3 ⟨rfl, hb⟩
    have B3 := Lib.hid (B2.out.trans (hb.mono B2.out.size))
    have L3 := Lib.hid (L2.out.below hb)
    clear hb
    go_wp2_with fail
    refine (T2.out _ _ _ _ _ (L3.out.drop 16 (by rw [HX.out]; omega)) (HE.out.new B3.out)).mono ?_
    rintro _ w4 ⟨rfl, hb⟩
    have B4 := Lib.hid (B3.out.trans (hb.mono B3.out.size))
    have L4 := Lib.hid (L3.out.below hb)
    clear hb
    go_wp2_with fail
    refine (T3.out _ _ _ _ (L4.out.take 16) (HE.out.new B4.out)).mono ?_
    rintro _ w5 ⟨v5, rfl, ho, hb⟩
    have b5 := Lib.hid hb
    have O5 := Lib.hid ho
    clear hb ho
    go_wp2_with (at_builtin; go_must (refine wpList_append_strs (by rfl) _ _ (by rfl) w4.heap.size _ P1 (by rfl) (O5.out.alloc _) ⟨w5.heap.size, 0, none⟩ 1 1 [R2.data.toList] (by rfl) rfl (cells_new w5 (sv [R2.data.toList]) _) (by omega) (Nat.le_trans b5.out.size (by first | exact Nat.le_succ _ | simp)) ?_); intro v6 w6 hown hgrow; have O6 := Lib.hid hown; have b6 := Lib.hid (below_grown (below_alloc b5.out (Nat.le_refl _) _) (O5.out.alloc _) hgrow (Nat.le_refl _) (Nat.le_refl _)); have B6 := Lib.hid (B4.out.trans (b6.out.mono B4.out.size)); have L6 := Lib.hid (L4.out.below b6.out); clear hown hgrow)
    refine (T4.out _ _ _ _ _ (L6.out.drop 16 (by rw [HX.out]; omega)) (HE.out.new B6.out)).mono ?_
    rintro _ w7 ⟨v7, rfl, ho, hb⟩
    have b7 := Lib.hid hb
    have O7 := Lib.hid ho
    clear hb ho
    go_wp2_with (at_builtin; go_must (refine wpList_append_strs (by rfl) _ _ (by rfl) w6.heap.size _ P2 (by rfl) (O7.out.alloc _) ⟨w7.heap.size, 0, none⟩ 1 1 [R1.data.toList] (by rfl) rfl (cells_new w7 (sv [R1.data.toList]) _) (by omega) (Nat.le_trans b7.out.size (by first | exact Nat.le_succ _ | simp)) ?_); intro v8 w8 hown hgrow; have O8 := Lib.hid (HP.out (fun t => SOwn w8 w6.heap.size v8 t) hown); have b8 := Lib.hid (below_grown (below_alloc b7.out (Nat.le_refl _) _) (O7.out.alloc _) hgrow (Nat.le_refl _) (Nat.le_refl _)); have B8 := Lib.hid (B6.out.trans (b8.out.mono B6.out.size)); have L8 := Lib.hid (L6.out.below b8.out); clear hown hgrow)
    have hrow := O8.out.row
    rw [HPM.out] at hrow
    obtain ⟨za, zb, zc, rfl, hlv⟩ := hrow
    have LV := Lib.hid hlv
    clear hlv
    go_wp2_with fail
    refine (T5.out _ _ _ _ L8.out (HE.out.new B8.out)).mono ?_
    rintro _ w9 ⟨rfl, hb⟩
    have B9 := Lib.hid (B8.out.trans (hb.mono B8.out.size))
    have L9 := Lib.hid (L8.out.below hb)
    have V9 := Lib.hid (LV.out.below hb)
    clear hb
    go_wp2_with fail
    refine (T6.out _ (HE.out.new B9.out)).mono ?_
    rintro _ w10 ⟨rfl, hb⟩
    have B10 := Lib.hid (B9.out.trans (hb.mono B9.out.size))
    have L10 := Lib.hid (L9.out.below hb)
    have V10 := Lib.hid (V9.out.below hb)
    clear hb
    go_wp2_with fail
    refine (T7.out _ _ _ _ L10.out (HE.out.new B10.out)).mono ?_
    rintro _ w11 ⟨yb, yc, yd, _, rfl, rfl, -, hl2, hb⟩
    have B11 := Lib.hid (B10.out.trans (hb.mono B10.out.size))
    have V11 := Lib.hid (V10.out.below hb)
    have P11 := Lib.hid hl2
    clear hb hl2
    go_wp2_with fail
    refine (T8.out _ _ _ _ _ _ _ _ _ P11.out V11.out).mono ?_
    rintro _ w12 ⟨rfl, hb⟩
    have B12 := Lib.hid (B11.out.trans (hb.mono B11.out.size))
    clear hb
    go_wp2_with fail
    go_ret
    exact ⟨rfl, B12.out⟩

set_option maxHeartbeats 20000000 in
set_option maxRecDepth 100000 in
theorem parts_5 (L : List (List UInt8)) (n : Nat) (hn : L.length = n) (hL40 : ∀ x ∈ L, x.length ≤ 40) (hlo : 32 < n) (hhi : n ≤ 64) (i : Nat) (hi : i < n) (xa : Option Addr) (b off cap : Nat) (w : World) (hL : Lv w xa b off cap L) (hE : Env w)
    (HS : Hid (Calls Tryd.prog 27 #[] w fun e w' => e = .returned (.bool true) ∧ Below w.heap.size w w')) (F1 : Hid (∀ W, Below w.heap.size w W → Calls Tryd.prog 28 #[.slice xa n cap] W fun e w' => e = .returned (.bool true) ∧ W = w')) :
    Calls Tryd.prog 8 #[.slice xa n cap, .int .i64 5, .int .i64 (i : Int)] w fun e w' => e = .returned (.bool true) ∧ Below w.heap.size w w' := by
  have HL := Lib.hid hL
  have HE := Lib.hid hE
  obtain ⟨hr, hp⟩ := parts_one 32 5 (by omega) (by omega) rfl (by omega) (by omega) L n hn i hi hlo (by omega)
  have hl : (L.map Mk.leaf).length = n := by rw [List.length_map]; exact hn
  have hX : ∀ x ∈ L.map Mk.leaf, x.length ≤ 40 := fun x hx => by
    obtain ⟨y, _, rfl⟩ := List.mem_map.1 hx
    rw [Mk.leaf_len]; omega
  have SV := Lib.hid (fun W (hb : Below w.heap.size w W) => leaves_any L n hn (by omega) hL40 xa b off cap W (HL.out.below hb) (HE.out.new hb))
  obtain ⟨X, hXX⟩ : ∃ X, L.map Mk.leaf = X := ⟨_, rfl⟩
  rw [hXX] at SV hr hp hl hX
  clear hXX hL hE hL40 hn
  have hXt : ∀ x ∈ X.take 32, x.length ≤ 40 := fun x hx => hX x (List.mem_of_mem_take hx)
  have hXd : ∀ x ∈ X.drop 32, x.length ≤ 40 := fun x hx => hX x (List.mem_of_mem_drop hx)
  have lt1 : (X.take 32).length = 32 := by rw [List.length_take]; omega
  have ld1 : (X.drop 32).length = n - 32 := by rw [List.length_drop]; omega
  obtain ⟨R1, hR1⟩ : ∃ R : ByteArray, Mk.root (X.take 32) = R.data.toList := ⟨⟨(Mk.root (X.take 32)).toArray⟩, rfl⟩
  obtain ⟨R2, hR2⟩ : ∃ R : ByteArray, Mk.root (X.drop 32) = R.data.toList := ⟨⟨(Mk.root (X.drop 32)).toArray⟩, rfl⟩
  have z1 : R1.size ≤ 40 := by rw [Lib.size_eq, ← hR1]; exact Mk.root_len hXt
  have z2 : R2.size ≤ 40 := by rw [Lib.size_eq, ← hR2]; exact Mk.root_len hXd
  obtain ⟨J, hJ⟩ : ∃ R : ByteArray, Mk.join R1.data.toList R2.data.toList = R.data.toList := ⟨⟨(Mk.join R1.data.toList R2.data.toList).toArray⟩, rfl⟩
  rw [hR1, hR2, hJ] at hr
  rw [hR1, hR2] at hp
  have qJ1 : (J.toList == J.toList) = true := by simp
  obtain ⟨P1, hP1⟩ : ∃ P, Mk.pathI (X.take 32) (i : Int) = P := ⟨_, rfl⟩
  obtain ⟨P2, hP2⟩ : ∃ P, Mk.pathI (X.drop 32) ((i - 32 : Nat) : Int) = P := ⟨_, rfl⟩
  obtain ⟨P, hP⟩ : ∃ P, Mk.pathI X (i : Int) = P := ⟨_, rfl⟩
  obtain ⟨m, hPm⟩ : ∃ m, P.length = m := ⟨_, rfl⟩
  have lPm : m ≤ 1000000 := by
    rw [← hPm, ← hP, pathI_nat]
    have := Mk.path_len _ X i (Nat.le_refl _); omega
  have lP1 : P1.length ≤ 1000000 := by
    rw [← hP1, pathI_nat]
    have := Mk.path_len _ (X.take 32) i (Nat.le_refl _); omega
  have lP2 : P2.length ≤ 1000000 := by
    rw [← hP2, pathI_nat]
    have := Mk.path_len _ (X.drop 32) (i - 32) (Nat.le_refl _); omega
  rw [hP1, hP2, hP] at hp
  have T1 := Lib.hid (fun ya vb cp W hl2 hE2 => root_to (X.take 32) 32 lt1 (by omega) hXt R1 hR1 ya vb 0 cp W hl2 hE2)
  have T2 := Lib.hid (fun ya vb off cp W hl2 hE2 => root_to (X.drop 32) (n - 32) ld1 (by omega) hXd R2 hR2 ya vb off cp W hl2 hE2)
  have T3 := Lib.hid (fun ya vb cp W hl2 hE2 => path_own (X.take 32) 32 lt1 (by omega) hXt (i : Int) P1 hP1 ya vb 0 cp W hl2 hE2)
  have T4 := Lib.hid (fun ya vb off cp W hl2 hE2 => path_own (X.drop 32) (n - 32) ld1 (by omega) hXd ((i - 32 : Nat) : Int) P2 hP2 ya vb off cp W hl2 hE2)
  have T5 := Lib.hid (fun ya vb cp W hl2 hE2 => root_to X n hl (by omega) hX J hr ya vb 0 cp W hl2 hE2)
  have T6 := Lib.hid (fun W hE => join_to R1 R2 J (by omega) (by omega) hJ W hE)
  have T7 := Lib.hid (fun ya vb cp W hl2 hE2 => path_every X n hl (by omega) hX (i : Int) P hP m hPm ya vb 0 cp W hl2 hE2)
  have n1 : ¬ (n : Int) ≤ 32 := by omega
  have n2 : ¬ (n : Int) > 64 := by omega
  have n3 : ¬ (i : Int) < 0 := by omega
  have n4 : ¬ (i : Int) ≥ (n : Int) := by omega
  have n5 : 32 ≤ n := by omega
  have n6 : (32 : Int) ≤ (n : Int) := by omega
  have T8 := Lib.hid (fun xa ya b off cap b' off' cap' W => strings_same P m hPm lPm xa ya b off cap b' off' cap' W)
  have HPM := Lib.hid hPm
  have HX := Lib.hid hl
  clear hr hXt hXd hX hR1 hR2 hJ hP1 hP2 hP lt1 ld1 z1 z2 hPm hl
  by_cases hiA : i < 32
  · rw [if_pos hiA] at hp
    have HP := Lib.hid (show ∀ Z : List (List UInt8) → Prop, Z (P1 ++ [R2.data.toList]) → Z P from fun Z h => by rw [hp]; exact h)
    have n7 : ¬ (i : Int) ≥ 32 := by omega
    clear hp
    go_enter Tryd.func8, Tryd.ntmps8
    go_wp2_with fail
    refine HS.out.mono ?_
    rintro _ w1 ⟨rfl, hb⟩
    have B1 := Lib.hid hb
    clear hb
    go_wp2_with fail
    refine (F1.out _ B1.out).mono ?_
    rintro _ w2 ⟨rfl, rfl⟩
    go_wp2_with fail
    refine (SV.out _ B1.out).mono ?_
    rintro _ w2 ⟨v2, rfl, ho2, hb⟩
    have B2 := Lib.hid (B1.out.trans (hb.mono B1.out.size))
    have hrow := ho2.row
    rw [HX.out] at hrow
    obtain ⟨ya, vb, cp, rfl, hlv⟩ := hrow
    obtain rfl := hlv.at_ (by rw [HX.out]; omega)
    have L2 := Lib.hid hlv
    have hcp := hlv.le
    rw [HX.out] at hcp
    have c1 : (32 : Int) ≤ (cp : Int) := by omega
    have c2 : 32 ≤ cp := by omega
    have c3 : ¬ cp = 32 := by omega
    have c4 : (n : Int) ≤ (cp : Int) := by omega
    clear hb ho2 hlv
    go_wp2_with fail
    refine (T1.out _ _ _ _ (L2.out.take 32) (HE.out.new B2.out)).mono ?_
    rintro _ w3 ⟨rfl, hb⟩
    have B3 := Lib.hid (B2.out.trans (hb.mono B2.out.size))
    have L3 := Lib.hid (L2.out.below hb)
    clear hb
    go_wp2_with fail
    refine (T2.out _ _ _ _ _ (L3.out.drop 32 (by rw [HX.out]; omega)) (HE.out.new B3.out)).mono ?_
    rintro _ w4 ⟨rfl, hb⟩
    have B4 := Lib.hid (B3.out.trans (hb.mono B3.out.size))
    have L4 := Lib.hid (L3.out.below hb)
    clear hb
    go_wp2_with fail
    refine (T3.out _ _ _ _ (L4.out.take 32) (HE.out.new B4.out)).mono ?_
    rintro _ w5 ⟨v5, rfl, ho, hb⟩
    have b5 := Lib.hid hb
    have O5 := Lib.hid ho
    clear hb ho
    go_wp2_with (at_builtin; go_must (refine wpList_append_strs (by rfl) _ _ (by rfl) w4.heap.size _ P1 (by rfl) (O5.out.alloc _) ⟨w5.heap.size, 0, none⟩ 1 1 [R2.data.toList] (by rfl) rfl (cells_new w5 (sv [R2.data.toList]) _) (by omega) (Nat.le_trans b5.out.size (by first | exact Nat.le_succ _ | simp)) ?_); intro v6 w6 hown hgrow; have O6 := Lib.hid hown; have b6 := Lib.hid (below_grown (below_alloc b5.out (Nat.le_refl _) _) (O5.out.alloc _) hgrow (Nat.le_refl _) (Nat.le_refl _)); have B6 := Lib.hid (B4.out.trans (b6.out.mono B4.out.size)); have L6 := Lib.hid (L4.out.below b6.out); clear hown hgrow)
    have O8 := Lib.hid (HP.out (fun t => SOwn w6 w4.heap.size v6 t) O6.out)
    have hrow := O8.out.row
    rw [HPM.out] at hrow
    obtain ⟨za, zb, zc, rfl, hlv⟩ := hrow
    have LV := Lib.hid hlv
    clear hlv
    go_wp2_with fail
    refine (T5.out _ _ _ _ L6.out (HE.out.new B6.out)).mono ?_
    rintro _ w9 ⟨rfl, hb⟩
    have B9 := Lib.hid (B6.out.trans (hb.mono B6.out.size))
    have L9 := Lib.hid (L6.out.below hb)
    have V9 := Lib.hid (LV.out.below hb)
    clear hb
    go_wp2_with fail
    refine (T6.out _ (HE.out.new B9.out)).mono ?_
    rintro _ w10 ⟨rfl, hb⟩
    have B10 := Lib.hid (B9.out.trans (hb.mono B9.out.size))
    have L10 := Lib.hid (L9.out.below hb)
    have V10 := Lib.hid (V9.out.below hb)
    clear hb
    go_wp2_with fail
    refine (T7.out _ _ _ _ L10.out (HE.out.new B10.out)).mono ?_
    rintro _ w11 ⟨yb, yc, yd, _, rfl, rfl, -, hl2, hb⟩
    have B11 := Lib.hid (B10.out.trans (hb.mono B10.out.size))
    have V11 := Lib.hid (V10.out.below hb)
    have P11 := Lib.hid hl2
    clear hb hl2
    go_wp2_with fail
    refine (T8.out _ _ _ _ _ _ _ _ _ P11.out V11.out).mono ?_
    rintro _ w12 ⟨rfl, hb⟩
    have B12 := Lib.hid (B11.out.trans (hb.mono B11.out.size))
    clear hb
    go_wp2_with fail
    go_ret
    exact ⟨rfl, B12.out⟩

  · rw [if_neg hiA] at hp
    have HP := Lib.hid (show ∀ Z : List (List UInt8) → Prop, Z (P2 ++ [R1.data.toList]) → Z P from fun Z h => by rw [hp]; exact h)
    have n7 : (i : Int) ≥ 32 := by omega
    obtain ⟨j, hj⟩ : ∃ j, i - 32 = j := ⟨_, rfl⟩
    rw [hj] at T4
    have j1 : (i : Int) - 32 = (j : Int) := by omega
    have j2 : IntKind.i64.wrap ((i : Int) - 32) = (j : Int) := by rw [IntWalk.i64_in _ (by omega)]; omega
    have j3 : IntKind.i64.wrap (j : Int) = (j : Int) := IntWalk.i64_in _ (by omega)
    clear hp hj
    go_enter Tryd.func8, Tryd.ntmps8
    go_wp2_with fail
    refine HS.out.mono ?_
    rintro _ w1 ⟨rfl, hb⟩
    have B1 := Lib.hid hb
    clear hb
    go_wp2_with fail
    refine (F1.out _ B1.out).mono ?_
    rintro _ w2 ⟨rfl, rfl⟩
    go_wp2_with fail
    refine (SV.out _ B1.out).mono ?_
    rintro _ w2 ⟨v2, rfl, ho2, hb⟩
    have B2 := Lib.hid (B1.out.trans (hb.mono B1.out.size))
    have hrow := ho2.row
    rw [HX.out] at hrow
    obtain ⟨ya, vb, cp, rfl, hlv⟩ := hrow
    obtain rfl := hlv.at_ (by rw [HX.out]; omega)
    have L2 := Lib.hid hlv
    have hcp := hlv.le
    rw [HX.out] at hcp
    have c1 : (32 : Int) ≤ (cp : Int) := by omega
    have c2 : 32 ≤ cp := by omega
    have c3 : ¬ cp = 32 := by omega
    have c4 : (n : Int) ≤ (cp : Int) := by omega
    clear hb ho2 hlv
    go_wp2_with fail
    refine (T1.out _ _ _ _ (L2.out.take 32) (HE.out.new B2.out)).mono ?_
    rintro _ w3 ⟨rfl, hb⟩
    have B3 := Lib.hid (B2.out.trans (hb.mono B2.out.size))
    have L3 := Lib.hid (L2.out.below hb)
    clear hb
    go_wp2_with fail
    refine (T2.out _ _ _ _ _ (L3.out.drop 32 (by rw [HX.out]; omega)) (HE.out.new B3.out)).mono ?_
    rintro _ w4 ⟨rfl, hb⟩
    have B4 := Lib.hid (B3.out.trans (hb.mono B3.out.size))
    have L4 := Lib.hid (L3.out.below hb)
    clear hb
    go_wp2_with fail
    refine (T3.out _ _ _ _ (L4.out.take 32) (HE.out.new B4.out)).mono ?_
    rintro _ w5 ⟨v5, rfl, ho, hb⟩
    have b5 := Lib.hid hb
    have O5 := Lib.hid ho
    clear hb ho
    go_wp2_with (at_builtin; go_must (refine wpList_append_strs (by rfl) _ _ (by rfl) w4.heap.size _ P1 (by rfl) (O5.out.alloc _) ⟨w5.heap.size, 0, none⟩ 1 1 [R2.data.toList] (by rfl) rfl (cells_new w5 (sv [R2.data.toList]) _) (by omega) (Nat.le_trans b5.out.size (by first | exact Nat.le_succ _ | simp)) ?_); intro v6 w6 hown hgrow; have O6 := Lib.hid hown; have b6 := Lib.hid (below_grown (below_alloc b5.out (Nat.le_refl _) _) (O5.out.alloc _) hgrow (Nat.le_refl _) (Nat.le_refl _)); have B6 := Lib.hid (B4.out.trans (b6.out.mono B4.out.size)); have L6 := Lib.hid (L4.out.below b6.out); clear hown hgrow)
    refine (T4.out _ _ _ _ _ (L6.out.drop 32 (by rw [HX.out]; omega)) (HE.out.new B6.out)).mono ?_
    rintro _ w7 ⟨v7, rfl, ho, hb⟩
    have b7 := Lib.hid hb
    have O7 := Lib.hid ho
    clear hb ho
    go_wp2_with (at_builtin; go_must (refine wpList_append_strs (by rfl) _ _ (by rfl) w6.heap.size _ P2 (by rfl) (O7.out.alloc _) ⟨w7.heap.size, 0, none⟩ 1 1 [R1.data.toList] (by rfl) rfl (cells_new w7 (sv [R1.data.toList]) _) (by omega) (Nat.le_trans b7.out.size (by first | exact Nat.le_succ _ | simp)) ?_); intro v8 w8 hown hgrow; have O8 := Lib.hid (HP.out (fun t => SOwn w8 w6.heap.size v8 t) hown); have b8 := Lib.hid (below_grown (below_alloc b7.out (Nat.le_refl _) _) (O7.out.alloc _) hgrow (Nat.le_refl _) (Nat.le_refl _)); have B8 := Lib.hid (B6.out.trans (b8.out.mono B6.out.size)); have L8 := Lib.hid (L6.out.below b8.out); clear hown hgrow)
    have hrow := O8.out.row
    rw [HPM.out] at hrow
    obtain ⟨za, zb, zc, rfl, hlv⟩ := hrow
    have LV := Lib.hid hlv
    clear hlv
    go_wp2_with fail
    refine (T5.out _ _ _ _ L8.out (HE.out.new B8.out)).mono ?_
    rintro _ w9 ⟨rfl, hb⟩
    have B9 := Lib.hid (B8.out.trans (hb.mono B8.out.size))
    have L9 := Lib.hid (L8.out.below hb)
    have V9 := Lib.hid (LV.out.below hb)
    clear hb
    go_wp2_with fail
    refine (T6.out _ (HE.out.new B9.out)).mono ?_
    rintro _ w10 ⟨rfl, hb⟩
    have B10 := Lib.hid (B9.out.trans (hb.mono B9.out.size))
    have L10 := Lib.hid (L9.out.below hb)
    have V10 := Lib.hid (V9.out.below hb)
    clear hb
    go_wp2_with fail
    refine (T7.out _ _ _ _ L10.out (HE.out.new B10.out)).mono ?_
    rintro _ w11 ⟨yb, yc, yd, _, rfl, rfl, -, hl2, hb⟩
    have B11 := Lib.hid (B10.out.trans (hb.mono B10.out.size))
    have V11 := Lib.hid (V10.out.below hb)
    have P11 := Lib.hid hl2
    clear hb hl2
    go_wp2_with fail
    refine (T8.out _ _ _ _ _ _ _ _ _ P11.out V11.out).mono ?_
    rintro _ w12 ⟨rfl, hb⟩
    have B12 := Lib.hid (B11.out.trans (hb.mono B11.out.size))
    clear hb
    go_wp2_with fail
    go_ret
    exact ⟨rfl, B12.out⟩

set_option maxHeartbeats 20000000 in
set_option maxRecDepth 100000 in
theorem parts_6 (L : List (List UInt8)) (n : Nat) (hn : L.length = n) (hL40 : ∀ x ∈ L, x.length ≤ 40) (hlo : 64 < n) (hhi : n ≤ 128) (i : Nat) (hi : i < n) (xa : Option Addr) (b off cap : Nat) (w : World) (hL : Lv w xa b off cap L) (hE : Env w)
    (HS : Hid (Calls Tryd.prog 27 #[] w fun e w' => e = .returned (.bool true) ∧ Below w.heap.size w w')) (F1 : Hid (∀ W, Below w.heap.size w W → Calls Tryd.prog 28 #[.slice xa n cap] W fun e w' => e = .returned (.bool true) ∧ W = w')) :
    Calls Tryd.prog 8 #[.slice xa n cap, .int .i64 6, .int .i64 (i : Int)] w fun e w' => e = .returned (.bool true) ∧ Below w.heap.size w w' := by
  have HL := Lib.hid hL
  have HE := Lib.hid hE
  obtain ⟨hr, hp⟩ := parts_one 64 6 (by omega) (by omega) rfl (by omega) (by omega) L n hn i hi hlo (by omega)
  have hl : (L.map Mk.leaf).length = n := by rw [List.length_map]; exact hn
  have hX : ∀ x ∈ L.map Mk.leaf, x.length ≤ 40 := fun x hx => by
    obtain ⟨y, _, rfl⟩ := List.mem_map.1 hx
    rw [Mk.leaf_len]; omega
  have SV := Lib.hid (fun W (hb : Below w.heap.size w W) => leaves_any L n hn (by omega) hL40 xa b off cap W (HL.out.below hb) (HE.out.new hb))
  obtain ⟨X, hXX⟩ : ∃ X, L.map Mk.leaf = X := ⟨_, rfl⟩
  rw [hXX] at SV hr hp hl hX
  clear hXX hL hE hL40 hn
  have hXt : ∀ x ∈ X.take 64, x.length ≤ 40 := fun x hx => hX x (List.mem_of_mem_take hx)
  have hXd : ∀ x ∈ X.drop 64, x.length ≤ 40 := fun x hx => hX x (List.mem_of_mem_drop hx)
  have lt1 : (X.take 64).length = 64 := by rw [List.length_take]; omega
  have ld1 : (X.drop 64).length = n - 64 := by rw [List.length_drop]; omega
  obtain ⟨R1, hR1⟩ : ∃ R : ByteArray, Mk.root (X.take 64) = R.data.toList := ⟨⟨(Mk.root (X.take 64)).toArray⟩, rfl⟩
  obtain ⟨R2, hR2⟩ : ∃ R : ByteArray, Mk.root (X.drop 64) = R.data.toList := ⟨⟨(Mk.root (X.drop 64)).toArray⟩, rfl⟩
  have z1 : R1.size ≤ 40 := by rw [Lib.size_eq, ← hR1]; exact Mk.root_len hXt
  have z2 : R2.size ≤ 40 := by rw [Lib.size_eq, ← hR2]; exact Mk.root_len hXd
  obtain ⟨J, hJ⟩ : ∃ R : ByteArray, Mk.join R1.data.toList R2.data.toList = R.data.toList := ⟨⟨(Mk.join R1.data.toList R2.data.toList).toArray⟩, rfl⟩
  rw [hR1, hR2, hJ] at hr
  rw [hR1, hR2] at hp
  have qJ1 : (J.toList == J.toList) = true := by simp
  obtain ⟨P1, hP1⟩ : ∃ P, Mk.pathI (X.take 64) (i : Int) = P := ⟨_, rfl⟩
  obtain ⟨P2, hP2⟩ : ∃ P, Mk.pathI (X.drop 64) ((i - 64 : Nat) : Int) = P := ⟨_, rfl⟩
  obtain ⟨P, hP⟩ : ∃ P, Mk.pathI X (i : Int) = P := ⟨_, rfl⟩
  obtain ⟨m, hPm⟩ : ∃ m, P.length = m := ⟨_, rfl⟩
  have lPm : m ≤ 1000000 := by
    rw [← hPm, ← hP, pathI_nat]
    have := Mk.path_len _ X i (Nat.le_refl _); omega
  have lP1 : P1.length ≤ 1000000 := by
    rw [← hP1, pathI_nat]
    have := Mk.path_len _ (X.take 64) i (Nat.le_refl _); omega
  have lP2 : P2.length ≤ 1000000 := by
    rw [← hP2, pathI_nat]
    have := Mk.path_len _ (X.drop 64) (i - 64) (Nat.le_refl _); omega
  rw [hP1, hP2, hP] at hp
  have T1 := Lib.hid (fun ya vb cp W hl2 hE2 => root_to (X.take 64) 64 lt1 (by omega) hXt R1 hR1 ya vb 0 cp W hl2 hE2)
  have T2 := Lib.hid (fun ya vb off cp W hl2 hE2 => root_to (X.drop 64) (n - 64) ld1 (by omega) hXd R2 hR2 ya vb off cp W hl2 hE2)
  have T3 := Lib.hid (fun ya vb cp W hl2 hE2 => path_own (X.take 64) 64 lt1 (by omega) hXt (i : Int) P1 hP1 ya vb 0 cp W hl2 hE2)
  have T4 := Lib.hid (fun ya vb off cp W hl2 hE2 => path_own (X.drop 64) (n - 64) ld1 (by omega) hXd ((i - 64 : Nat) : Int) P2 hP2 ya vb off cp W hl2 hE2)
  have T5 := Lib.hid (fun ya vb cp W hl2 hE2 => root_to X n hl (by omega) hX J hr ya vb 0 cp W hl2 hE2)
  have T6 := Lib.hid (fun W hE => join_to R1 R2 J (by omega) (by omega) hJ W hE)
  have T7 := Lib.hid (fun ya vb cp W hl2 hE2 => path_every X n hl (by omega) hX (i : Int) P hP m hPm ya vb 0 cp W hl2 hE2)
  have n1 : ¬ (n : Int) ≤ 64 := by omega
  have n2 : ¬ (n : Int) > 128 := by omega
  have n3 : ¬ (i : Int) < 0 := by omega
  have n4 : ¬ (i : Int) ≥ (n : Int) := by omega
  have n5 : 64 ≤ n := by omega
  have n6 : (64 : Int) ≤ (n : Int) := by omega
  have T8 := Lib.hid (fun xa ya b off cap b' off' cap' W => strings_same P m hPm lPm xa ya b off cap b' off' cap' W)
  have HPM := Lib.hid hPm
  have HX := Lib.hid hl
  clear hr hXt hXd hX hR1 hR2 hJ hP1 hP2 hP lt1 ld1 z1 z2 hPm hl
  by_cases hiA : i < 64
  · rw [if_pos hiA] at hp
    have HP := Lib.hid (show ∀ Z : List (List UInt8) → Prop, Z (P1 ++ [R2.data.toList]) → Z P from fun Z h => by rw [hp]; exact h)
    have n7 : ¬ (i : Int) ≥ 64 := by omega
    clear hp
    go_enter Tryd.func8, Tryd.ntmps8
    go_wp2_with fail
    refine HS.out.mono ?_
    rintro _ w1 ⟨rfl, hb⟩
    have B1 := Lib.hid hb
    clear hb
    go_wp2_with fail
    refine (F1.out _ B1.out).mono ?_
    rintro _ w2 ⟨rfl, rfl⟩
    go_wp2_with fail
    refine (SV.out _ B1.out).mono ?_
    rintro _ w2 ⟨v2, rfl, ho2, hb⟩
    have B2 := Lib.hid (B1.out.trans (hb.mono B1.out.size))
    have hrow := ho2.row
    rw [HX.out] at hrow
    obtain ⟨ya, vb, cp, rfl, hlv⟩ := hrow
    obtain rfl := hlv.at_ (by rw [HX.out]; omega)
    have L2 := Lib.hid hlv
    have hcp := hlv.le
    rw [HX.out] at hcp
    have c1 : (64 : Int) ≤ (cp : Int) := by omega
    have c2 : 64 ≤ cp := by omega
    have c3 : ¬ cp = 64 := by omega
    have c4 : (n : Int) ≤ (cp : Int) := by omega
    clear hb ho2 hlv
    go_wp2_with fail
    refine (T1.out _ _ _ _ (L2.out.take 64) (HE.out.new B2.out)).mono ?_
    rintro _ w3 ⟨rfl, hb⟩
    have B3 := Lib.hid (B2.out.trans (hb.mono B2.out.size))
    have L3 := Lib.hid (L2.out.below hb)
    clear hb
    go_wp2_with fail
    refine (T2.out _ _ _ _ _ (L3.out.drop 64 (by rw [HX.out]; omega)) (HE.out.new B3.out)).mono ?_
    rintro _ w4 ⟨rfl, hb⟩
    have B4 := Lib.hid (B3.out.trans (hb.mono B3.out.size))
    have L4 := Lib.hid (L3.out.below hb)
    clear hb
    go_wp2_with fail
    refine (T3.out _ _ _ _ (L4.out.take 64) (HE.out.new B4.out)).mono ?_
    rintro _ w5 ⟨v5, rfl, ho, hb⟩
    have b5 := Lib.hid hb
    have O5 := Lib.hid ho
    clear hb ho
    go_wp2_with (at_builtin; go_must (refine wpList_append_strs (by rfl) _ _ (by rfl) w4.heap.size _ P1 (by rfl) (O5.out.alloc _) ⟨w5.heap.size, 0, none⟩ 1 1 [R2.data.toList] (by rfl) rfl (cells_new w5 (sv [R2.data.toList]) _) (by omega) (Nat.le_trans b5.out.size (by first | exact Nat.le_succ _ | simp)) ?_); intro v6 w6 hown hgrow; have O6 := Lib.hid hown; have b6 := Lib.hid (below_grown (below_alloc b5.out (Nat.le_refl _) _) (O5.out.alloc _) hgrow (Nat.le_refl _) (Nat.le_refl _)); have B6 := Lib.hid (B4.out.trans (b6.out.mono B4.out.size)); have L6 := Lib.hid (L4.out.below b6.out); clear hown hgrow)
    have O8 := Lib.hid (HP.out (fun t => SOwn w6 w4.heap.size v6 t) O6.out)
    have hrow := O8.out.row
    rw [HPM.out] at hrow
    obtain ⟨za, zb, zc, rfl, hlv⟩ := hrow
    have LV := Lib.hid hlv
    clear hlv
    go_wp2_with fail
    refine (T5.out _ _ _ _ L6.out (HE.out.new B6.out)).mono ?_
    rintro _ w9 ⟨rfl, hb⟩
    have B9 := Lib.hid (B6.out.trans (hb.mono B6.out.size))
    have L9 := Lib.hid (L6.out.below hb)
    have V9 := Lib.hid (LV.out.below hb)
    clear hb
    go_wp2_with fail
    refine (T6.out _ (HE.out.new B9.out)).mono ?_
    rintro _ w10 ⟨rfl, hb⟩
    have B10 := Lib.hid (B9.out.trans (hb.mono B9.out.size))
    have L10 := Lib.hid (L9.out.below hb)
    have V10 := Lib.hid (V9.out.below hb)
    clear hb
    go_wp2_with fail
    refine (T7.out _ _ _ _ L10.out (HE.out.new B10.out)).mono ?_
    rintro _ w11 ⟨yb, yc, yd, _, rfl, rfl, -, hl2, hb⟩
    have B11 := Lib.hid (B10.out.trans (hb.mono B10.out.size))
    have V11 := Lib.hid (V10.out.below hb)
    have P11 := Lib.hid hl2
    clear hb hl2
    go_wp2_with fail
    refine (T8.out _ _ _ _ _ _ _ _ _ P11.out V11.out).mono ?_
    rintro _ w12 ⟨rfl, hb⟩
    have B12 := Lib.hid (B11.out.trans (hb.mono B11.out.size))
    clear hb
    go_wp2_with fail
    go_ret
    exact ⟨rfl, B12.out⟩

  · rw [if_neg hiA] at hp
    have HP := Lib.hid (show ∀ Z : List (List UInt8) → Prop, Z (P2 ++ [R1.data.toList]) → Z P from fun Z h => by rw [hp]; exact h)
    have n7 : (i : Int) ≥ 64 := by omega
    obtain ⟨j, hj⟩ : ∃ j, i - 64 = j := ⟨_, rfl⟩
    rw [hj] at T4
    have j1 : (i : Int) - 64 = (j : Int) := by omega
    have j2 : IntKind.i64.wrap ((i : Int) - 64) = (j : Int) := by rw [IntWalk.i64_in _ (by omega)]; omega
    have j3 : IntKind.i64.wrap (j : Int) = (j : Int) := IntWalk.i64_in _ (by omega)
    clear hp hj
    go_enter Tryd.func8, Tryd.ntmps8
    go_wp2_with fail
    refine HS.out.mono ?_
    rintro _ w1 ⟨rfl, hb⟩
    have B1 := Lib.hid hb
    clear hb
    go_wp2_with fail
    refine (F1.out _ B1.out).mono ?_
    rintro _ w2 ⟨rfl, rfl⟩
    go_wp2_with fail
    refine (SV.out _ B1.out).mono ?_
    rintro _ w2 ⟨v2, rfl, ho2, hb⟩
    have B2 := Lib.hid (B1.out.trans (hb.mono B1.out.size))
    have hrow := ho2.row
    rw [HX.out] at hrow
    obtain ⟨ya, vb, cp, rfl, hlv⟩ := hrow
    obtain rfl := hlv.at_ (by rw [HX.out]; omega)
    have L2 := Lib.hid hlv
    have hcp := hlv.le
    rw [HX.out] at hcp
    have c1 : (64 : Int) ≤ (cp : Int) := by omega
    have c2 : 64 ≤ cp := by omega
    have c3 : ¬ cp = 64 := by omega
    have c4 : (n : Int) ≤ (cp : Int) := by omega
    clear hb ho2 hlv
    go_wp2_with fail
    refine (T1.out _ _ _ _ (L2.out.take 64) (HE.out.new B2.out)).mono ?_
    rintro _ w3 ⟨rfl, hb⟩
    have B3 := Lib.hid (B2.out.trans (hb.mono B2.out.size))
    have L3 := Lib.hid (L2.out.below hb)
    clear hb
    go_wp2_with fail
    refine (T2.out _ _ _ _ _ (L3.out.drop 64 (by rw [HX.out]; omega)) (HE.out.new B3.out)).mono ?_
    rintro _ w4 ⟨rfl, hb⟩
    have B4 := Lib.hid (B3.out.trans (hb.mono B3.out.size))
    have L4 := Lib.hid (L3.out.below hb)
    clear hb
    go_wp2_with fail
    refine (T3.out _ _ _ _ (L4.out.take 64) (HE.out.new B4.out)).mono ?_
    rintro _ w5 ⟨v5, rfl, ho, hb⟩
    have b5 := Lib.hid hb
    have O5 := Lib.hid ho
    clear hb ho
    go_wp2_with (at_builtin; go_must (refine wpList_append_strs (by rfl) _ _ (by rfl) w4.heap.size _ P1 (by rfl) (O5.out.alloc _) ⟨w5.heap.size, 0, none⟩ 1 1 [R2.data.toList] (by rfl) rfl (cells_new w5 (sv [R2.data.toList]) _) (by omega) (Nat.le_trans b5.out.size (by first | exact Nat.le_succ _ | simp)) ?_); intro v6 w6 hown hgrow; have O6 := Lib.hid hown; have b6 := Lib.hid (below_grown (below_alloc b5.out (Nat.le_refl _) _) (O5.out.alloc _) hgrow (Nat.le_refl _) (Nat.le_refl _)); have B6 := Lib.hid (B4.out.trans (b6.out.mono B4.out.size)); have L6 := Lib.hid (L4.out.below b6.out); clear hown hgrow)
    refine (T4.out _ _ _ _ _ (L6.out.drop 64 (by rw [HX.out]; omega)) (HE.out.new B6.out)).mono ?_
    rintro _ w7 ⟨v7, rfl, ho, hb⟩
    have b7 := Lib.hid hb
    have O7 := Lib.hid ho
    clear hb ho
    go_wp2_with (at_builtin; go_must (refine wpList_append_strs (by rfl) _ _ (by rfl) w6.heap.size _ P2 (by rfl) (O7.out.alloc _) ⟨w7.heap.size, 0, none⟩ 1 1 [R1.data.toList] (by rfl) rfl (cells_new w7 (sv [R1.data.toList]) _) (by omega) (Nat.le_trans b7.out.size (by first | exact Nat.le_succ _ | simp)) ?_); intro v8 w8 hown hgrow; have O8 := Lib.hid (HP.out (fun t => SOwn w8 w6.heap.size v8 t) hown); have b8 := Lib.hid (below_grown (below_alloc b7.out (Nat.le_refl _) _) (O7.out.alloc _) hgrow (Nat.le_refl _) (Nat.le_refl _)); have B8 := Lib.hid (B6.out.trans (b8.out.mono B6.out.size)); have L8 := Lib.hid (L6.out.below b8.out); clear hown hgrow)
    have hrow := O8.out.row
    rw [HPM.out] at hrow
    obtain ⟨za, zb, zc, rfl, hlv⟩ := hrow
    have LV := Lib.hid hlv
    clear hlv
    go_wp2_with fail
    refine (T5.out _ _ _ _ L8.out (HE.out.new B8.out)).mono ?_
    rintro _ w9 ⟨rfl, hb⟩
    have B9 := Lib.hid (B8.out.trans (hb.mono B8.out.size))
    have L9 := Lib.hid (L8.out.below hb)
    have V9 := Lib.hid (LV.out.below hb)
    clear hb
    go_wp2_with fail
    refine (T6.out _ (HE.out.new B9.out)).mono ?_
    rintro _ w10 ⟨rfl, hb⟩
    have B10 := Lib.hid (B9.out.trans (hb.mono B9.out.size))
    have L10 := Lib.hid (L9.out.below hb)
    have V10 := Lib.hid (V9.out.below hb)
    clear hb
    go_wp2_with fail
    refine (T7.out _ _ _ _ L10.out (HE.out.new B10.out)).mono ?_
    rintro _ w11 ⟨yb, yc, yd, _, rfl, rfl, -, hl2, hb⟩
    have B11 := Lib.hid (B10.out.trans (hb.mono B10.out.size))
    have V11 := Lib.hid (V10.out.below hb)
    have P11 := Lib.hid hl2
    clear hb hl2
    go_wp2_with fail
    refine (T8.out _ _ _ _ _ _ _ _ _ P11.out V11.out).mono ?_
    rintro _ w12 ⟨rfl, hb⟩
    have B12 := Lib.hid (B11.out.trans (hb.mono B11.out.size))
    clear hb
    go_wp2_with fail
    go_ret
    exact ⟨rfl, B12.out⟩

set_option maxHeartbeats 20000000 in
set_option maxRecDepth 100000 in
theorem mparts_law (L : List (List UInt8)) (n : Nat) (hn : L.length = n) (hN : n ≤ 9223372036854775807) (k i : Int) (hkr : -9223372036854775808 ≤ k ∧ k ≤ 9223372036854775807) (hir : -9223372036854775808 ≤ i ∧ i ≤ 9223372036854775807)
    (xa : Option Addr) (b off cap : Nat) (w : World) (hL : Lv w xa b off cap L) (hE : Env w) :
    Calls Tryd.prog 8 #[.slice xa n cap, .int .i64 k, .int .i64 i] w fun e w' => e = .returned (.bool true) ∧ Below w.heap.size w w' := by
  have HS := Lib.hid (small04_any w hE)
  have HL := Lib.hid hL
  have HE := Lib.hid hE
  have F1 := Lib.hid (fun W (hb : Below w.heap.size w W) => few_no n hn hN xa b off cap W (hL.below hb) _ rfl)
  clear hL hE
  cases f1 : Mk.few L with
  | false =>
    rw [f1] at F1
    clear f1 hn
    go_enter Tryd.func8, Tryd.ntmps8
    go_wp2_with fail
    refine HS.out.mono ?_
    rintro _ w1 ⟨rfl, hb⟩
    have B1 := Lib.hid hb
    clear hb
    go_wp2_with fail
    refine (F1.out _ B1.out).mono ?_
    rintro _ w2 ⟨rfl, rfl⟩
    go_wp2_with fail
    go_ret
    exact ⟨rfl, B1.out⟩
  | true =>
  obtain ⟨hL40, hL70⟩ := Mk.few_mem f1
  rw [f1] at F1
  clear f1
  by_cases hk1 : k < 1
  case pos =>
    clear hn hL40 hL70
    go_enter Tryd.func8, Tryd.ntmps8
    go_wp2_with fail
    refine HS.out.mono ?_
    rintro _ w1 ⟨rfl, hb⟩
    have B1 := Lib.hid hb
    clear hb
    go_wp2_with fail
    refine (F1.out _ B1.out).mono ?_
    rintro _ w2 ⟨rfl, rfl⟩
    go_wp2_with fail
    go_ret
    exact ⟨rfl, B1.out⟩
  by_cases hk6 : k > 6
  case pos =>
    clear hn hL40 hL70
    go_enter Tryd.func8, Tryd.ntmps8
    go_wp2_with fail
    refine HS.out.mono ?_
    rintro _ w1 ⟨rfl, hb⟩
    have B1 := Lib.hid hb
    clear hb
    go_wp2_with fail
    refine (F1.out _ B1.out).mono ?_
    rintro _ w2 ⟨rfl, rfl⟩
    go_wp2_with fail
    go_ret
    exact ⟨rfl, B1.out⟩
  rcases (by omega : k = 1 ∨ k = 2 ∨ k = 3 ∨ k = 4 ∨ k = 5 ∨ k = 6) with rfl | rfl | rfl | rfl | rfl | rfl
  · clear hk1 hk6
    by_cases hlo : (n : Int) ≤ 2
    case pos =>
      clear hn hL40 hL70
      go_enter Tryd.func8, Tryd.ntmps8
      go_wp2_with fail
      refine HS.out.mono ?_
      rintro _ w1 ⟨rfl, hb⟩
      have B1 := Lib.hid hb
      clear hb
      go_wp2_with fail
      refine (F1.out _ B1.out).mono ?_
      rintro _ w2 ⟨rfl, rfl⟩
      go_wp2_with fail
      go_ret
      exact ⟨rfl, B1.out⟩
    by_cases hhi : (n : Int) > 4
    case pos =>
      clear hn hL40 hL70
      go_enter Tryd.func8, Tryd.ntmps8
      go_wp2_with fail
      refine HS.out.mono ?_
      rintro _ w1 ⟨rfl, hb⟩
      have B1 := Lib.hid hb
      clear hb
      go_wp2_with fail
      refine (F1.out _ B1.out).mono ?_
      rintro _ w2 ⟨rfl, rfl⟩
      go_wp2_with fail
      go_ret
      exact ⟨rfl, B1.out⟩
    by_cases hi0 : i < 0
    case pos =>
      clear hn hL40 hL70
      go_enter Tryd.func8, Tryd.ntmps8
      go_wp2_with fail
      refine HS.out.mono ?_
      rintro _ w1 ⟨rfl, hb⟩
      have B1 := Lib.hid hb
      clear hb
      go_wp2_with fail
      refine (F1.out _ B1.out).mono ?_
      rintro _ w2 ⟨rfl, rfl⟩
      go_wp2_with fail
      go_ret
      exact ⟨rfl, B1.out⟩
    by_cases hi1 : i ≥ (n : Int)
    case pos =>
      clear hn hL40 hL70
      go_enter Tryd.func8, Tryd.ntmps8
      go_wp2_with fail
      refine HS.out.mono ?_
      rintro _ w1 ⟨rfl, hb⟩
      have B1 := Lib.hid hb
      clear hb
      go_wp2_with fail
      refine (F1.out _ B1.out).mono ?_
      rintro _ w2 ⟨rfl, rfl⟩
      go_wp2_with fail
      go_ret
      exact ⟨rfl, B1.out⟩
    obtain ⟨j, rfl⟩ := Int.eq_ofNat_of_zero_le (by omega : 0 ≤ i)
    exact parts_1 L n hn hL40 (by omega) (by omega) j (by omega) xa b off cap w HL.out HE.out HS F1
  · clear hk1 hk6
    by_cases hlo : (n : Int) ≤ 4
    case pos =>
      clear hn hL40 hL70
      go_enter Tryd.func8, Tryd.ntmps8
      go_wp2_with fail
      refine HS.out.mono ?_
      rintro _ w1 ⟨rfl, hb⟩
      have B1 := Lib.hid hb
      clear hb
      go_wp2_with fail
      refine (F1.out _ B1.out).mono ?_
      rintro _ w2 ⟨rfl, rfl⟩
      go_wp2_with fail
      go_ret
      exact ⟨rfl, B1.out⟩
    by_cases hhi : (n : Int) > 8
    case pos =>
      clear hn hL40 hL70
      go_enter Tryd.func8, Tryd.ntmps8
      go_wp2_with fail
      refine HS.out.mono ?_
      rintro _ w1 ⟨rfl, hb⟩
      have B1 := Lib.hid hb
      clear hb
      go_wp2_with fail
      refine (F1.out _ B1.out).mono ?_
      rintro _ w2 ⟨rfl, rfl⟩
      go_wp2_with fail
      go_ret
      exact ⟨rfl, B1.out⟩
    by_cases hi0 : i < 0
    case pos =>
      clear hn hL40 hL70
      go_enter Tryd.func8, Tryd.ntmps8
      go_wp2_with fail
      refine HS.out.mono ?_
      rintro _ w1 ⟨rfl, hb⟩
      have B1 := Lib.hid hb
      clear hb
      go_wp2_with fail
      refine (F1.out _ B1.out).mono ?_
      rintro _ w2 ⟨rfl, rfl⟩
      go_wp2_with fail
      go_ret
      exact ⟨rfl, B1.out⟩
    by_cases hi1 : i ≥ (n : Int)
    case pos =>
      clear hn hL40 hL70
      go_enter Tryd.func8, Tryd.ntmps8
      go_wp2_with fail
      refine HS.out.mono ?_
      rintro _ w1 ⟨rfl, hb⟩
      have B1 := Lib.hid hb
      clear hb
      go_wp2_with fail
      refine (F1.out _ B1.out).mono ?_
      rintro _ w2 ⟨rfl, rfl⟩
      go_wp2_with fail
      go_ret
      exact ⟨rfl, B1.out⟩
    obtain ⟨j, rfl⟩ := Int.eq_ofNat_of_zero_le (by omega : 0 ≤ i)
    exact parts_2 L n hn hL40 (by omega) (by omega) j (by omega) xa b off cap w HL.out HE.out HS F1
  · clear hk1 hk6
    by_cases hlo : (n : Int) ≤ 8
    case pos =>
      clear hn hL40 hL70
      go_enter Tryd.func8, Tryd.ntmps8
      go_wp2_with fail
      refine HS.out.mono ?_
      rintro _ w1 ⟨rfl, hb⟩
      have B1 := Lib.hid hb
      clear hb
      go_wp2_with fail
      refine (F1.out _ B1.out).mono ?_
      rintro _ w2 ⟨rfl, rfl⟩
      go_wp2_with fail
      go_ret
      exact ⟨rfl, B1.out⟩
    by_cases hhi : (n : Int) > 16
    case pos =>
      clear hn hL40 hL70
      go_enter Tryd.func8, Tryd.ntmps8
      go_wp2_with fail
      refine HS.out.mono ?_
      rintro _ w1 ⟨rfl, hb⟩
      have B1 := Lib.hid hb
      clear hb
      go_wp2_with fail
      refine (F1.out _ B1.out).mono ?_
      rintro _ w2 ⟨rfl, rfl⟩
      go_wp2_with fail
      go_ret
      exact ⟨rfl, B1.out⟩
    by_cases hi0 : i < 0
    case pos =>
      clear hn hL40 hL70
      go_enter Tryd.func8, Tryd.ntmps8
      go_wp2_with fail
      refine HS.out.mono ?_
      rintro _ w1 ⟨rfl, hb⟩
      have B1 := Lib.hid hb
      clear hb
      go_wp2_with fail
      refine (F1.out _ B1.out).mono ?_
      rintro _ w2 ⟨rfl, rfl⟩
      go_wp2_with fail
      go_ret
      exact ⟨rfl, B1.out⟩
    by_cases hi1 : i ≥ (n : Int)
    case pos =>
      clear hn hL40 hL70
      go_enter Tryd.func8, Tryd.ntmps8
      go_wp2_with fail
      refine HS.out.mono ?_
      rintro _ w1 ⟨rfl, hb⟩
      have B1 := Lib.hid hb
      clear hb
      go_wp2_with fail
      refine (F1.out _ B1.out).mono ?_
      rintro _ w2 ⟨rfl, rfl⟩
      go_wp2_with fail
      go_ret
      exact ⟨rfl, B1.out⟩
    obtain ⟨j, rfl⟩ := Int.eq_ofNat_of_zero_le (by omega : 0 ≤ i)
    exact parts_3 L n hn hL40 (by omega) (by omega) j (by omega) xa b off cap w HL.out HE.out HS F1
  · clear hk1 hk6
    by_cases hlo : (n : Int) ≤ 16
    case pos =>
      clear hn hL40 hL70
      go_enter Tryd.func8, Tryd.ntmps8
      go_wp2_with fail
      refine HS.out.mono ?_
      rintro _ w1 ⟨rfl, hb⟩
      have B1 := Lib.hid hb
      clear hb
      go_wp2_with fail
      refine (F1.out _ B1.out).mono ?_
      rintro _ w2 ⟨rfl, rfl⟩
      go_wp2_with fail
      go_ret
      exact ⟨rfl, B1.out⟩
    by_cases hhi : (n : Int) > 32
    case pos =>
      clear hn hL40 hL70
      go_enter Tryd.func8, Tryd.ntmps8
      go_wp2_with fail
      refine HS.out.mono ?_
      rintro _ w1 ⟨rfl, hb⟩
      have B1 := Lib.hid hb
      clear hb
      go_wp2_with fail
      refine (F1.out _ B1.out).mono ?_
      rintro _ w2 ⟨rfl, rfl⟩
      go_wp2_with fail
      go_ret
      exact ⟨rfl, B1.out⟩
    by_cases hi0 : i < 0
    case pos =>
      clear hn hL40 hL70
      go_enter Tryd.func8, Tryd.ntmps8
      go_wp2_with fail
      refine HS.out.mono ?_
      rintro _ w1 ⟨rfl, hb⟩
      have B1 := Lib.hid hb
      clear hb
      go_wp2_with fail
      refine (F1.out _ B1.out).mono ?_
      rintro _ w2 ⟨rfl, rfl⟩
      go_wp2_with fail
      go_ret
      exact ⟨rfl, B1.out⟩
    by_cases hi1 : i ≥ (n : Int)
    case pos =>
      clear hn hL40 hL70
      go_enter Tryd.func8, Tryd.ntmps8
      go_wp2_with fail
      refine HS.out.mono ?_
      rintro _ w1 ⟨rfl, hb⟩
      have B1 := Lib.hid hb
      clear hb
      go_wp2_with fail
      refine (F1.out _ B1.out).mono ?_
      rintro _ w2 ⟨rfl, rfl⟩
      go_wp2_with fail
      go_ret
      exact ⟨rfl, B1.out⟩
    obtain ⟨j, rfl⟩ := Int.eq_ofNat_of_zero_le (by omega : 0 ≤ i)
    exact parts_4 L n hn hL40 (by omega) (by omega) j (by omega) xa b off cap w HL.out HE.out HS F1
  · clear hk1 hk6
    by_cases hlo : (n : Int) ≤ 32
    case pos =>
      clear hn hL40 hL70
      go_enter Tryd.func8, Tryd.ntmps8
      go_wp2_with fail
      refine HS.out.mono ?_
      rintro _ w1 ⟨rfl, hb⟩
      have B1 := Lib.hid hb
      clear hb
      go_wp2_with fail
      refine (F1.out _ B1.out).mono ?_
      rintro _ w2 ⟨rfl, rfl⟩
      go_wp2_with fail
      go_ret
      exact ⟨rfl, B1.out⟩
    by_cases hhi : (n : Int) > 64
    case pos =>
      clear hn hL40 hL70
      go_enter Tryd.func8, Tryd.ntmps8
      go_wp2_with fail
      refine HS.out.mono ?_
      rintro _ w1 ⟨rfl, hb⟩
      have B1 := Lib.hid hb
      clear hb
      go_wp2_with fail
      refine (F1.out _ B1.out).mono ?_
      rintro _ w2 ⟨rfl, rfl⟩
      go_wp2_with fail
      go_ret
      exact ⟨rfl, B1.out⟩
    by_cases hi0 : i < 0
    case pos =>
      clear hn hL40 hL70
      go_enter Tryd.func8, Tryd.ntmps8
      go_wp2_with fail
      refine HS.out.mono ?_
      rintro _ w1 ⟨rfl, hb⟩
      have B1 := Lib.hid hb
      clear hb
      go_wp2_with fail
      refine (F1.out _ B1.out).mono ?_
      rintro _ w2 ⟨rfl, rfl⟩
      go_wp2_with fail
      go_ret
      exact ⟨rfl, B1.out⟩
    by_cases hi1 : i ≥ (n : Int)
    case pos =>
      clear hn hL40 hL70
      go_enter Tryd.func8, Tryd.ntmps8
      go_wp2_with fail
      refine HS.out.mono ?_
      rintro _ w1 ⟨rfl, hb⟩
      have B1 := Lib.hid hb
      clear hb
      go_wp2_with fail
      refine (F1.out _ B1.out).mono ?_
      rintro _ w2 ⟨rfl, rfl⟩
      go_wp2_with fail
      go_ret
      exact ⟨rfl, B1.out⟩
    obtain ⟨j, rfl⟩ := Int.eq_ofNat_of_zero_le (by omega : 0 ≤ i)
    exact parts_5 L n hn hL40 (by omega) (by omega) j (by omega) xa b off cap w HL.out HE.out HS F1
  · clear hk1 hk6
    by_cases hlo : (n : Int) ≤ 64
    case pos =>
      clear hn hL40 hL70
      go_enter Tryd.func8, Tryd.ntmps8
      go_wp2_with fail
      refine HS.out.mono ?_
      rintro _ w1 ⟨rfl, hb⟩
      have B1 := Lib.hid hb
      clear hb
      go_wp2_with fail
      refine (F1.out _ B1.out).mono ?_
      rintro _ w2 ⟨rfl, rfl⟩
      go_wp2_with fail
      go_ret
      exact ⟨rfl, B1.out⟩
    by_cases hhi : (n : Int) > 128
    case pos =>
      clear hn hL40 hL70
      go_enter Tryd.func8, Tryd.ntmps8
      go_wp2_with fail
      refine HS.out.mono ?_
      rintro _ w1 ⟨rfl, hb⟩
      have B1 := Lib.hid hb
      clear hb
      go_wp2_with fail
      refine (F1.out _ B1.out).mono ?_
      rintro _ w2 ⟨rfl, rfl⟩
      go_wp2_with fail
      go_ret
      exact ⟨rfl, B1.out⟩
    by_cases hi0 : i < 0
    case pos =>
      clear hn hL40 hL70
      go_enter Tryd.func8, Tryd.ntmps8
      go_wp2_with fail
      refine HS.out.mono ?_
      rintro _ w1 ⟨rfl, hb⟩
      have B1 := Lib.hid hb
      clear hb
      go_wp2_with fail
      refine (F1.out _ B1.out).mono ?_
      rintro _ w2 ⟨rfl, rfl⟩
      go_wp2_with fail
      go_ret
      exact ⟨rfl, B1.out⟩
    by_cases hi1 : i ≥ (n : Int)
    case pos =>
      clear hn hL40 hL70
      go_enter Tryd.func8, Tryd.ntmps8
      go_wp2_with fail
      refine HS.out.mono ?_
      rintro _ w1 ⟨rfl, hb⟩
      have B1 := Lib.hid hb
      clear hb
      go_wp2_with fail
      refine (F1.out _ B1.out).mono ?_
      rintro _ w2 ⟨rfl, rfl⟩
      go_wp2_with fail
      go_ret
      exact ⟨rfl, B1.out⟩
    obtain ⟨j, rfl⟩ := Int.eq_ofNat_of_zero_le (by omega : 0 ≤ i)
    exact parts_6 L n hn hL40 (by omega) (by omega) j (by omega) xa b off cap w HL.out HE.out HS F1
end Go.Proofs.YteiabaddmclmlaaDoor
