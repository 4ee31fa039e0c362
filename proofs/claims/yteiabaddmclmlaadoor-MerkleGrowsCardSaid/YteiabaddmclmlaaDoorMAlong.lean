/-
  The reference's Along and Growing: the strings that are hashed for a path and for a growth.
-/
import Derived.Test.YteiabaddmclmlaaDoorMInner
namespace Go.Proofs.YteiabaddmclmlaaDoor
open Go Go.RowKit Go.Shelf
theorem lt_alloc2 (w : World) (o : Obj) : w.heap.size < (w.alloc o).drew.heap.size := by simp
theorem cells_kept (w : World) (l : List Value) (t : TypeId) {w5 : World} (hb : Below (w.alloc (.cells l.toArray t)).drew.heap.size (w.alloc (.cells l.toArray t)).drew w5) : ∀ (j : Nat) (u : Value), l[j]? = some u → w5.cell? (Addr.add ⟨w.heap.size, 0, none⟩ j) = some u := by
  intro j u hj
  have h1 := cells_newDrew w l t j u hj
  rw [add_plain0] at h1 ⊢
  exact (hb.cell (p := ⟨w.heap.size, j, none⟩) (lt_alloc2 w _)).trans h1
theorem along_left {leaf x : List UInt8} {q : List (List UInt8)} {n i k : Nat} (hk : Mk.split n = k) (h2 : 2 ≤ n) (hin : i < n) (hi : i < k) : Mk.along leaf (x :: q) n i = Mk.along leaf q k i ++ [1 :: (Mk.rby leaf q k i ++ x)] := by
  rw [Mk.along, if_neg (by omega), hk, if_pos hi]
theorem along_right {leaf x : List UInt8} {q : List (List UInt8)} {n i k : Nat} (hk : Mk.split n = k) (h2 : 2 ≤ n) (hin : i < n) (hi : ¬ i < k) : Mk.along leaf (x :: q) n i = Mk.along leaf q (n - k) (i - k) ++ [1 :: (x ++ Mk.rby leaf q (n - k) (i - k))] := by
  rw [Mk.along, if_neg (by omega), hk, if_neg hi]
set_option maxHeartbeats 8000000 in
set_option maxRecDepth 100000 in
theorem ralong_any (leaf : ByteArray) (hl : leaf.size ≤ 40) : ∀ (q : List (List UInt8)) (p : Nat) (_ : q.length = p) (_ : p ≤ 1000000) (_ : ∀ x ∈ q, x.length ≤ 40) (n i : Nat) (_ : i < n) (_ : n < 9223372036854775808) (xa : Option Addr) (b off cap : Nat) (w : World) (_ : Lv w xa b off cap q.reverse),
    Calls Tryd.prog 70 #[.int .i64 (n : Int), .int .i64 (i : Int), .string leaf, .slice xa p cap] w fun e w' => ∃ v, e = .returned v ∧ SOwn w' w.heap.size v (Mk.along leaf.data.toList q n i) ∧ Below w.heap.size w w' := by
  intro q
  induction q with
  | nil =>
    intro p hp hP hq n i hi hn xa b off cap w hL
    obtain rfl : p = 0 := hp.symm
    have HA := Lib.hid (show Mk.along leaf.data.toList [] n i = [] from rfl)
    clear hL hp hq
    by_cases h2 : n < 2
    · have d1 : (n : Int) < 2 := by omega
      go_enter Tryd.func70, Tryd.ntmps70
      go_wp2_with fail
      go_ret
      exact ⟨_, rfl, by rw [HA.out]; exact SOwn.nil _ _, Below.refl _ _⟩
    · have d1 : ¬ (n : Int) < 2 := by omega
      go_enter Tryd.func70, Tryd.ntmps70
      go_wp2_with fail
      go_ret
      exact ⟨_, rfl, by rw [HA.out]; exact SOwn.nil _ _, Below.refl _ _⟩
  | cons x q ih =>
    intro p hp hP hq n i hi hn xa b off cap w hL
    by_cases h2 : 2 ≤ n
    case neg =>
      have HA := Lib.hid (show Mk.along leaf.data.toList (x :: q) n i = [] from by rw [Mk.along, if_pos (by omega)])
      have d1 : (n : Int) < 2 := by omega
      clear hL hp hq ih
      go_enter Tryd.func70, Tryd.ntmps70
      go_wp2_with fail
      go_ret
      exact ⟨_, rfl, by rw [HA.out]; exact SOwn.nil _ _, Below.refl _ _⟩
    have d1 : ¬ (n : Int) < 2 := by omega
    have d2 : ¬ (i : Int) < 0 := by omega
    have d3 : ¬ (i : Int) ≥ (n : Int) := by omega
    have hpq : q.length + 1 = p := hp
    obtain ⟨d, hd⟩ : ∃ d, p - 1 = d := ⟨_, rfl⟩
    have hqd : q.length = d := by omega
    have p1 : p ≠ 0 := by omega
    have p2 : (p : Int) ≠ 0 := by omega
    have p3 : ((p : Int) == 0) = false := by rw [beq_eq_false_iff_ne]; omega
    have IH := Lib.hid ih
    have HL := Lib.hid hL
    obtain rfl := hL.at_ (by simp)
    obtain ⟨X, hX⟩ : ∃ X : ByteArray, encStr x = .string X := ⟨_, rfl⟩
    obtain ⟨hX1, hX2⟩ := encStr_size hX
    have hX3 : X.size ≤ 40 := by rw [hX2]; exact hq x (by simp)
    have hrev : (x :: q).reverse = q.reverse ++ [x] := List.reverse_cons
    have hlast : (x :: q).reverse.getD d [] = x := by rw [hrev, List.getD_eq_getElem?_getD, List.getElem?_append_right (by simp; omega)]; simp [hqd]
    have htake : (x :: q).reverse.take d = q.reverse := by rw [hrev, List.take_left' (by simp [hqd])]
    have hq' : ∀ z ∈ q, z.length ≤ 40 := fun z hz => hq z (by simp [hz])
    have CC := Lib.hid (fun (wz : World) (hb : Below w.heap.size w wz) => (show wz.cell? ⟨b, off + d, none⟩ = some (.string X) from by
      have c := (HL.out.below hb).cell d (by simp; omega)
      rw [hlast, hX] at c
      exact c))
    have hcap := HL.out.le
    have hcap2 : p ≤ cap := by simp at hcap; omega
    have m1 : (p : Int) - 1 = (d : Int) := by omega
    have m2 : IntKind.i64.wrap ((p : Int) - 1) = (d : Int) := by rw [IntWalk.i64_in _ (by omega)]; omega
    have m3 : (d : Int) < (p : Int) := by omega
    have m4 : (d : Int) ≤ (cap : Int) := by omega
    have m5 : d < p := by omega
    have m6 : d ≤ cap := by omega
    have HT : Hid (Lv w (some ⟨b, off, none⟩) b off cap q.reverse) := by
      have := HL.out.take d
      rw [htake] at this
      exact Lib.hid this
    have hk1 := Mk.split_lt h2
    have hk0 := Mk.split_pos n
    have HK := Lib.hid (fun w' : World => rsplit_any n h2 hn w')
    obtain ⟨k, hk⟩ : ∃ k, Mk.split n = k := ⟨_, rfl⟩
    rw [hk] at hk0 hk1 HK
    by_cases hik : i < k
    · have hiki : (i : Int) < (k : Int) := by omega
      have hal := along_left (leaf := leaf.data.toList) (x := x) (q := q) hk h2 hi hik
      have hrl := Mk.rby_len (leaf := leaf.data.toList) (by rw [← Lib.size_eq]; exact hl) q k i
      have hal2 := Mk.along_len leaf.data.toList q k i
      obtain ⟨R, hR⟩ : ∃ R : ByteArray, Mk.rby leaf.data.toList q k i = R.data.toList := ⟨⟨(Mk.rby leaf.data.toList q k i).toArray⟩, rfl⟩
      obtain ⟨O, hO⟩ : ∃ O, Mk.okp q k i = O := ⟨_, rfl⟩
      obtain ⟨A, hA⟩ : ∃ A, Mk.along leaf.data.toList q k i = A := ⟨_, rfl⟩
      have S := Lib.hid (rby_any leaf hl q d hqd (by omega) hq' k i (by omega) (by omega) _ b off cap w HT.out)
      have S1 := Lib.hid (fun (w5 : World) (hb : Below w.heap.size w w5) => IH.out d hqd (by omega) hq' k i (by omega) (by omega) _ b off cap w5 (HT.out.below hb))
      rw [hR, hO, encStr_to rfl] at S
      rw [hA] at S1 hal hal2
      rw [hR, hX1, ← pre_join] at hal
      obtain ⟨Y, hY⟩ : ∃ Y : ByteArray, ((⟨#[1]⟩ : ByteArray) ++ R) ++ X = Y := ⟨_, rfl⟩
      have HP := Lib.hid (show ∀ T : List (List UInt8) → Prop, T (A ++ [(((⟨#[1]⟩ : ByteArray) ++ R) ++ X).data.toList]) → T (Mk.along leaf.data.toList (x :: q) n i) from fun T h => by rw [hX1, hal]; exact h)
      have hbig : A.length + 1 ≤ 1000000000 := by omega
      have zR : R.size ≤ 40 := by rw [Lib.size_eq, ← hR]; exact hrl
      have hadd1 := fun w' : World => run_string_add_sum (P := Tryd.prog) (w := w') ⟨#[1]⟩ R (add_one 1 R (by omega))
      have hadd2 := fun w' : World => run_string_add_sum (P := Tryd.prog) (w := w') (⟨#[1]⟩ ++ R) X (add_two 1 R X (by omega) (by omega))
      clear ih hL hp hpq hd hX hX1 hX2 hX3 hrev hlast htake hq hq' hqd hk hal hrl hal2 hR hO hA hcap hY zR
      go_enter Tryd.func70, Tryd.ntmps70
      go_wp2_with fail
      refine (HK.out _).mono ?_
      rintro _ w2 ⟨rfl, rfl⟩
      go_wp2_with fail
      refine S.out.mono ?_
      rintro _ w3 ⟨rfl, hb3⟩
      have B3 := Lib.hid hb3
      clear hb3
      go_wp2_with fail
      go_region_held3 (fun wz => wz.cell? ⟨b, off + d, none⟩ = some (.string X)) (first | exact CC.out _ (below_drew B3.out) | exact CC.out _ (below_drew (below_alloc B3.out (Nat.le_refl _) _)) | exact CC.out _ hB1 | exact CC.out _ (below_alloc hB1 (Nat.le_refl _) _) | exact CC.out _ hB8 | fail) ((first
        | (refine step_append_strs (by rfl) _ _ (by rfl) w2.heap.size _ A (by rfl) hO1 ⟨w3.heap.size, 0, none⟩ 1 1 [(((⟨#[1]⟩ : ByteArray) ++ R) ++ X).data.toList] (by rfl) rfl hN hbig hB1.size ?_; intro v8 w8 hown hgrow; have hB8 := below_grown hB1 hO1 hgrow (Nat.le_refl _) (Nat.le_refl _))
        | (refine step_append_strs (by rfl) _ _ (by rfl) w2.heap.size _ A (by rfl) (hO1.alloc _) ⟨w5.heap.size, 0, none⟩ 1 1 [(((⟨#[1]⟩ : ByteArray) ++ R) ++ X).data.toList] (by rfl) rfl (cells_new w5 (sv [(((⟨#[1]⟩ : ByteArray) ++ R) ++ X).data.toList]) _) hbig (Nat.le_trans hB1.size (by first | exact Nat.le_succ _ | simp)) ?_; intro v8 w8 hown hgrow; have hB8 := below_grown (below_alloc hB1 (Nat.le_refl _) _) (hO1.alloc _) hgrow (Nat.le_refl _) (Nat.le_refl _))
        | (go_at_call 70; refine (S1.out _ (below_drew B3.out)).mono ?_; rintro e w5 ⟨v5, rfl, hO1', hB5⟩; have hB1 := (below_drew B3.out).trans (hB5.mono B3.out.size); have hO1 := hO1'.base B3.out.size)
        | (go_at_call 70; refine (S1.out _ (below_drew (below_alloc B3.out (Nat.le_refl _) (.cells (sv [(((⟨#[1]⟩ : ByteArray) ++ R) ++ X).data.toList]).toArray 9)))).mono ?_; rintro e w5 ⟨v5, rfl, hO1', hB5⟩; have hB1 := (below_drew (below_alloc B3.out (Nat.le_refl _) _)).trans (hB5.mono (below_alloc B3.out (Nat.le_refl _) _).size); have hO1 := hO1'.base (below_alloc B3.out (Nat.le_refl _) _).size; have hN := cells_kept w3 (sv [(((⟨#[1]⟩ : ByteArray) ++ R) ++ X).data.toList]) 9 hB5)
        | fail))
      all_goals
        have HO := Lib.hid (HP.out (fun t => SOwn w8 w2.heap.size v8 t) hown)
        have HB := Lib.hid hB8
        try clear hN
        clear hB1 hB5 hO1 hO1' hown hgrow hB8
        go_wp2
        go_ret
        exact ⟨v8, rfl, HO.out, HB.out⟩
    · have hiki : ¬ (i : Int) < (k : Int) := by omega
      have hal := along_right (leaf := leaf.data.toList) (x := x) (q := q) hk h2 hi hik
      obtain ⟨j, hj⟩ : ∃ j, i - k = j := ⟨_, rfl⟩
      obtain ⟨g, hg⟩ : ∃ g, n - k = g := ⟨_, rfl⟩
      rw [hj, hg] at hal
      have j1 : (i : Int) - (k : Int) = (j : Int) := by omega
      have j2 : IntKind.i64.wrap ((i : Int) - (k : Int)) = (j : Int) := by rw [IntWalk.i64_in _ (by omega)]; omega
      have j3 : IntKind.i64.wrap (j : Int) = (j : Int) := IntWalk.i64_in _ (by omega)
      have g1 : (n : Int) - (k : Int) = (g : Int) := by omega
      have g2 : IntKind.i64.wrap ((n : Int) - (k : Int)) = (g : Int) := by rw [IntWalk.i64_in _ (by omega)]; omega
      have g3 : IntKind.i64.wrap (g : Int) = (g : Int) := IntWalk.i64_in _ (by omega)
      have hrl := Mk.rby_len (leaf := leaf.data.toList) (by rw [← Lib.size_eq]; exact hl) q g j
      have hal2 := Mk.along_len leaf.data.toList q g j
      obtain ⟨R, hR⟩ : ∃ R : ByteArray, Mk.rby leaf.data.toList q g j = R.data.toList := ⟨⟨(Mk.rby leaf.data.toList q g j).toArray⟩, rfl⟩
      obtain ⟨O, hO⟩ : ∃ O, Mk.okp q g j = O := ⟨_, rfl⟩
      obtain ⟨A, hA⟩ : ∃ A, Mk.along leaf.data.toList q g j = A := ⟨_, rfl⟩
      have S := Lib.hid (rby_any leaf hl q d hqd (by omega) hq' g j (by omega) (by omega) _ b off cap w HT.out)
      have S1 := Lib.hid (fun (w5 : World) (hb : Below w.heap.size w w5) => IH.out d hqd (by omega) hq' g j (by omega) (by omega) _ b off cap w5 (HT.out.below hb))
      rw [hR, hO, encStr_to rfl] at S
      rw [hA] at S1 hal hal2
      rw [hR, hX1, ← pre_join] at hal
      obtain ⟨Y, hY⟩ : ∃ Y : ByteArray, ((⟨#[1]⟩ : ByteArray) ++ X) ++ R = Y := ⟨_, rfl⟩
      have HP := Lib.hid (show ∀ T : List (List UInt8) → Prop, T (A ++ [(((⟨#[1]⟩ : ByteArray) ++ X) ++ R).data.toList]) → T (Mk.along leaf.data.toList (x :: q) n i) from fun T h => by rw [hX1, hal]; exact h)
      have hbig : A.length + 1 ≤ 1000000000 := by omega
      have zR : R.size ≤ 40 := by rw [Lib.size_eq, ← hR]; exact hrl
      have hadd1 := fun w' : World => run_string_add_sum (P := Tryd.prog) (w := w') ⟨#[1]⟩ X (add_one 1 X (by omega))
      have hadd2 := fun w' : World => run_string_add_sum (P := Tryd.prog) (w := w') (⟨#[1]⟩ ++ X) R (add_two 1 X R (by omega) (by omega))
      clear ih hL hp hpq hd hX hX1 hX2 hX3 hrev hlast htake hq hq' hqd hk hal hrl hal2 hR hO hA hcap hY zR hj hg
      go_enter Tryd.func70, Tryd.ntmps70
      go_wp2_with fail
      refine (HK.out _).mono ?_
      rintro _ w2 ⟨rfl, rfl⟩
      go_wp2_with fail
      refine S.out.mono ?_
      rintro _ w3 ⟨rfl, hb3⟩
      have B3 := Lib.hid hb3
      clear hb3
      go_wp2_with fail
      go_region_held3 (fun wz => wz.cell? ⟨b, off + d, none⟩ = some (.string X)) (first | exact CC.out _ (below_drew B3.out) | exact CC.out _ (below_drew (below_alloc B3.out (Nat.le_refl _) _)) | exact CC.out _ hB1 | exact CC.out _ (below_alloc hB1 (Nat.le_refl _) _) | exact CC.out _ hB8 | fail) ((first
        | (refine step_append_strs (by rfl) _ _ (by rfl) w2.heap.size _ A (by rfl) hO1 ⟨w3.heap.size, 0, none⟩ 1 1 [(((⟨#[1]⟩ : ByteArray) ++ X) ++ R).data.toList] (by rfl) rfl hN hbig hB1.size ?_; intro v8 w8 hown hgrow; have hB8 := below_grown hB1 hO1 hgrow (Nat.le_refl _) (Nat.le_refl _))
        | (refine step_append_strs (by rfl) _ _ (by rfl) w2.heap.size _ A (by rfl) (hO1.alloc _) ⟨w5.heap.size, 0, none⟩ 1 1 [(((⟨#[1]⟩ : ByteArray) ++ X) ++ R).data.toList] (by rfl) rfl (cells_new w5 (sv [(((⟨#[1]⟩ : ByteArray) ++ X) ++ R).data.toList]) _) hbig (Nat.le_trans hB1.size (by first | exact Nat.le_succ _ | simp)) ?_; intro v8 w8 hown hgrow; have hB8 := below_grown (below_alloc hB1 (Nat.le_refl _) _) (hO1.alloc _) hgrow (Nat.le_refl _) (Nat.le_refl _))
        | (go_at_call 70; refine (S1.out _ (below_drew B3.out)).mono ?_; rintro e w5 ⟨v5, rfl, hO1', hB5⟩; have hB1 := (below_drew B3.out).trans (hB5.mono B3.out.size); have hO1 := hO1'.base B3.out.size)
        | (go_at_call 70; refine (S1.out _ (below_drew (below_alloc B3.out (Nat.le_refl _) (.cells (sv [(((⟨#[1]⟩ : ByteArray) ++ X) ++ R).data.toList]).toArray 9)))).mono ?_; rintro e w5 ⟨v5, rfl, hO1', hB5⟩; have hB1 := (below_drew (below_alloc B3.out (Nat.le_refl _) _)).trans (hB5.mono (below_alloc B3.out (Nat.le_refl _) _).size); have hO1 := hO1'.base (below_alloc B3.out (Nat.le_refl _) _).size; have hN := cells_kept w3 (sv [(((⟨#[1]⟩ : ByteArray) ++ X) ++ R).data.toList]) 9 hB5)
        | fail))
      all_goals
        have HO := Lib.hid (HP.out (fun t => SOwn w8 w2.heap.size v8 t) hown)
        have HB := Lib.hid hB8
        try clear hN
        clear hB1 hB5 hO1 hO1' hown hgrow hB8
        go_wp2
        go_ret
        exact ⟨v8, rfl, HO.out, HB.out⟩
theorem grows_left {old x : List UInt8} {q : List (List UInt8)} {m n k : Nat} {known : Bool} (hk : Mk.split n = k) (h0 : 1 ≤ m) (hmn : m < n) (hm : m ≤ k) : Mk.grows old (x :: q) m n known = Mk.grows old q m k known ++ [1 :: ((Mk.rboth old q m k known).2 ++ x)] := by
  rw [Mk.grows, if_neg (by omega), hk, if_pos hm]
theorem grows_right {old x : List UInt8} {q : List (List UInt8)} {m n k : Nat} {known : Bool} (hk : Mk.split n = k) (h0 : 1 ≤ m) (hmn : m < n) (hm : ¬ m ≤ k) : Mk.grows old (x :: q) m n known = Mk.grows old q (m - k) (n - k) false ++ [1 :: (x ++ (Mk.rboth old q (m - k) (n - k) false).1), 1 :: (x ++ (Mk.rboth old q (m - k) (n - k) false).2)] := by
  rw [Mk.grows, if_neg (by omega), hk, if_neg hm]
set_option maxHeartbeats 8000000 in
set_option maxRecDepth 100000 in
theorem rgrowing_any (old : ByteArray) (ho : old.size ≤ 40) : ∀ (q : List (List UInt8)) (p : Nat) (_ : q.length = p) (_ : p ≤ 1000000) (_ : ∀ x ∈ q, x.length ≤ 40) (m n : Nat) (_ : 1 ≤ m) (_ : m ≤ n) (_ : n < 9223372036854775808) (known : Bool) (xa : Option Addr) (b off cap : Nat) (w : World) (_ : Lv w xa b off cap q.reverse),
    Calls Tryd.prog 48 #[.string old, .int .i64 (m : Int), .int .i64 (n : Int), .slice xa p cap, .bool known] w fun e w' => ∃ v, e = .returned v ∧ SOwn w' w.heap.size v (Mk.grows old.data.toList q m n known) ∧ Below w.heap.size w w' := by
  intro q
  induction q with
  | nil =>
    intro p hp hP hq m n h0 hm hn known xa b off cap w hL
    obtain rfl : p = 0 := hp.symm
    have HA := Lib.hid (show Mk.grows old.data.toList [] m n known = [] from rfl)
    clear hL hp hq
    by_cases hmn : m = n
    · subst hmn
      have d1 : (m : Int) ≥ (m : Int) := by omega
      go_enter Tryd.func48, Tryd.ntmps48
      go_wp2_with fail
      go_ret
      exact ⟨_, rfl, by rw [HA.out]; exact SOwn.nil _ _, Below.refl _ _⟩
    · have d1 : ¬ (m : Int) ≥ (n : Int) := by omega
      have d2 : ¬ (m : Int) < 1 := by omega
      go_enter Tryd.func48, Tryd.ntmps48
      go_wp2_with fail
      go_ret
      exact ⟨_, rfl, by rw [HA.out]; exact SOwn.nil _ _, Below.refl _ _⟩
  | cons x q ih =>
    intro p hp hP hq m n h0 hm hn known xa b off cap w hL
    by_cases hmn : m = n
    · subst hmn
      have HA := Lib.hid (show Mk.grows old.data.toList (x :: q) m m known = [] from by rw [Mk.grows, if_pos (by omega)])
      have d1 : (m : Int) ≥ (m : Int) := by omega
      clear hL hp hq ih
      go_enter Tryd.func48, Tryd.ntmps48
      go_wp2_with fail
      go_ret
      exact ⟨_, rfl, by rw [HA.out]; exact SOwn.nil _ _, Below.refl _ _⟩
    have d1 : ¬ (m : Int) ≥ (n : Int) := by omega
    have d2 : ¬ (m : Int) < 1 := by omega
    have h2 : 2 ≤ n := by omega
    have hlt : m < n := by omega
    have hpq : q.length + 1 = p := hp
    obtain ⟨d, hd⟩ : ∃ d, p - 1 = d := ⟨_, rfl⟩
    have hqd : q.length = d := by omega
    have p1 : p ≠ 0 := by omega
    have p2 : (p : Int) ≠ 0 := by omega
    have p3 : ((p : Int) == 0) = false := by rw [beq_eq_false_iff_ne]; omega
    have IH := Lib.hid ih
    have HL := Lib.hid hL
    obtain rfl := hL.at_ (by simp)
    obtain ⟨X, hX⟩ : ∃ X : ByteArray, encStr x = .string X := ⟨_, rfl⟩
    obtain ⟨hX1, hX2⟩ := encStr_size hX
    have hX3 : X.size ≤ 40 := by rw [hX2]; exact hq x (by simp)
    have hrev : (x :: q).reverse = q.reverse ++ [x] := List.reverse_cons
    have hlast : (x :: q).reverse.getD d [] = x := by rw [hrev, List.getD_eq_getElem?_getD, List.getElem?_append_right (by simp; omega)]; simp [hqd]
    have htake : (x :: q).reverse.take d = q.reverse := by rw [hrev, List.take_left' (by simp [hqd])]
    have hq' : ∀ z ∈ q, z.length ≤ 40 := fun z hz => hq z (by simp [hz])
    have CC := Lib.hid (fun (wz : World) (hb : Below w.heap.size w wz) => (show wz.cell? ⟨b, off + d, none⟩ = some (.string X) from by
      have c := (HL.out.below hb).cell d (by simp; omega)
      rw [hlast, hX] at c
      exact c))
    have hcap := HL.out.le
    have hcap2 : p ≤ cap := by simp at hcap; omega
    have m1 : (p : Int) - 1 = (d : Int) := by omega
    have m2 : IntKind.i64.wrap ((p : Int) - 1) = (d : Int) := by rw [IntWalk.i64_in _ (by omega)]; omega
    have m3 : (d : Int) < (p : Int) := by omega
    have m4 : (d : Int) ≤ (cap : Int) := by omega
    have m5 : d < p := by omega
    have m6 : d ≤ cap := by omega
    have HT : Hid (Lv w (some ⟨b, off, none⟩) b off cap q.reverse) := by
      have := HL.out.take d
      rw [htake] at this
      exact Lib.hid this
    have c := CC.out w (Below.refl _ _)
    have hk1 := Mk.split_lt h2
    have hk0 := Mk.split_pos n
    have HK := Lib.hid (fun w' : World => rsplit_any n h2 hn w')
    obtain ⟨k, hk⟩ : ∃ k, Mk.split n = k := ⟨_, rfl⟩
    rw [hk] at hk0 hk1 HK
    by_cases hmk : m ≤ k
    · have hmki : (m : Int) ≤ (k : Int) := by omega
      have hal := grows_left (old := old.data.toList) (x := x) (q := q) (known := known) hk h0 hlt hmk
      have hal2 := Mk.grows_len old.data.toList q m k known
      have hrl := Mk.rboth_len (old := old.data.toList) (by rw [← Lib.size_eq]; exact ho) q m k known hq'
      obtain ⟨R, hR⟩ : ∃ R : ByteArray, (Mk.rboth old.data.toList q m k known).1 = R.data.toList := ⟨⟨(Mk.rboth old.data.toList q m k known).1.toArray⟩, rfl⟩
      obtain ⟨T, hT⟩ : ∃ R : ByteArray, (Mk.rboth old.data.toList q m k known).2 = R.data.toList := ⟨⟨(Mk.rboth old.data.toList q m k known).2.toArray⟩, rfl⟩
      obtain ⟨O, hO⟩ : ∃ O, Mk.okb q m k known = O := ⟨_, rfl⟩
      obtain ⟨A, hA⟩ : ∃ A, Mk.grows old.data.toList q m k known = A := ⟨_, rfl⟩
      have S := Lib.hid (rboth_any old ho q d hqd (by omega) hq' m k (by omega) (by omega) (by omega) known _ b off cap w HT.out)
      have S1 := Lib.hid (fun (w5 : World) (hb : Below w.heap.size w w5) => IH.out d hqd (by omega) hq' m k (by omega) (by omega) (by omega) known _ b off cap w5 (HT.out.below hb))
      rw [hR, hT, hO, encStr_to rfl, encStr_to rfl] at S
      rw [hA] at S1 hal hal2
      rw [hT, hX1, ← pre_join] at hal
      have HP := Lib.hid (show ∀ Z : List (List UInt8) → Prop, Z (A ++ [(((⟨#[1]⟩ : ByteArray) ++ T) ++ X).data.toList]) → Z (Mk.grows old.data.toList (x :: q) m n known) from fun Z h => by rw [hX1, hal]; exact h)
      have hbig : A.length + 1 ≤ 1000000000 := by omega
      have zR : R.size ≤ 40 := by rw [Lib.size_eq, ← hR]; exact hrl.1
      have zT : T.size ≤ 40 := by rw [Lib.size_eq, ← hT]; exact hrl.2
      clear ih hL hp hpq hd hX hX1 hX2 hrev hlast htake hq hq' hqd hk hal hrl hal2 hR hT hO hA hcap hmn
      go_enter Tryd.func48, Tryd.ntmps48
      go_wp2_with fail
      refine (HK.out _).mono ?_
      rintro _ w2 ⟨rfl, rfl⟩
      go_wp2_with fail
      refine S.out.mono ?_
      rintro _ w3 ⟨rfl, hb3⟩
      have B3 := Lib.hid hb3
      clear hb3
      go_wp2_with fail
      refine (S1.out _ B3.out).mono ?_
      rintro _ w5 ⟨v5, rfl, hO1', hB5⟩
      have B5 := Lib.hid (B3.out.trans (hB5.mono B3.out.size))
      have O5 := Lib.hid (hO1'.base B3.out.size)
      clear hO1' hB5
      go_wp2_with (at_builtin; go_must (refine wpList_append_strs (by rfl) _ _ (by rfl) w2.heap.size _ A (by rfl) (O5.out.alloc _) ⟨w5.heap.size, 0, none⟩ 1 1 [(((⟨#[1]⟩ : ByteArray) ++ T) ++ X).data.toList] (by rfl) rfl (cells_new w5 (sv [(((⟨#[1]⟩ : ByteArray) ++ T) ++ X).data.toList]) _) hbig (Nat.le_trans B5.out.size (by first | exact Nat.le_succ _ | simp)) ?_); intro v8 w8 hown hgrow; have HO := Lib.hid (HP.out (fun t => SOwn w8 w2.heap.size v8 t) hown); have HB := Lib.hid (below_grown (below_alloc B5.out (Nat.le_refl _) _) (O5.out.alloc _) hgrow (Nat.le_refl _) (Nat.le_refl _)); clear hown hgrow)
      go_ret
      exact ⟨v8, rfl, HO.out, HB.out⟩
    · have hmki : ¬ (m : Int) ≤ (k : Int) := by omega
      have hal := grows_right (old := old.data.toList) (x := x) (q := q) (known := known) hk h0 hlt hmk
      obtain ⟨j, hj⟩ : ∃ j, m - k = j := ⟨_, rfl⟩
      obtain ⟨g, hg⟩ : ∃ g, n - k = g := ⟨_, rfl⟩
      rw [hj, hg] at hal
      have j1 : (m : Int) - (k : Int) = (j : Int) := by omega
      have j2 : IntKind.i64.wrap ((m : Int) - (k : Int)) = (j : Int) := by rw [IntWalk.i64_in _ (by omega)]; omega
      have j3 : IntKind.i64.wrap (j : Int) = (j : Int) := IntWalk.i64_in _ (by omega)
      have g1 : (n : Int) - (k : Int) = (g : Int) := by omega
      have g2 : IntKind.i64.wrap ((n : Int) - (k : Int)) = (g : Int) := by rw [IntWalk.i64_in _ (by omega)]; omega
      have g3 : IntKind.i64.wrap (g : Int) = (g : Int) := IntWalk.i64_in _ (by omega)
      have hal2 := Mk.grows_len old.data.toList q j g false
      have hrl := Mk.rboth_len (old := old.data.toList) (by rw [← Lib.size_eq]; exact ho) q j g false hq'
      obtain ⟨R, hR⟩ : ∃ R : ByteArray, (Mk.rboth old.data.toList q j g false).1 = R.data.toList := ⟨⟨(Mk.rboth old.data.toList q j g false).1.toArray⟩, rfl⟩
      obtain ⟨T, hT⟩ : ∃ R : ByteArray, (Mk.rboth old.data.toList q j g false).2 = R.data.toList := ⟨⟨(Mk.rboth old.data.toList q j g false).2.toArray⟩, rfl⟩
      obtain ⟨O, hO⟩ : ∃ O, Mk.okb q j g false = O := ⟨_, rfl⟩
      obtain ⟨A, hA⟩ : ∃ A, Mk.grows old.data.toList q j g false = A := ⟨_, rfl⟩
      have S := Lib.hid (rboth_any old ho q d hqd (by omega) hq' j g (by omega) (by omega) (by omega) false _ b off cap w HT.out)
      have S1 := Lib.hid (fun (w5 : World) (hb : Below w.heap.size w w5) => IH.out d hqd (by omega) hq' j g (by omega) (by omega) (by omega) false _ b off cap w5 (HT.out.below hb))
      rw [hR, hT, hO, encStr_to rfl, encStr_to rfl] at S
      rw [hA] at S1 hal hal2
      rw [hR, hT, hX1, ← pre_join, ← pre_join] at hal
      have HP := Lib.hid (show ∀ Z : List (List UInt8) → Prop, Z (A ++ [(((⟨#[1]⟩ : ByteArray) ++ X) ++ R).data.toList, (((⟨#[1]⟩ : ByteArray) ++ X) ++ T).data.toList]) → Z (Mk.grows old.data.toList (x :: q) m n known) from fun Z h => by rw [hX1, hal]; exact h)
      have hbig : A.length + 2 ≤ 1000000000 := by omega
      have zR : R.size ≤ 40 := by rw [Lib.size_eq, ← hR]; exact hrl.1
      have zT : T.size ≤ 40 := by rw [Lib.size_eq, ← hT]; exact hrl.2
      clear ih hL hp hpq hd hX hX1 hX2 hrev hlast htake hq hq' hqd hk hal hrl hal2 hR hT hO hA hcap hmn hj hg
      go_enter Tryd.func48, Tryd.ntmps48
      go_wp2_with fail
      refine (HK.out _).mono ?_
      rintro _ w2 ⟨rfl, rfl⟩
      go_wp2_with fail
      refine S.out.mono ?_
      rintro _ w3 ⟨rfl, hb3⟩
      have B3 := Lib.hid hb3
      clear hb3
      go_wp2_with fail
      refine (S1.out _ B3.out).mono ?_
      rintro _ w5 ⟨v5, rfl, hO1', hB5⟩
      have B5 := Lib.hid (B3.out.trans (hB5.mono B3.out.size))
      have O5 := Lib.hid (hO1'.base B3.out.size)
      clear hO1' hB5
      go_wp2_with (at_builtin; go_must (refine wpList_append_strs (by rfl) _ _ (by rfl) w2.heap.size _ A (by rfl) (O5.out.alloc _) ⟨w5.heap.size, 0, none⟩ 2 2 [(((⟨#[1]⟩ : ByteArray) ++ X) ++ R).data.toList, (((⟨#[1]⟩ : ByteArray) ++ X) ++ T).data.toList] (by rfl) rfl (cells_new w5 (sv [(((⟨#[1]⟩ : ByteArray) ++ X) ++ R).data.toList, (((⟨#[1]⟩ : ByteArray) ++ X) ++ T).data.toList]) _) hbig (Nat.le_trans B5.out.size (by first | exact Nat.le_succ _ | simp)) ?_); intro v8 w8 hown hgrow; have HO := Lib.hid (HP.out (fun t => SOwn w8 w2.heap.size v8 t) hown); have HB := Lib.hid (below_grown (below_alloc B5.out (Nat.le_refl _) _) (O5.out.alloc _) hgrow (Nat.le_refl _) (Nat.le_refl _)); clear hown hgrow)
      go_ret
      exact ⟨v8, rfl, HO.out, HB.out⟩
end Go.Proofs.YteiabaddmclmlaaDoor
