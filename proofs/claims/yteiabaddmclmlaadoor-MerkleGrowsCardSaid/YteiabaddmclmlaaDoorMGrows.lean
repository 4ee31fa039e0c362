/-
  The law MerkleGrows, walked: a growth is accepted with both roots, and with the root of the list no other old root is, unless two different strings that were hashed have the same digest.
-/
import Derived.Test.YteiabaddmclmlaaDoorMTells
import Derived.Test.YteiabaddmclmlaaDoorMAlong
import Derived.Test.YteiabaddmclmlaaDoorMClashW
namespace Go.Proofs.YteiabaddmclmlaaDoor
open Go Go.RowKit Go.Shelf
theorem len_hashy {x : List UInt8} (h : x.length = 32) : Mk.hashy x = true := by unfold Mk.hashy; simpa using h
theorem hashy_len {x : List UInt8} (h : Mk.hashy x = true) : x.length = 32 := by unfold Mk.hashy at h; simpa using h
theorem cg_inv {old root : List UInt8} {m n : Nat} {M : List (List UInt8)} (h0 : 0 < m) (h : Mk.checkGrown old root (m : Int) (n : Int) M = true) : Mk.hashy old = true ∧ Mk.hashes M = true ∧ Mk.both old M.reverse m n true = some (old, root) := by
  unfold Mk.checkGrown at h
  rw [if_neg (by omega)] at h
  simp only [Bool.and_eq_true, Int.toNat_natCast] at h
  exact ⟨h.1.1.1.2, h.1.2, of_decide_eq_true h.2⟩
theorem grows_yes {X : List (List UInt8)} {m n : Nat} (hn : X.length = n) (hm : m ≤ n) (hX : ∀ x ∈ X, x.length = 32) : Mk.checkGrown (Mk.root (X.take m)) (Mk.root X) (m : Int) (n : Int) (Mk.grown X (m : Int)) = true := by
  have h32 : ∀ x ∈ X.take m, x.length = 32 := fun x hx => hX x (List.mem_of_mem_take hx)
  rcases Nat.eq_zero_or_pos m with rfl | h0
  · have hg : Mk.grown X ((0 : Nat) : Int) = [] := by unfold Mk.grown; rw [if_neg (by omega)]
    have := cg_zero (old := Mk.root (X.take 0)) (root := Mk.root X) (n := (n : Int)) (L := Mk.grown X ((0 : Nat) : Int)) (by omega) (len_hashy (Mk.root_len32 h32)) (len_hashy (Mk.root_len32 hX)) (by rw [hg]; rfl)
    rw [hg] at this ⊢
    refine this.trans ?_
    rw [show X.take 0 = [] from rfl, Mk.root_nil]
    simp
  · have hg : Mk.grown X (m : Int) = Mk.growth X m true := by unfold Mk.grown; rw [if_pos (by omega), Int.toNat_natCast]
    rw [hg, cg_more h0 hm (len_hashy (Mk.root_len32 h32)) (len_hashy (Mk.root_len32 hX)) (Mk.hashes_of (Mk.growth_len32 _ X m true (Nat.le_refl _) hX)), Mk.grown_whole _ n X m n true (Nat.le_refl _) hn h0 hm (fun _ => rfl)]
    simp
theorem grows_no {X M : List (List UInt8)} {old : List UInt8} {m n : Nat} (hn : X.length = n) (h0 : 0 < m) (hm : m ≤ n) (hX : ∀ x ∈ X, x.length = 32) (h : Mk.checkGrown old (Mk.root X) (m : Int) (n : Int) M = true) (hne : old ≠ Mk.root (X.take m)) : Mk.Clashes (Mk.inner X ++ Mk.grows old M.reverse m n true) := by
  obtain ⟨h1, h2, h3⟩ := cg_inv h0 h
  rcases Mk.grown_sound old (hashy_len h1) M.reverse X m n true old hn h0 hm hX (fun x hx => Mk.hashes_mem h2 x (by simpa using hx)) h3 with a | hc
  · exact absurd a hne
  · exact hc
theorem grown_len {X : List (List UInt8)} {n : Nat} (hn : X.length = n) (h : n ≤ 70) (m : Int) : (Mk.grown X m).length ≤ 8 := by
  unfold Mk.grown
  split
  · exact Mk.growth_deep 7 X m.toNat true (by omega)
  · simp
theorem grown_len32 {X : List (List UInt8)} (hX : ∀ x ∈ X, x.length = 32) (m : Int) : ∀ x ∈ Mk.grown X m, x.length = 32 := by
  unfold Mk.grown
  split
  · exact Mk.growth_len32 _ X m.toNat true (Nat.le_refl _) hX
  · intro x hx; cases hx
theorem cg_is (old root : ByteArray) (m n : Int) (hn : n ≤ 9223372036854775807) (L : List (List UInt8)) (p : Nat) (hp : L.length = p) (hP : p ≤ 1000000) (g : Bool) (hg : Mk.checkGrown old.data.toList root.data.toList m n L = g) (xa : Option Addr) (b off cap : Nat) (w : World) (hL : Lv w xa b off cap L) (hE : Env w) :
    Calls Tryd.prog 42 #[.string old, .int .i64 m, .string root, .int .i64 n, .slice xa p cap] w fun e w' => e = .returned (.bool g) ∧ Below w.heap.size w w' := by
  rw [← hg]; exact checkGrown_any old root m n hn L p hp hP xa b off cap w hL hE
theorem SOwn.row2 {w : World} {base : Nat} {v : Value} {X : List (List UInt8)} (h : SOwn w base v X) : ∃ xa b cap, (xa = none ∨ xa = some ⟨b, 0, none⟩) ∧ v = .slice xa X.length cap ∧ Lv w xa b 0 cap X := by
  have hx := h.1
  rcases h.2 with ⟨rfl, h0⟩ | ⟨g, cap, cur, rfl, hb, hg, hnc, _⟩
  · exact ⟨none, 0, 0, .inl rfl, by rw [h0], fun hp => by omega, fun j hj => by omega, fun hp => by omega, by omega⟩
  · refine ⟨_, g, cap, .inr rfl, rfl, fun _ => rfl, fun j hj => ?_, fun _ => (Array.getElem?_eq_some_iff.1 hg).1, hnc⟩
    have := World.ownsRow.cells (g := g) h rfl j _ (sv_at hj)
    rw [add_plain0] at this
    rw [Nat.zero_add]; exact this
set_option maxHeartbeats 20000000 in
set_option maxRecDepth 100000 in
theorem grows_zero (L M : List (List UInt8)) (n m : Nat) (hn : L.length = n) (hm : M.length = m) (hN : n ≤ 70) (hM : m ≤ 70) (hL40 : ∀ x ∈ L, x.length ≤ 40) (hM40 : ∀ x ∈ M, x.length ≤ 40) (old : ByteArray) (h2 : old.size ≤ 40)
    (xa ya : Option Addr) (b off cap b' off' cap' : Nat) (w : World) (HL : Hid (Lv w xa b off cap L)) (HM : Hid (Lv w ya b' off' cap' M)) (HE : Hid (Env w)) (HS : Hid (Calls Tryd.prog 27 #[] w fun e w' => e = .returned (.bool true) ∧ Below w.heap.size w w'))
    (F1 : Hid (∀ W, Below w.heap.size w W → Calls Tryd.prog 28 #[.slice xa n cap] W fun e w' => e = .returned (.bool true) ∧ W = w')) (F2 : Hid (∀ W, Below w.heap.size w W → Calls Tryd.prog 28 #[.slice ya m cap'] W fun e w' => e = .returned (.bool true) ∧ W = w')) :
    Calls Tryd.prog 6 #[.slice xa n cap, .int .i64 0, .string old, .slice ya m cap'] w fun e w' => e = .returned (.bool true) ∧ Below w.heap.size w w' := by
  have y2 : ¬ (old.size : Int) > 40 := by omega
  have SV := Lib.hid (fun W (hb : Below w.heap.size w W) => leaves_any L n hn (by omega) hL40 xa b off cap W (HL.out.below hb) (HE.out.new hb))
  have hl : (L.map Mk.leaf).length = n := by rw [List.length_map]; exact hn
  have hX : ∀ x ∈ L.map Mk.leaf, x.length = 32 := fun x hx => by
    obtain ⟨y, _, rfl⟩ := List.mem_map.1 hx
    exact Mk.leaf_len y
  obtain ⟨X, hXX⟩ : ∃ X, L.map Mk.leaf = X := ⟨_, rfl⟩
  rw [hXX] at SV hl hX
  have hX40 : ∀ x ∈ X, x.length ≤ 40 := fun x hx => by rw [hX x hx]; omega
  have hXt : ∀ x ∈ X.take 0, x.length ≤ 40 := fun x hx => hX40 x (List.mem_of_mem_take hx)
  have lt1 : (X.take 0).length = 0 := by rw [List.length_take]; omega
  obtain ⟨R, hR⟩ : ∃ R : ByteArray, Mk.root X = R.data.toList := ⟨⟨(Mk.root X).toArray⟩, rfl⟩
  obtain ⟨V, hV⟩ : ∃ R : ByteArray, Mk.root (X.take 0) = R.data.toList := ⟨⟨(Mk.root (X.take 0)).toArray⟩, rfl⟩
  have hk : Mk.checkGrown V.data.toList R.data.toList 0 (n : Int) [] = true := by
    have := grows_yes hl (Nat.zero_le n) hX
    rw [hR, hV, show Mk.grown X ((0 : Nat) : Int) = [] from by unfold Mk.grown; rw [if_neg (by omega)]] at this
    exact this
  have hV0 : V.data.toList = Dg.sha [] := by rw [← hV, show X.take 0 = [] from rfl, Mk.root_nil]
  obtain ⟨g, hg⟩ : ∃ g, decide (old.data.toList = V.data.toList) = g := ⟨_, rfl⟩
  have q1 : (old.toList == V.toList) = g := by rw [strEq, hg]
  obtain ⟨e, he⟩ : ∃ e, decide (m = 0) = e := ⟨_, rfl⟩
  have q2 : ((m : Int) == 0) = e := by rw [← he, Bool.eq_iff_iff]; simp
  have hc : Mk.checkGrown old.data.toList R.data.toList 0 (n : Int) M = (g && e) := by
    by_cases h : (g && e) = true
    · rw [h]
      simp only [Bool.and_eq_true] at h
      obtain ⟨rfl, rfl⟩ := h
      have h1 := of_decide_eq_true hg
      have h2 := of_decide_eq_true he
      have hM0 : M = [] := List.eq_nil_of_length_eq_zero (by omega)
      subst hM0
      rw [h1]; exact hk
    · rw [Bool.not_eq_true] at h
      rw [h, Bool.eq_false_iff]
      intro h3
      unfold Mk.checkGrown at h3
      rw [if_pos rfl] at h3
      simp only [Bool.and_eq_true, decide_eq_true_eq] at h3
      have g1 : g = true := by rw [← hg, decide_eq_true_eq, hV0]; exact h3.2.1
      have g2 : e = true := by rw [← he, decide_eq_true_eq]; omega
      rw [g1, g2] at h
      cases h
  have HX := Lib.hid hl
  have T1 := Lib.hid (fun ya vb cp W hl2 hE2 => root_to X n hl (by omega) hX40 R hR ya vb 0 cp W hl2 hE2)
  have T2 := Lib.hid (fun ya vb cp W hl2 hE2 => root_to (X.take 0) 0 lt1 (by omega) hXt V hV ya vb 0 cp W hl2 hE2)
  have T3 := Lib.hid (fun ya vb cp W hl2 hE2 => grown_every X n hl (by omega) hX40 0 [] (by unfold Mk.grown; rw [if_neg (by omega)]) 0 rfl ya vb 0 cp W hl2 hE2)
  have T4 := Lib.hid (fun ya vb cp W hl2 hE2 => cg_is V R 0 (n : Int) (by omega) [] 0 rfl (by omega) true hk ya vb 0 cp W hl2 hE2)
  have T5 := Lib.hid (fun W hb hE2 => cg_is old R 0 (n : Int) (by omega) M m hm (by omega) (g && e) hc ya b' off' cap' W (HM.out.below hb) hE2)
  clear hn hm hL40 hM40 hXX hX hX40 hXt lt1 hR hV hk hV0 hg he hc hl
  cases g <;> cases e
  all_goals
    simp only [Bool.and_false, Bool.and_true] at T5
    go_enter Tryd.func6, Tryd.ntmps6
    go_wp2_with fail
    refine HS.out.mono ?_
    rintro _ w1 ⟨rfl, hb⟩
    have B1 := Lib.hid hb
    clear hb
    go_wp2_with fail
    refine (F1.out _ B1.out).mono ?_
    rintro _ w2 ⟨rfl, rfl⟩
    go_wp2_with fail
    refine (F2.out _ B1.out).mono ?_
    rintro _ w2 ⟨rfl, rfl⟩
    go_wp2_with fail
    refine (SV.out _ B1.out).mono ?_
    rintro _ w2 ⟨v2, rfl, ho2, hb⟩
    have B2 := Lib.hid (B1.out.trans (hb.mono B1.out.size))
    have hrow := ho2.row2
    rw [HX.out] at hrow
    obtain ⟨va, vb, cp, hva, rfl, hlv⟩ := hrow
    have L2 := Lib.hid hlv
    clear hb ho2 hlv
    rcases hva with rfl | rfl
    all_goals
      go_wp2_with fail
      refine (T1.out _ _ _ _ L2.out (HE.out.new B2.out)).mono ?_
      rintro _ w3 ⟨rfl, hb⟩
      have B3 := Lib.hid (B2.out.trans (hb.mono B2.out.size))
      have L3 := Lib.hid (L2.out.below hb)
      clear hb
      go_wp2_with fail
      refine (T2.out _ _ _ _ (L3.out.take 0) (HE.out.new B3.out)).mono ?_
      rintro _ w4 ⟨rfl, hb⟩
      have B4 := Lib.hid (B3.out.trans (hb.mono B3.out.size))
      have L4 := Lib.hid (L3.out.below hb)
      clear hb
      go_wp2_with fail
      refine (T3.out _ _ _ _ L4.out (HE.out.new B4.out)).mono ?_
      rintro _ w5 ⟨za, zb, zd, _, rfl, rfl, -, hl2, hb⟩
      have B5 := Lib.hid (B4.out.trans (hb.mono B4.out.size))
      have P5 := Lib.hid hl2
      clear hb hl2
      go_wp2_with fail
      refine (T4.out _ _ _ _ P5.out (HE.out.new B5.out)).mono ?_
      rintro _ w6 ⟨rfl, hb⟩
      have B6 := Lib.hid (B5.out.trans (hb.mono B5.out.size))
      clear hb
      go_wp2_with fail
      refine (T5.out _ B6.out (HE.out.new B6.out)).mono ?_
      rintro _ w7 ⟨rfl, hb⟩
      have B7 := Lib.hid (B6.out.trans (hb.mono B6.out.size))
      clear hb
      go_wp2_with fail
      go_ret
      exact ⟨rfl, B7.out⟩
set_option maxHeartbeats 40000000 in
set_option maxRecDepth 100000 in
theorem grows_more (L M : List (List UInt8)) (n m : Nat) (hn : L.length = n) (hm : M.length = m) (hN : n ≤ 70) (hM : m ≤ 70) (hL40 : ∀ x ∈ L, x.length ≤ 40) (hM40 : ∀ x ∈ M, x.length ≤ 40) (j : Nat) (hj : j ≤ n) (old : ByteArray) (h2 : old.size ≤ 40)
    (xa ya : Option Addr) (b off cap b' off' cap' : Nat) (w : World) (HL : Hid (Lv w xa b off cap L)) (HM : Hid (Lv w ya b' off' cap' M)) (HE : Hid (Env w)) (HS : Hid (Calls Tryd.prog 27 #[] w fun e w' => e = .returned (.bool true) ∧ Below w.heap.size w w'))
    (F1 : Hid (∀ W, Below w.heap.size w W → Calls Tryd.prog 28 #[.slice xa n cap] W fun e w' => e = .returned (.bool true) ∧ W = w')) (F2 : Hid (∀ W, Below w.heap.size w W → Calls Tryd.prog 28 #[.slice ya m cap'] W fun e w' => e = .returned (.bool true) ∧ W = w')) (hj0 : 0 < j) :
    Calls Tryd.prog 6 #[.slice xa n cap, .int .i64 (j : Int), .string old, .slice ya m cap'] w fun e w' => e = .returned (.bool true) ∧ Below w.heap.size w w' := by
  have y2 : ¬ (old.size : Int) > 40 := by omega
  have SV := Lib.hid (fun W (hb : Below w.heap.size w W) => leaves_any L n hn (by omega) hL40 xa b off cap W (HL.out.below hb) (HE.out.new hb))
  have hl : (L.map Mk.leaf).length = n := by rw [List.length_map]; exact hn
  have hX : ∀ x ∈ L.map Mk.leaf, x.length = 32 := fun x hx => by
    obtain ⟨y, _, rfl⟩ := List.mem_map.1 hx
    exact Mk.leaf_len y
  obtain ⟨X, hXX⟩ : ∃ X, L.map Mk.leaf = X := ⟨_, rfl⟩
  rw [hXX] at SV hl hX
  have hX40 : ∀ x ∈ X, x.length ≤ 40 := fun x hx => by rw [hX x hx]; omega
  have hXt : ∀ x ∈ X.take j, x.length ≤ 40 := fun x hx => hX40 x (List.mem_of_mem_take hx)
  have lt1 : (X.take j).length = j := by rw [List.length_take]; omega
  obtain ⟨R, hR⟩ : ∃ R : ByteArray, Mk.root X = R.data.toList := ⟨⟨(Mk.root X).toArray⟩, rfl⟩
  obtain ⟨V, hV⟩ : ∃ R : ByteArray, Mk.root (X.take j) = R.data.toList := ⟨⟨(Mk.root (X.take j)).toArray⟩, rfl⟩
  obtain ⟨P, hP⟩ : ∃ P, Mk.grown X (j : Int) = P := ⟨_, rfl⟩
  obtain ⟨p, hp⟩ : ∃ p, P.length = p := ⟨_, rfl⟩
  have lp : p ≤ 8 := by rw [← hp, ← hP]; exact grown_len hl (by omega) _
  have hP40 : ∀ x ∈ P, x.length ≤ 40 := fun x hx => by rw [← hP] at hx; have := grown_len32 hX _ x hx; omega
  have hk : Mk.checkGrown V.data.toList R.data.toList (j : Int) (n : Int) P = true := by rw [← hR, ← hV, ← hP]; exact grows_yes hl hj hX
  obtain ⟨g, hg⟩ : ∃ g, decide (old.data.toList = V.data.toList) = g := ⟨_, rfl⟩
  have q1 : (old.toList == V.toList) = g := by rw [strEq, hg]
  have q2 : (old.toList != V.toList) = !g := by rw [bne, q1]
  obtain ⟨k1, hk1⟩ : ∃ k, Mk.checkGrown old.data.toList R.data.toList (j : Int) (n : Int) M = k := ⟨_, rfl⟩
  obtain ⟨k2, hk2⟩ : ∃ k, Mk.checkGrown old.data.toList R.data.toList (j : Int) (n : Int) P = k := ⟨_, rfl⟩
  obtain ⟨I, hI⟩ : ∃ I, Mk.inner X = I := ⟨_, rfl⟩
  obtain ⟨A1, hA1⟩ : ∃ A, Mk.grows old.data.toList M.reverse j n true = A := ⟨_, rfl⟩
  obtain ⟨A2, hA2⟩ : ∃ A, Mk.grows old.data.toList P.reverse j n true = A := ⟨_, rfl⟩
  have c1 : k1 = true → g = false → Mk.Clashes (I ++ A1) := by
    intro h1 h2
    rw [← hI, ← hA1]
    rw [← hk1, ← hR] at h1
    exact grows_no hl hj0 hj hX h1 (fun h => of_decide_eq_false (hg.trans h2) (by rw [h, hV]))
  have c2 : k2 = true → g = false → Mk.Clashes (I ++ A2) := by
    intro h1 h2
    rw [← hI, ← hA2]
    rw [← hk2, ← hR] at h1
    exact grows_no hl hj0 hj hX h1 (fun h => of_decide_eq_false (hg.trans h2) (by rw [h, hV]))
  have lI : I.length ≤ 1000 := by rw [← hI]; have := Mk.inner_len n X (by omega); omega
  have lA1 : A1.length ≤ 1000 := by rw [← hA1]; have := Mk.grows_len old.data.toList M.reverse j n true; simp at this; omega
  have lA2 : A2.length ≤ 1000 := by rw [← hA2]; have := Mk.grows_len old.data.toList P.reverse j n true; simp at this; omega
  have ho40 : old.data.toList.length ≤ 40 := by rw [← Lib.size_eq]; exact h2
  have sI : ∀ x ∈ I, x.length ≤ 1000 := fun x hx => by rw [← hI] at hx; have := Mk.inner_size hX40 x hx; omega
  have s1 : ∀ x ∈ I ++ A1, x.length ≤ 1000 := by
    intro x hx
    rcases List.mem_append.1 hx with hx | hx
    · exact sI x hx
    · rw [← hA1] at hx
      have := Mk.grows_size ho40 M.reverse j n true (fun y hy => hM40 y (by simpa using hy)) x hx
      omega
  have s2 : ∀ x ∈ I ++ A2, x.length ≤ 1000 := by
    intro x hx
    rcases List.mem_append.1 hx with hx | hx
    · exact sI x hx
    · rw [← hA2] at hx
      have := Mk.grows_size ho40 P.reverse j n true (fun y hy => hP40 y (by simpa using hy)) x hx
      omega
  obtain ⟨z1, hz1⟩ : ∃ z, (I ++ A1).length = z := ⟨_, rfl⟩
  obtain ⟨z2, hz2⟩ : ∃ z, (I ++ A2).length = z := ⟨_, rfl⟩
  have lz1 : z1 ≤ 1000000 := by rw [← hz1, List.length_append]; omega
  have lz2 : z2 ≤ 1000000 := by rw [← hz2, List.length_append]; omega
  have HX := Lib.hid hl
  have T1 := Lib.hid (fun ya vb cp W hl2 hE2 => root_to X n hl (by omega) hX40 R hR ya vb 0 cp W hl2 hE2)
  have T2 := Lib.hid (fun ya vb cp W hl2 hE2 => root_to (X.take j) j lt1 (by omega) hXt V hV ya vb 0 cp W hl2 hE2)
  have T3 := Lib.hid (fun ya vb cp W hl2 hE2 => grown_every X n hl (by omega) hX40 (j : Int) P hP p hp ya vb 0 cp W hl2 hE2)
  have T4 := Lib.hid (fun ya vb cp W hl2 hE2 => cg_is V R (j : Int) (n : Int) (by omega) P p hp (by omega) true hk ya vb 0 cp W hl2 hE2)
  have T5 := Lib.hid (fun ya vb cp W hl2 => rinner_any n X n hl (Nat.le_refl _) (by omega) hX40 ya vb 0 cp W hl2)
  rw [hI] at T5
  have T6 := Lib.hid (fun W hb hE2 => cg_is old R (j : Int) (n : Int) (by omega) M m hm (by omega) k1 hk1 ya b' off' cap' W (HM.out.below hb) hE2)
  have T7 := Lib.hid (fun ya vb cp W hl2 hE2 => cg_is old R (j : Int) (n : Int) (by omega) P p hp (by omega) k2 hk2 ya vb 0 cp W hl2 hE2)
  have T8 := Lib.hid (fun W (hb : Below w.heap.size w W) => rgrowing_any old h2 M.reverse m (by simp [hm]) (by omega) (fun y hy => hM40 y (by simpa using hy)) j n (by omega) hj (by omega) true ya b' off' cap' W (by rw [List.reverse_reverse]; exact HM.out.below hb))
  have T9 := Lib.hid (fun ya vb cp W (hl2 : Lv W ya vb 0 cp P) => rgrowing_any old h2 P.reverse p (by simp [hp]) (by omega) (fun y hy => hP40 y (by simpa using hy)) j n (by omega) hj (by omega) true ya vb 0 cp W (by rw [List.reverse_reverse]; exact hl2))
  rw [hA1] at T8
  rw [hA2] at T9
  have U1 := Lib.hid (fun (hC : Mk.Clashes (I ++ A1)) xa b off cap W hl2 => rclash_any (I ++ A1) z1 hz1 lz1 s1 hC xa b off cap W hl2)
  have U2 := Lib.hid (fun (hC : Mk.Clashes (I ++ A2)) xa b off cap W hl2 => rclash_any (I ++ A2) z2 hz2 lz2 s2 hC xa b off cap W hl2)
  have HZ1 := Lib.hid hz1
  have HZ2 := Lib.hid hz2
  have HC1 := Lib.hid c1
  have HC2 := Lib.hid c2
  have hbig1 : I.length + A1.length ≤ 1000000000 := by omega
  have hbig2 : I.length + A2.length ≤ 1000000000 := by omega
  have e0 : ((j : Int) == 0) = false := by rw [beq_eq_false_iff_ne]; omega
  have e1 : (j : Int) ≠ 0 := by omega
  have e2 : ¬ (j : Int) > (n : Int) := by omega
  have e3 : ¬ (j : Int) < 0 := by omega
  have e4 : ¬ (p : Int) > 8 := by omega
  have e5 : (j : Int) ≤ (n : Int) := by omega
  have hn0 : 0 < n := by omega
  clear hn hm hL40 hM40 hXX hX hX40 hXt lt1 hR hV hP hp hP40 hk hg hk1 hk2 hI hA1 hA2 c1 c2 lI lA1 lA2 ho40 sI s1 s2 hz1 hz2 lz1 lz2 hl
  cases g with
  | true =>
    simp only [Bool.not_true] at q2
    clear HC1 HC2
    cases k1 <;> cases k2
    all_goals
      go_enter Tryd.func6, Tryd.ntmps6
      go_wp2_with fail
      refine HS.out.mono ?_
      rintro _ w1 ⟨rfl, hb⟩
      have B1 := Lib.hid hb
      clear hb
      go_wp2_with fail
      refine (F1.out _ B1.out).mono ?_
      rintro _ w2 ⟨rfl, rfl⟩
      go_wp2_with fail
      refine (F2.out _ B1.out).mono ?_
      rintro _ w2 ⟨rfl, rfl⟩
      go_wp2_with fail
      refine (SV.out _ B1.out).mono ?_
      rintro _ w2 ⟨v2, rfl, ho2, hb⟩
      have B2 := Lib.hid (B1.out.trans (hb.mono B1.out.size))
      have hrow := ho2.row
      rw [HX.out] at hrow
      obtain ⟨va, vb, cp, rfl, hlv⟩ := hrow
      obtain rfl := hlv.at_ (by rw [HX.out]; omega)
      have L2 := Lib.hid hlv
      have hcp := hlv.le
      rw [HX.out] at hcp
      have x1 : (j : Int) ≤ (cp : Int) := by omega
      have x2 : j ≤ cp := by omega
      clear hb ho2 hlv
      go_wp2_with fail
      refine (T1.out _ _ _ _ L2.out (HE.out.new B2.out)).mono ?_
      rintro _ w3 ⟨rfl, hb⟩
      have B3 := Lib.hid (B2.out.trans (hb.mono B2.out.size))
      have L3 := Lib.hid (L2.out.below hb)
      clear hb
      go_wp2_with fail
      refine (T2.out _ _ _ _ (L3.out.take j) (HE.out.new B3.out)).mono ?_
      rintro _ w4 ⟨rfl, hb⟩
      have B4 := Lib.hid (B3.out.trans (hb.mono B3.out.size))
      have L4 := Lib.hid (L3.out.below hb)
      clear hb
      go_wp2_with fail
      refine (T3.out _ _ _ _ L4.out (HE.out.new B4.out)).mono ?_
      rintro _ w5 ⟨za, zb, zd, _, rfl, rfl, -, hl2, hb⟩
      have B5 := Lib.hid (B4.out.trans (hb.mono B4.out.size))
      have L5 := Lib.hid (L4.out.below hb)
      have P5 := Lib.hid hl2
      clear hb hl2
      go_wp2_with fail
      refine (T4.out _ _ _ _ P5.out (HE.out.new B5.out)).mono ?_
      rintro _ w6 ⟨rfl, hb⟩
      have B6 := Lib.hid (B5.out.trans (hb.mono B5.out.size))
      have L6 := Lib.hid (L5.out.below hb)
      have P6 := Lib.hid (P5.out.below hb)
      clear hb
      go_wp2_with fail
      refine (T5.out _ _ _ _ L6.out).mono ?_
      rintro _ w7 ⟨v7, rfl, ho, hb⟩
      have b7 := Lib.hid hb
      have B7 := Lib.hid (B6.out.trans (hb.mono B6.out.size))
      have P7 := Lib.hid (P6.out.below hb)
      have O7 := Lib.hid ho
      clear hb ho
      go_wp2_with fail
      refine (T6.out _ B7.out (HE.out.new B7.out)).mono ?_
      rintro _ w8 ⟨rfl, hb⟩
      have b8 := Lib.hid (b7.out.trans (hb.mono b7.out.size))
      have B8 := Lib.hid (B7.out.trans (hb.mono B7.out.size))
      have P8 := Lib.hid (P7.out.below hb)
      have O8 := Lib.hid (O7.out.below hb)
      clear hb
      go_wp2_with fail
      refine (T7.out _ _ _ _ P8.out (HE.out.new B8.out)).mono ?_
      rintro _ w9 ⟨rfl, hb⟩
      have b9 := Lib.hid (b8.out.trans (hb.mono b8.out.size))
      have B9 := Lib.hid (B8.out.trans (hb.mono B8.out.size))
      have P9 := Lib.hid (P8.out.below hb)
      have O9 := Lib.hid (O8.out.below hb)
      clear hb
      go_wp2_with fail
      go_ret
      exact ⟨rfl, B9.out⟩
  | false =>
    simp only [Bool.not_false] at q2
    cases k1 with
    | true =>
      have HCl := Lib.hid (HC1.out rfl rfl)
      clear HC1 HC2
      go_enter Tryd.func6, Tryd.ntmps6
      go_wp2_with fail
      refine HS.out.mono ?_
      rintro _ w1 ⟨rfl, hb⟩
      have B1 := Lib.hid hb
      clear hb
      go_wp2_with fail
      refine (F1.out _ B1.out).mono ?_
      rintro _ w2 ⟨rfl, rfl⟩
      go_wp2_with fail
      refine (F2.out _ B1.out).mono ?_
      rintro _ w2 ⟨rfl, rfl⟩
      go_wp2_with fail
      refine (SV.out _ B1.out).mono ?_
      rintro _ w2 ⟨v2, rfl, ho2, hb⟩
      have B2 := Lib.hid (B1.out.trans (hb.mono B1.out.size))
      have hrow := ho2.row
      rw [HX.out] at hrow
      obtain ⟨va, vb, cp, rfl, hlv⟩ := hrow
      obtain rfl := hlv.at_ (by rw [HX.out]; omega)
      have L2 := Lib.hid hlv
      have hcp := hlv.le
      rw [HX.out] at hcp
      have x1 : (j : Int) ≤ (cp : Int) := by omega
      have x2 : j ≤ cp := by omega
      clear hb ho2 hlv
      go_wp2_with fail
      refine (T1.out _ _ _ _ L2.out (HE.out.new B2.out)).mono ?_
      rintro _ w3 ⟨rfl, hb⟩
      have B3 := Lib.hid (B2.out.trans (hb.mono B2.out.size))
      have L3 := Lib.hid (L2.out.below hb)
      clear hb
      go_wp2_with fail
      refine (T2.out _ _ _ _ (L3.out.take j) (HE.out.new B3.out)).mono ?_
      rintro _ w4 ⟨rfl, hb⟩
      have B4 := Lib.hid (B3.out.trans (hb.mono B3.out.size))
      have L4 := Lib.hid (L3.out.below hb)
      clear hb
      go_wp2_with fail
      refine (T3.out _ _ _ _ L4.out (HE.out.new B4.out)).mono ?_
      rintro _ w5 ⟨za, zb, zd, _, rfl, rfl, -, hl2, hb⟩
      have B5 := Lib.hid (B4.out.trans (hb.mono B4.out.size))
      have L5 := Lib.hid (L4.out.below hb)
      have P5 := Lib.hid hl2
      clear hb hl2
      go_wp2_with fail
      refine (T4.out _ _ _ _ P5.out (HE.out.new B5.out)).mono ?_
      rintro _ w6 ⟨rfl, hb⟩
      have B6 := Lib.hid (B5.out.trans (hb.mono B5.out.size))
      have L6 := Lib.hid (L5.out.below hb)
      have P6 := Lib.hid (P5.out.below hb)
      clear hb
      go_wp2_with fail
      refine (T5.out _ _ _ _ L6.out).mono ?_
      rintro _ w7 ⟨v7, rfl, ho, hb⟩
      have b7 := Lib.hid hb
      have B7 := Lib.hid (B6.out.trans (hb.mono B6.out.size))
      have P7 := Lib.hid (P6.out.below hb)
      have O7 := Lib.hid ho
      clear hb ho
      go_wp2_with fail
      refine (T6.out _ B7.out (HE.out.new B7.out)).mono ?_
      rintro _ w8 ⟨rfl, hb⟩
      have b8 := Lib.hid (b7.out.trans (hb.mono b7.out.size))
      have B8 := Lib.hid (B7.out.trans (hb.mono B7.out.size))
      have P8 := Lib.hid (P7.out.below hb)
      have O8 := Lib.hid (O7.out.below hb)
      clear hb
      go_wp2_with fail
      refine (T8.out _ B8.out).mono ?_
      rintro _ w9 ⟨v9, rfl, ho, hb⟩
      have b9 := Lib.hid (b8.out.trans (hb.mono b8.out.size))
      have O9 := Lib.hid ho
      have O8b := Lib.hid (O8.out.below hb)
      clear hb ho
      go_wp2_with (at_builtin; go_must (refine wpList_append_rows_want (by rfl) _ _ (by rfl) w6.heap.size _ I (by rfl) O8b.out _ v9 A1 (by rfl) O9.out hbig1 b9.out.size ?_); intro v10 w10 hown hgrow; have O10 := Lib.hid hown; have b10 := Lib.hid (below_grown b9.out O8b.out hgrow (Nat.le_refl _) (Nat.le_refl _)); have B10 := Lib.hid (B6.out.trans (b10.out.mono B6.out.size)); clear hown hgrow; have hrow := O10.out.row; rw [HZ1.out] at hrow; obtain ⟨ta, tb, tc, rfl, hlv⟩ := hrow; have L10 := Lib.hid hlv; clear hlv)
      refine (U1.out HCl.out _ _ _ _ _ L10.out).mono ?_
      rintro _ w11 ⟨rfl, hb⟩
      have B11 := Lib.hid (B10.out.trans (hb.mono B10.out.size))
      clear hb
      go_wp2_with fail
      go_ret
      exact ⟨rfl, B11.out⟩
    | false =>
      cases k2 with
      | true =>
        have HCl := Lib.hid (HC2.out rfl rfl)
        clear HC1 HC2
        go_enter Tryd.func6, Tryd.ntmps6
        go_wp2_with fail
        refine HS.out.mono ?_
        rintro _ w1 ⟨rfl, hb⟩
        have B1 := Lib.hid hb
        clear hb
        go_wp2_with fail
        refine (F1.out _ B1.out).mono ?_
        rintro _ w2 ⟨rfl, rfl⟩
        go_wp2_with fail
        refine (F2.out _ B1.out).mono ?_
        rintro _ w2 ⟨rfl, rfl⟩
        go_wp2_with fail
        refine (SV.out _ B1.out).mono ?_
        rintro _ w2 ⟨v2, rfl, ho2, hb⟩
        have B2 := Lib.hid (B1.out.trans (hb.mono B1.out.size))
        have hrow := ho2.row
        rw [HX.out] at hrow
        obtain ⟨va, vb, cp, rfl, hlv⟩ := hrow
        obtain rfl := hlv.at_ (by rw [HX.out]; omega)
        have L2 := Lib.hid hlv
        have hcp := hlv.le
        rw [HX.out] at hcp
        have x1 : (j : Int) ≤ (cp : Int) := by omega
        have x2 : j ≤ cp := by omega
        clear hb ho2 hlv
        go_wp2_with fail
        refine (T1.out _ _ _ _ L2.out (HE.out.new B2.out)).mono ?_
        rintro _ w3 ⟨rfl, hb⟩
        have B3 := Lib.hid (B2.out.trans (hb.mono B2.out.size))
        have L3 := Lib.hid (L2.out.below hb)
        clear hb
        go_wp2_with fail
        refine (T2.out _ _ _ _ (L3.out.take j) (HE.out.new B3.out)).mono ?_
        rintro _ w4 ⟨rfl, hb⟩
        have B4 := Lib.hid (B3.out.trans (hb.mono B3.out.size))
        have L4 := Lib.hid (L3.out.below hb)
        clear hb
        go_wp2_with fail
        refine (T3.out _ _ _ _ L4.out (HE.out.new B4.out)).mono ?_
        rintro _ w5 ⟨za, zb, zd, _, rfl, rfl, -, hl2, hb⟩
        have B5 := Lib.hid (B4.out.trans (hb.mono B4.out.size))
        have L5 := Lib.hid (L4.out.below hb)
        have P5 := Lib.hid hl2
        clear hb hl2
        go_wp2_with fail
        refine (T4.out _ _ _ _ P5.out (HE.out.new B5.out)).mono ?_
        rintro _ w6 ⟨rfl, hb⟩
        have B6 := Lib.hid (B5.out.trans (hb.mono B5.out.size))
        have L6 := Lib.hid (L5.out.below hb)
        have P6 := Lib.hid (P5.out.below hb)
        clear hb
        go_wp2_with fail
        refine (T5.out _ _ _ _ L6.out).mono ?_
        rintro _ w7 ⟨v7, rfl, ho, hb⟩
        have b7 := Lib.hid hb
        have B7 := Lib.hid (B6.out.trans (hb.mono B6.out.size))
        have P7 := Lib.hid (P6.out.below hb)
        have O7 := Lib.hid ho
        clear hb ho
        go_wp2_with fail
        refine (T6.out _ B7.out (HE.out.new B7.out)).mono ?_
        rintro _ w8 ⟨rfl, hb⟩
        have b8 := Lib.hid (b7.out.trans (hb.mono b7.out.size))
        have B8 := Lib.hid (B7.out.trans (hb.mono B7.out.size))
        have P8 := Lib.hid (P7.out.below hb)
        have O8 := Lib.hid (O7.out.below hb)
        clear hb
        go_wp2_with fail
        refine (T7.out _ _ _ _ P8.out (HE.out.new B8.out)).mono ?_
        rintro _ w9 ⟨rfl, hb⟩
        have b9 := Lib.hid (b8.out.trans (hb.mono b8.out.size))
        have B9 := Lib.hid (B8.out.trans (hb.mono B8.out.size))
        have P9 := Lib.hid (P8.out.below hb)
        have O9 := Lib.hid (O8.out.below hb)
        clear hb
        go_wp2_with fail
        refine (T9.out _ _ _ _ P9.out).mono ?_
        rintro _ w10 ⟨v10, rfl, ho, hb⟩
        have b10 := Lib.hid (b9.out.trans (hb.mono b9.out.size))
        have O10 := Lib.hid ho
        have O9b := Lib.hid (O9.out.below hb)
        clear hb ho
        go_wp2_with (at_builtin; go_must (refine wpList_append_rows_want (by rfl) _ _ (by rfl) w6.heap.size _ I (by rfl) O9b.out _ v10 A2 (by rfl) O10.out hbig2 b10.out.size ?_); intro v11 w11 hown hgrow; have O11 := Lib.hid hown; have b11 := Lib.hid (below_grown b10.out O9b.out hgrow (Nat.le_refl _) (Nat.le_refl _)); have B11 := Lib.hid (B6.out.trans (b11.out.mono B6.out.size)); clear hown hgrow; have hrow := O11.out.row; rw [HZ2.out] at hrow; obtain ⟨ta, tb, tc, rfl, hlv⟩ := hrow; have L11 := Lib.hid hlv; clear hlv)
        refine (U2.out HCl.out _ _ _ _ _ L11.out).mono ?_
        rintro _ w12 ⟨rfl, hb⟩
        have B12 := Lib.hid (B11.out.trans (hb.mono B11.out.size))
        clear hb
        go_wp2_with fail
        go_ret
        exact ⟨rfl, B12.out⟩
      | false =>
        clear HC1 HC2
        go_enter Tryd.func6, Tryd.ntmps6
        go_wp2_with fail
        refine HS.out.mono ?_
        rintro _ w1 ⟨rfl, hb⟩
        have B1 := Lib.hid hb
        clear hb
        go_wp2_with fail
        refine (F1.out _ B1.out).mono ?_
        rintro _ w2 ⟨rfl, rfl⟩
        go_wp2_with fail
        refine (F2.out _ B1.out).mono ?_
        rintro _ w2 ⟨rfl, rfl⟩
        go_wp2_with fail
        refine (SV.out _ B1.out).mono ?_
        rintro _ w2 ⟨v2, rfl, ho2, hb⟩
        have B2 := Lib.hid (B1.out.trans (hb.mono B1.out.size))
        have hrow := ho2.row
        rw [HX.out] at hrow
        obtain ⟨va, vb, cp, rfl, hlv⟩ := hrow
        obtain rfl := hlv.at_ (by rw [HX.out]; omega)
        have L2 := Lib.hid hlv
        have hcp := hlv.le
        rw [HX.out] at hcp
        have x1 : (j : Int) ≤ (cp : Int) := by omega
        have x2 : j ≤ cp := by omega
        clear hb ho2 hlv
        go_wp2_with fail
        refine (T1.out _ _ _ _ L2.out (HE.out.new B2.out)).mono ?_
        rintro _ w3 ⟨rfl, hb⟩
        have B3 := Lib.hid (B2.out.trans (hb.mono B2.out.size))
        have L3 := Lib.hid (L2.out.below hb)
        clear hb
        go_wp2_with fail
        refine (T2.out _ _ _ _ (L3.out.take j) (HE.out.new B3.out)).mono ?_
        rintro _ w4 ⟨rfl, hb⟩
        have B4 := Lib.hid (B3.out.trans (hb.mono B3.out.size))
        have L4 := Lib.hid (L3.out.below hb)
        clear hb
        go_wp2_with fail
        refine (T3.out _ _ _ _ L4.out (HE.out.new B4.out)).mono ?_
        rintro _ w5 ⟨za, zb, zd, _, rfl, rfl, -, hl2, hb⟩
        have B5 := Lib.hid (B4.out.trans (hb.mono B4.out.size))
        have L5 := Lib.hid (L4.out.below hb)
        have P5 := Lib.hid hl2
        clear hb hl2
        go_wp2_with fail
        refine (T4.out _ _ _ _ P5.out (HE.out.new B5.out)).mono ?_
        rintro _ w6 ⟨rfl, hb⟩
        have B6 := Lib.hid (B5.out.trans (hb.mono B5.out.size))
        have L6 := Lib.hid (L5.out.below hb)
        have P6 := Lib.hid (P5.out.below hb)
        clear hb
        go_wp2_with fail
        refine (T5.out _ _ _ _ L6.out).mono ?_
        rintro _ w7 ⟨v7, rfl, ho, hb⟩
        have b7 := Lib.hid hb
        have B7 := Lib.hid (B6.out.trans (hb.mono B6.out.size))
        have P7 := Lib.hid (P6.out.below hb)
        have O7 := Lib.hid ho
        clear hb ho
        go_wp2_with fail
        refine (T6.out _ B7.out (HE.out.new B7.out)).mono ?_
        rintro _ w8 ⟨rfl, hb⟩
        have b8 := Lib.hid (b7.out.trans (hb.mono b7.out.size))
        have B8 := Lib.hid (B7.out.trans (hb.mono B7.out.size))
        have P8 := Lib.hid (P7.out.below hb)
        have O8 := Lib.hid (O7.out.below hb)
        clear hb
        go_wp2_with fail
        refine (T7.out _ _ _ _ P8.out (HE.out.new B8.out)).mono ?_
        rintro _ w9 ⟨rfl, hb⟩
        have b9 := Lib.hid (b8.out.trans (hb.mono b8.out.size))
        have B9 := Lib.hid (B8.out.trans (hb.mono B8.out.size))
        have P9 := Lib.hid (P8.out.below hb)
        have O9 := Lib.hid (O8.out.below hb)
        clear hb
        go_wp2_with fail
        go_ret
        exact ⟨rfl, B9.out⟩
set_option maxHeartbeats 20000000 in
set_option maxRecDepth 100000 in
theorem mgrows_law (L M : List (List UInt8)) (n m : Nat) (hn : L.length = n) (hm : M.length = m) (hN : n ≤ 9223372036854775807) (hM : m ≤ 9223372036854775807) (i : Int) (old : ByteArray)
    (xa ya : Option Addr) (b off cap b' off' cap' : Nat) (w : World) (hL : Lv w xa b off cap L) (hL2 : Lv w ya b' off' cap' M) (hE : Env w) :
    Calls Tryd.prog 6 #[.slice xa n cap, .int .i64 i, .string old, .slice ya m cap'] w fun e w' => e = .returned (.bool true) ∧ Below w.heap.size w w' := by
  have HS := Lib.hid (small04_any w hE)
  have HL := Lib.hid hL
  have HM := Lib.hid hL2
  have HE := Lib.hid hE
  have F1 := Lib.hid (fun W (hb : Below w.heap.size w W) => few_no n hn hN xa b off cap W (hL.below hb) _ rfl)
  have F2 := Lib.hid (fun W (hb : Below w.heap.size w W) => few_no m hm hM ya b' off' cap' W (hL2.below hb) _ rfl)
  clear hL hL2 hE
  cases f1 : Mk.few L with
  | false =>
    rw [f1] at F1
    clear f1 hn hm
    go_enter Tryd.func6, Tryd.ntmps6
    go_wp2_with fail
    refine HS.out.mono ?_
    rintro _ w1 ⟨rfl, hb⟩
    have B1 := Lib.hid hb
    clear hb
    go_wp2_with fail
    refine (F1.out _ B1.out).mono ?_
    rintro _ w2 ⟨rfl, rfl⟩
    go_wp2_with fail
    go_ret
    exact ⟨rfl, B1.out⟩
  | true =>
  cases f2 : Mk.few M with
  | false =>
    rw [f1] at F1
    rw [f2] at F2
    clear f1 f2 hn hm
    go_enter Tryd.func6, Tryd.ntmps6
    go_wp2_with fail
    refine HS.out.mono ?_
    rintro _ w1 ⟨rfl, hb⟩
    have B1 := Lib.hid hb
    clear hb
    go_wp2_with fail
    refine (F1.out _ B1.out).mono ?_
    rintro _ w2 ⟨rfl, rfl⟩
    go_wp2_with fail
    refine (F2.out _ B1.out).mono ?_
    rintro _ w2 ⟨rfl, rfl⟩
    go_wp2_with fail
    go_ret
    exact ⟨rfl, B1.out⟩
  | true =>
  obtain ⟨hL40, hL70⟩ := Mk.few_mem f1
  obtain ⟨hM40, hM70⟩ := Mk.few_mem f2
  rw [f1] at F1
  rw [f2] at F2
  clear f1 f2
  by_cases h0 : i < 0
  case pos =>
    clear hn hm hL40 hL70 hM40 hM70
    go_enter Tryd.func6, Tryd.ntmps6
    go_wp2_with fail
    refine HS.out.mono ?_
    rintro _ w1 ⟨rfl, hb⟩
    have B1 := Lib.hid hb
    clear hb
    go_wp2_with fail
    refine (F1.out _ B1.out).mono ?_
    rintro _ w2 ⟨rfl, rfl⟩
    go_wp2_with fail
    refine (F2.out _ B1.out).mono ?_
    rintro _ w2 ⟨rfl, rfl⟩
    go_wp2_with fail
    go_ret
    exact ⟨rfl, B1.out⟩
  by_cases h1 : i > (n : Int)
  case pos =>
    clear hn hm hL40 hL70 hM40 hM70
    go_enter Tryd.func6, Tryd.ntmps6
    go_wp2_with fail
    refine HS.out.mono ?_
    rintro _ w1 ⟨rfl, hb⟩
    have B1 := Lib.hid hb
    clear hb
    go_wp2_with fail
    refine (F1.out _ B1.out).mono ?_
    rintro _ w2 ⟨rfl, rfl⟩
    go_wp2_with fail
    refine (F2.out _ B1.out).mono ?_
    rintro _ w2 ⟨rfl, rfl⟩
    go_wp2_with fail
    go_ret
    exact ⟨rfl, B1.out⟩
  by_cases h2 : old.size ≤ 40
  case neg =>
    have y2 : (old.size : Int) > 40 := by omega
    clear hn hm hL40 hL70 hM40 hM70
    go_enter Tryd.func6, Tryd.ntmps6
    go_wp2_with fail
    refine HS.out.mono ?_
    rintro _ w1 ⟨rfl, hb⟩
    have B1 := Lib.hid hb
    clear hb
    go_wp2_with fail
    refine (F1.out _ B1.out).mono ?_
    rintro _ w2 ⟨rfl, rfl⟩
    go_wp2_with fail
    refine (F2.out _ B1.out).mono ?_
    rintro _ w2 ⟨rfl, rfl⟩
    go_wp2_with fail
    go_ret
    exact ⟨rfl, B1.out⟩
  obtain ⟨j, rfl⟩ := Int.eq_ofNat_of_zero_le (by omega : 0 ≤ i)
  rcases Nat.eq_zero_or_pos j with rfl | hj0
  · exact grows_zero L M n m hn hm (by omega) (by omega) hL40 hM40 old h2 xa ya b off cap b' off' cap' w HL HM HE HS F1 F2
  · exact grows_more L M n m hn hm (by omega) (by omega) hL40 hM40 j (by omega) old h2 xa ya b off cap b' off' cap' w HL HM HE HS F1 F2 hj0
end Go.Proofs.YteiabaddmclmlaaDoor
