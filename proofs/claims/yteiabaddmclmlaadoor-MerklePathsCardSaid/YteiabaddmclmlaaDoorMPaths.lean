/-
  only; the law MerklePaths, walked: a path is accepted with its element, and nothing else is, unless two different strings that were hashed have the same digest.
-/
import Derived.Test.YteiabaddmclmlaaDoorMTells
import Derived.Test.YteiabaddmclmlaaDoorMAlong
import Derived.Test.YteiabaddmclmlaaDoorMClashW
namespace Go.Proofs.YteiabaddmclmlaaDoor
open Go Go.RowKit Go.Shelf
theorem pathI_nat (X : List (List UInt8)) (i : Nat) : Mk.pathI X (i : Int) = Mk.path X i := by unfold Mk.pathI; rw [if_pos (by omega), Int.toNat_natCast]
theorem check_inv {root leaf : List UInt8} {n i : Nat} {M : List (List UInt8)} (h : Mk.check root leaf (n : Int) (i : Int) M = true) : Mk.hashy leaf = true ∧ Mk.hashes M = true ∧ Mk.by_ leaf M.reverse n i = some root := by
  unfold Mk.check at h
  simp only [Bool.and_eq_true, Int.toNat_natCast] at h
  exact ⟨h.1.1.2, h.1.2, of_decide_eq_true h.2⟩
theorem hashy_len {x : List UInt8} (h : Mk.hashy x = true) : x.length = 32 := by unfold Mk.hashy at h; simpa using h
theorem len_hashy {x : List UInt8} (h : x.length = 32) : Mk.hashy x = true := by unfold Mk.hashy; simpa using h
theorem only_yes {X M : List (List UInt8)} {leaf : List UInt8} {n i : Nat} (hn : X.length = n) (hi : i < n) (hX : ∀ x ∈ X, x.length = 32) (h1 : leaf = X.getD i []) (h2 : M = Mk.path X i) : Mk.check (Mk.root X) leaf (n : Int) (i : Int) M = true := by
  subst h2
  have hl : leaf.length = 32 := by
    rw [h1, List.getD_eq_getElem?_getD, List.getElem?_eq_getElem (by omega)]
    exact hX _ (List.getElem_mem _)
  rw [check_yes hi (len_hashy (Mk.root_len32 hX)) (len_hashy hl) (Mk.hashes_of (Mk.path_len32 _ X i (Nat.le_refl _) hX)) rfl, h1, Mk.whole n X n i (Nat.le_refl _) hn hi]
  simp
theorem only_no {X M : List (List UInt8)} {leaf : List UInt8} {n i : Nat} (hn : X.length = n) (hi : i < n) (hX : ∀ x ∈ X, x.length = 32) (h : Mk.check (Mk.root X) leaf (n : Int) (i : Int) M = true) (hne : ¬ (leaf = X.getD i [] ∧ M = Mk.path X i)) : Mk.Clashes (Mk.inner X ++ Mk.along leaf M.reverse n i) := by
  obtain ⟨h1, h2, h3⟩ := check_inv h
  rcases Mk.sound leaf (hashy_len h1) M.reverse X n i hn hi hX (fun x hx => Mk.hashes_mem h2 x (by simpa using hx)) h3 with ⟨a, b⟩ | hc
  · exact absurd ⟨a, by rw [← b, List.reverse_reverse]⟩ hne
  · exact hc
theorem strings_is (X Y : List (List UInt8)) (n m : Nat) (hn : X.length = n) (hm : Y.length = m) (hN : n ≤ 1000000) (hM : m ≤ 1000000) (g : Bool) (hg : sameRows X Y = g) (xa ya : Option Addr) (b off cap b' off' cap' : Nat) (w : World) (hX : Lv w xa b off cap X) (hY : Lv w ya b' off' cap' Y) :
    Calls Tryd.prog 35 #[.slice xa n cap, .slice ya m cap'] w fun e w' => e = .returned (.bool g) ∧ Below w.heap.size w w' := by
  rw [← hg]; exact strings_any X Y n m hn hm hN hM xa ya b off cap b' off' cap' w hX hY
set_option maxHeartbeats 20000000 in
set_option maxRecDepth 100000 in
theorem only_any (X : List (List UInt8)) (n : Nat) (hn : X.length = n) (hN : n ≤ 1000) (hX : ∀ x ∈ X, x.length = 32) (i : Nat) (hi : i < n) (leaf : ByteArray) (hl : leaf.size ≤ 40) (M : List (List UInt8)) (m : Nat) (hm : M.length = m) (hM : m ≤ 1000) (hM40 : ∀ x ∈ M, x.length ≤ 40)
    (xa ya : Option Addr) (b off cap b' off' cap' : Nat) (w : World) (hL : Lv w xa b off cap X) (hL2 : Lv w ya b' off' cap' M) (hE : Env w) :
    Calls Tryd.prog 45 #[.slice xa n cap, .int .i64 (i : Int), .string leaf, .slice ya m cap'] w fun e w' => e = .returned (.bool true) ∧ Below w.heap.size w w' := by
  have HL := Lib.hid hL
  have HM := Lib.hid hL2
  have HE := Lib.hid hE
  obtain rfl := hL.at_ (by omega)
  have hX40 : ∀ x ∈ X, x.length ≤ 40 := fun x hx => by rw [hX x hx]; omega
  obtain ⟨T, hT⟩ : ∃ T, encStr (X.getD i []) = .string T := ⟨_, rfl⟩
  have c := hL.cell i (by omega)
  rw [hT] at c
  have hT1 := (encStr_size hT).1
  obtain ⟨R, hR⟩ : ∃ R : ByteArray, Mk.root X = R.data.toList := ⟨⟨(Mk.root X).toArray⟩, rfl⟩
  obtain ⟨P, hP⟩ : ∃ P, Mk.path X i = P := ⟨_, rfl⟩
  obtain ⟨p, hp⟩ : ∃ p, P.length = p := ⟨_, rfl⟩
  have lp : p ≤ 1000 := by
    rw [← hp, ← hP]
    have := Mk.path_len _ X i (Nat.le_refl _); omega
  obtain ⟨k, hk⟩ : ∃ k, Mk.check R.data.toList leaf.data.toList (n : Int) (i : Int) M = k := ⟨_, rfl⟩
  obtain ⟨s, hs⟩ : ∃ s, sameRows M P = s := ⟨_, rfl⟩
  obtain ⟨I, hI⟩ : ∃ I, Mk.inner X = I := ⟨_, rfl⟩
  obtain ⟨A, hA⟩ : ∃ A, Mk.along leaf.data.toList M.reverse n i = A := ⟨_, rfl⟩
  have lI : I.length ≤ 1000 := by rw [← hI]; have := Mk.inner_len n X (by omega); omega
  have lA : A.length ≤ 1000 := by rw [← hA]; have := Mk.along_len leaf.data.toList M.reverse n i; simp at this; omega
  have hIA : ∀ x ∈ I ++ A, x.length ≤ 1000 := by
    intro x hx
    rw [List.mem_append] at hx
    rcases hx with hx | hx
    · rw [← hI] at hx; have := Mk.inner_size hX40 x hx; omega
    · rw [← hA] at hx
      have := Mk.along_size (leaf := leaf.data.toList) (by rw [← Lib.size_eq]; exact hl) M.reverse n i (fun y hy => hM40 y (by simpa using hy)) x hx
      omega
  obtain ⟨z, hz⟩ : ∃ z, (I ++ A).length = z := ⟨_, rfl⟩
  have hz2 : z ≤ 1000000 := by rw [← hz, List.length_append]; omega
  obtain ⟨g, hg⟩ : ∃ g, (leaf.toList == T.toList) = g := ⟨_, rfl⟩
  have hg2 : g = decide (leaf.data.toList = T.data.toList) := by rw [← hg, strEq]
  have hyes : g = true → s = true → k = true := by
    intro h1 h2
    rw [hg2, decide_eq_true_eq] at h1
    rw [← hs, sameRows, decide_eq_true_eq] at h2
    rw [← hk, ← hR]
    exact only_yes hn hi hX (by rw [h1, hT1]) (by rw [h2, hP])
  have hno : k = true → (g && s) = false → Mk.Clashes (I ++ A) := by
    intro h1 h2
    rw [← hI, ← hA]
    rw [← hk, ← hR] at h1
    refine only_no hn hi hX h1 fun h => ?_
    have e1 : g = true := by rw [hg2, decide_eq_true_eq, h.1, hT1]
    have e2 : s = true := by rw [← hs, sameRows, decide_eq_true_eq, h.2, hP]
    rw [e1, e2] at h2
    cases h2
  have HY := Lib.hid hyes
  have HNO := Lib.hid hno
  have SP := Lib.hid (fun W (hb : Below w.heap.size w W) => path_every X n hn (by omega) hX40 (i : Int) P (by rw [pathI_nat]; exact hP) p hp _ b off cap W (HL.out.below hb) (HE.out.new hb))
  have SS := Lib.hid (fun xa b off cap W (hl2 : Lv W xa b off cap P) (hb : Below w.heap.size w W) => strings_is M P m p hm hp (by omega) (by omega) s hs ya xa b' off' cap' b off cap W (HM.out.below hb) hl2)
  have SR := Lib.hid (fun W (hb : Below w.heap.size w W) => root_to X n hn (by omega) hX40 R hR _ b off cap W (HL.out.below hb) (HE.out.new hb))
  have SK := Lib.hid (fun W (hb : Below w.heap.size w W) => check_any R leaf (n : Int) (i : Int) (by omega) M m hm (by omega) ya b' off' cap' W (HM.out.below hb) (HE.out.new hb))
  rw [hk] at SK
  have SI := Lib.hid (fun W (hb : Below w.heap.size w W) => rinner_any n X n hn (Nat.le_refl _) (by omega) hX40 _ b off cap W (HL.out.below hb))
  rw [hI] at SI
  have SL := Lib.hid (fun W (hb : Below w.heap.size w W) => ralong_any leaf hl M.reverse m (by simp [hm]) (by omega) (fun y hy => hM40 y (by simpa using hy)) n i hi (by omega) ya b' off' cap' W (by rw [List.reverse_reverse]; exact HM.out.below hb))
  rw [hA] at SL
  have SC := Lib.hid (fun (hC : Mk.Clashes (I ++ A)) xa b off cap W hl2 => rclash_any (I ++ A) z hz hz2 hIA hC xa b off cap W hl2)
  have HZ := Lib.hid hz
  have hbig : I.length + A.length ≤ 1000000000 := by omega
  have i1 : (i : Int) < (n : Int) := by omega
  clear hL hL2 hE hX hX40 hT hT1 hR hP hp hk hs hI hA hIA hz hg2 hyes hno hn hm hM40
  cases g with
  | false =>
    cases k with
    | false =>
      clear HY HNO
      go_enter Tryd.func45, Tryd.ntmps45
      go_wp2_with fail
      refine (SR.out _ (Below.refl w.heap.size w)).mono ?_
      rintro _ w3 ⟨rfl, hb⟩
      have B3 := Lib.hid (((Below.refl w.heap.size w)).trans (hb.mono ((Below.refl w.heap.size w)).size))
      clear hb
      go_wp2_with fail
      refine (SK.out _ B3.out).mono ?_
      rintro _ w4 ⟨rfl, hb⟩
      have B4 := Lib.hid (B3.out.trans (hb.mono B3.out.size))
      clear hb
      go_wp2_with fail
      go_ret
      exact ⟨rfl, B4.out⟩
    | true =>
      have HCl := Lib.hid (HNO.out rfl rfl)
      clear HY HNO
      go_enter Tryd.func45, Tryd.ntmps45
      go_wp2_with fail
      refine (SR.out _ (Below.refl w.heap.size w)).mono ?_
      rintro _ w3 ⟨rfl, hb⟩
      have B3 := Lib.hid (((Below.refl w.heap.size w)).trans (hb.mono ((Below.refl w.heap.size w)).size))
      clear hb
      go_wp2_with fail
      refine (SK.out _ B3.out).mono ?_
      rintro _ w4 ⟨rfl, hb⟩
      have B4 := Lib.hid (B3.out.trans (hb.mono B3.out.size))
      clear hb
      go_wp2_with fail
      refine (SI.out _ B4.out).mono ?_
      rintro _ w5 ⟨v5, rfl, ho, hb⟩
      have b5 := Lib.hid hb
      have B5 := Lib.hid (B4.out.trans (hb.mono B4.out.size))
      have O5 := Lib.hid ho
      clear hb ho
      go_wp2_with fail
      refine (SL.out _ B5.out).mono ?_
      rintro _ w6 ⟨v6, rfl, ho, hb⟩
      have b6 := Lib.hid (b5.out.trans (hb.mono b5.out.size))
      have O6 := Lib.hid ho
      have O5b := Lib.hid (O5.out.below hb)
      clear hb ho
      go_wp2_with (at_builtin; go_must (refine wpList_append_rows_want (by rfl) _ _ (by rfl) w4.heap.size _ I (by rfl) O5b.out _ v6 A (by rfl) O6.out hbig b6.out.size ?_); intro v7 w7 hown hgrow; have O7 := Lib.hid hown; have b7 := Lib.hid (below_grown b6.out O5b.out hgrow (Nat.le_refl _) (Nat.le_refl _)); have B7 := Lib.hid (B4.out.trans (b7.out.mono B4.out.size)); clear hown hgrow; have hrow := O7.out.row; rw [HZ.out] at hrow; obtain ⟨za, zb, zc, rfl, hlv⟩ := hrow; have L7 := Lib.hid hlv; clear hlv)
      refine (SC.out HCl.out _ _ _ _ _ L7.out).mono ?_
      rintro _ w8 ⟨rfl, hb⟩
      have B8 := Lib.hid (B7.out.trans (hb.mono B7.out.size))
      clear hb
      go_wp2_with fail
      go_ret
      exact ⟨rfl, B8.out⟩
  | true =>
    cases s with
    | false =>
      cases k with
      | false =>
        clear HY HNO
        go_enter Tryd.func45, Tryd.ntmps45
        go_wp2_with fail
        refine (SP.out _ (Below.refl _ _)).mono ?_
        rintro _ w1 ⟨za, zb, zd, _, rfl, rfl, -, hl2, hb⟩
        have B1 := Lib.hid hb
        have V1 := Lib.hid hl2
        clear hb hl2
        go_wp2_with fail
        refine (SS.out _ _ _ _ _ V1.out B1.out).mono ?_
        rintro _ w2 ⟨rfl, hb⟩
        have B2 := Lib.hid (B1.out.trans (hb.mono B1.out.size))
        clear hb
        go_wp2_with fail
        refine (SR.out _ B2.out).mono ?_
        rintro _ w3 ⟨rfl, hb⟩
        have B3 := Lib.hid ((B2.out).trans (hb.mono (B2.out).size))
        clear hb
        go_wp2_with fail
        refine (SK.out _ B3.out).mono ?_
        rintro _ w4 ⟨rfl, hb⟩
        have B4 := Lib.hid (B3.out.trans (hb.mono B3.out.size))
        clear hb
        go_wp2_with fail
        go_ret
        exact ⟨rfl, B4.out⟩
      | true =>
        have HCl := Lib.hid (HNO.out rfl rfl)
        clear HY HNO
        go_enter Tryd.func45, Tryd.ntmps45
        go_wp2_with fail
        refine (SP.out _ (Below.refl _ _)).mono ?_
        rintro _ w1 ⟨za, zb, zd, _, rfl, rfl, -, hl2, hb⟩
        have B1 := Lib.hid hb
        have V1 := Lib.hid hl2
        clear hb hl2
        go_wp2_with fail
        refine (SS.out _ _ _ _ _ V1.out B1.out).mono ?_
        rintro _ w2 ⟨rfl, hb⟩
        have B2 := Lib.hid (B1.out.trans (hb.mono B1.out.size))
        clear hb
        go_wp2_with fail
        refine (SR.out _ B2.out).mono ?_
        rintro _ w3 ⟨rfl, hb⟩
        have B3 := Lib.hid ((B2.out).trans (hb.mono (B2.out).size))
        clear hb
        go_wp2_with fail
        refine (SK.out _ B3.out).mono ?_
        rintro _ w4 ⟨rfl, hb⟩
        have B4 := Lib.hid (B3.out.trans (hb.mono B3.out.size))
        clear hb
        go_wp2_with fail
        refine (SI.out _ B4.out).mono ?_
        rintro _ w5 ⟨v5, rfl, ho, hb⟩
        have b5 := Lib.hid hb
        have B5 := Lib.hid (B4.out.trans (hb.mono B4.out.size))
        have O5 := Lib.hid ho
        clear hb ho
        go_wp2_with fail
        refine (SL.out _ B5.out).mono ?_
        rintro _ w6 ⟨v6, rfl, ho, hb⟩
        have b6 := Lib.hid (b5.out.trans (hb.mono b5.out.size))
        have O6 := Lib.hid ho
        have O5b := Lib.hid (O5.out.below hb)
        clear hb ho
        go_wp2_with (at_builtin; go_must (refine wpList_append_rows_want (by rfl) _ _ (by rfl) w4.heap.size _ I (by rfl) O5b.out _ v6 A (by rfl) O6.out hbig b6.out.size ?_); intro v7 w7 hown hgrow; have O7 := Lib.hid hown; have b7 := Lib.hid (below_grown b6.out O5b.out hgrow (Nat.le_refl _) (Nat.le_refl _)); have B7 := Lib.hid (B4.out.trans (b7.out.mono B4.out.size)); clear hown hgrow; have hrow := O7.out.row; rw [HZ.out] at hrow; obtain ⟨za, zb, zc, rfl, hlv⟩ := hrow; have L7 := Lib.hid hlv; clear hlv)
        refine (SC.out HCl.out _ _ _ _ _ L7.out).mono ?_
        rintro _ w8 ⟨rfl, hb⟩
        have B8 := Lib.hid (B7.out.trans (hb.mono B7.out.size))
        clear hb
        go_wp2_with fail
        go_ret
        exact ⟨rfl, B8.out⟩
    | true =>
      obtain rfl : k = true := HY.out rfl rfl
      clear HY HNO
      go_enter Tryd.func45, Tryd.ntmps45
      go_wp2_with fail
      refine (SP.out _ (Below.refl _ _)).mono ?_
      rintro _ w1 ⟨za, zb, zd, _, rfl, rfl, -, hl2, hb⟩
      have B1 := Lib.hid hb
      have V1 := Lib.hid hl2
      clear hb hl2
      go_wp2_with fail
      refine (SS.out _ _ _ _ _ V1.out B1.out).mono ?_
      rintro _ w2 ⟨rfl, hb⟩
      have B2 := Lib.hid (B1.out.trans (hb.mono B1.out.size))
      clear hb
      go_wp2_with fail
      refine (SR.out _ B2.out).mono ?_
      rintro _ w3 ⟨rfl, hb⟩
      have B3 := Lib.hid ((B2.out).trans (hb.mono (B2.out).size))
      clear hb
      go_wp2_with fail
      refine (SK.out _ B3.out).mono ?_
      rintro _ w4 ⟨rfl, hb⟩
      have B4 := Lib.hid (B3.out.trans (hb.mono B3.out.size))
      clear hb
      go_wp2_with fail
      go_ret
      exact ⟨rfl, B4.out⟩
set_option maxHeartbeats 20000000 in
set_option maxRecDepth 100000 in
theorem mpaths_law (L M : List (List UInt8)) (n m : Nat) (hn : L.length = n) (hm : M.length = m) (hN : n ≤ 9223372036854775807) (hM : m ≤ 9223372036854775807) (i : Int) (leaf : ByteArray)
    (xa ya : Option Addr) (b off cap b' off' cap' : Nat) (w : World) (hL : Lv w xa b off cap L) (hL2 : Lv w ya b' off' cap' M) (hE : Env w) :
    Calls Tryd.prog 5 #[.slice xa n cap, .int .i64 i, .string leaf, .slice ya m cap'] w fun e w' => e = .returned (.bool true) ∧ Below w.heap.size w w' := by
  have HS := Lib.hid (small04_any w hE)
  have HL := Lib.hid hL
  have HM := Lib.hid hL2
  have HE := Lib.hid hE
  have F1 := Lib.hid (fun W (hb : Below w.heap.size w W) => few_no n hn hN xa b off cap W (hL.below hb) _ rfl)
  have F2 := Lib.hid (fun W (hb : Below w.heap.size w W) => few_no m hm hM ya b' off' cap' W (hL2.below hb) _ rfl)
  clear hL hL2 hE
  cases f1 : Mk.few L with
  | false =>
    rw [f1] at F1
    clear f1 hn hm
    go_enter Tryd.func5, Tryd.ntmps5
    go_wp2_with fail
    refine HS.out.mono ?_
    rintro _ w1 ⟨rfl, hb⟩
    have B1 := Lib.hid hb
    clear hb
    go_wp2_with fail
    refine (F1.out _ B1.out).mono ?_
    rintro _ w2 ⟨rfl, rfl⟩
    go_wp2_with fail
    go_ret
    exact ⟨rfl, B1.out⟩
  | true =>
  cases f2 : Mk.few M with
  | false =>
    rw [f1] at F1
    rw [f2] at F2
    clear f1 f2 hn hm
    go_enter Tryd.func5, Tryd.ntmps5
    go_wp2_with fail
    refine HS.out.mono ?_
    rintro _ w1 ⟨rfl, hb⟩
    have B1 := Lib.hid hb
    clear hb
    go_wp2_with fail
    refine (F1.out _ B1.out).mono ?_
    rintro _ w2 ⟨rfl, rfl⟩
    go_wp2_with fail
    refine (F2.out _ B1.out).mono ?_
    rintro _ w2 ⟨rfl, rfl⟩
    go_wp2_with fail
    go_ret
    exact ⟨rfl, B1.out⟩
  | true =>
  obtain ⟨hL40, hL70⟩ := Mk.few_mem f1
  obtain ⟨hM40, hM70⟩ := Mk.few_mem f2
  rw [f1] at F1
  rw [f2] at F2
  clear f1 f2
  by_cases h0 : i < 0
  case pos =>
    clear hn hm hL40 hL70 hM40 hM70
    go_enter Tryd.func5, Tryd.ntmps5
    go_wp2_with fail
    refine HS.out.mono ?_
    rintro _ w1 ⟨rfl, hb⟩
    have B1 := Lib.hid hb
    clear hb
    go_wp2_with fail
    refine (F1.out _ B1.out).mono ?_
    rintro _ w2 ⟨rfl, rfl⟩
    go_wp2_with fail
    refine (F2.out _ B1.out).mono ?_
    rintro _ w2 ⟨rfl, rfl⟩
    go_wp2_with fail
    go_ret
    exact ⟨rfl, B1.out⟩
  by_cases h1 : i ≥ (n : Int)
  case pos =>
    clear hn hm hL40 hL70 hM40 hM70
    go_enter Tryd.func5, Tryd.ntmps5
    go_wp2_with fail
    refine HS.out.mono ?_
    rintro _ w1 ⟨rfl, hb⟩
    have B1 := Lib.hid hb
    clear hb
    go_wp2_with fail
    refine (F1.out _ B1.out).mono ?_
    rintro _ w2 ⟨rfl, rfl⟩
    go_wp2_with fail
    refine (F2.out _ B1.out).mono ?_
    rintro _ w2 ⟨rfl, rfl⟩
    go_wp2_with fail
    go_ret
    exact ⟨rfl, B1.out⟩
  by_cases h2 : leaf.size ≤ 40
  case neg =>
    have y2 : (leaf.size : Int) > 40 := by omega
    clear hn hm hL40 hL70 hM40 hM70
    go_enter Tryd.func5, Tryd.ntmps5
    go_wp2_with fail
    refine HS.out.mono ?_
    rintro _ w1 ⟨rfl, hb⟩
    have B1 := Lib.hid hb
    clear hb
    go_wp2_with fail
    refine (F1.out _ B1.out).mono ?_
    rintro _ w2 ⟨rfl, rfl⟩
    go_wp2_with fail
    refine (F2.out _ B1.out).mono ?_
    rintro _ w2 ⟨rfl, rfl⟩
    go_wp2_with fail
    go_ret
    exact ⟨rfl, B1.out⟩
  have y2 : ¬ (leaf.size : Int) > 40 := by omega
  obtain ⟨j, rfl⟩ := Int.eq_ofNat_of_zero_le (by omega : 0 ≤ i)
  have SV := Lib.hid (fun W (hb : Below w.heap.size w W) => leaves_any L n hn (by omega) hL40 xa b off cap W (HL.out.below hb) (HE.out.new hb))
  have hl : (L.map Mk.leaf).length = n := by rw [List.length_map]; exact hn
  have hX : ∀ x ∈ L.map Mk.leaf, x.length = 32 := fun x hx => by
    obtain ⟨y, _, rfl⟩ := List.mem_map.1 hx
    exact Mk.leaf_len y
  obtain ⟨X, hXX⟩ : ∃ X, L.map Mk.leaf = X := ⟨_, rfl⟩
  rw [hXX] at SV hl hX
  have hX40 : ∀ x ∈ X, x.length ≤ 40 := fun x hx => by rw [hX x hx]; omega
  obtain ⟨T, hT⟩ : ∃ T, encStr (X.getD j []) = .string T := ⟨_, rfl⟩
  obtain ⟨hT1, hT2⟩ := encStr_size hT
  have hT3 : T.size ≤ 40 := by
    rw [hT2, List.getD_eq_getElem?_getD, List.getElem?_eq_getElem (by omega)]
    exact hX40 _ (List.getElem_mem _)
  obtain ⟨R, hR⟩ : ∃ R : ByteArray, Mk.root X = R.data.toList := ⟨⟨(Mk.root X).toArray⟩, rfl⟩
  obtain ⟨P, hP⟩ : ∃ P, Mk.path X j = P := ⟨_, rfl⟩
  obtain ⟨p, hp⟩ : ∃ p, P.length = p := ⟨_, rfl⟩
  have lp : p ≤ 7 := by
    rw [← hp, ← hP]
    exact Mk.path_deep 7 X j (by omega)
  have hP32 : ∀ x ∈ P, x.length ≤ 40 := fun x hx => by
    rw [← hP] at hx
    have := Mk.path_len32 _ X j (Nat.le_refl _) hX x hx; omega
  have hk : Mk.check R.data.toList T.data.toList (n : Int) (j : Int) P = true := by
    rw [← hR]; exact only_yes hl (by omega) hX hT1.symm hP.symm
  have y3 : ¬ (p : Int) > 7 := by omega
  have HX := Lib.hid hl
  have HTE := Lib.hid hT
  have j1 : (j : Int) < (n : Int) := by omega
  have j2 : j < n := by omega
  have T1 := Lib.hid (fun ya vb cp W hl2 hE2 => root_to X n hl (by omega) hX40 R hR ya vb 0 cp W hl2 hE2)
  have T2 := Lib.hid (fun ya vb cp W hl2 hE2 => path_every X n hl (by omega) hX40 (j : Int) P (by rw [pathI_nat]; exact hP) p hp ya vb 0 cp W hl2 hE2)
  have T3 := Lib.hid (fun xa b cap W hl2 hE2 => check_any R T (n : Int) (j : Int) (by omega) P p hp (by omega) xa b 0 cap W hl2 hE2)
  rw [hk] at T3
  have T4 := Lib.hid (fun xa b cap W hl2 hb hE2 => only_any X n hl (by omega) hX j (by omega) leaf h2 M m hm (by omega) hM40 xa ya b 0 cap b' off' cap' W hl2 (HM.out.below hb) hE2)
  have T5 := Lib.hid (fun xa b cap zb zc zd W hl2 hl3 hE2 => only_any X n hl (by omega) hX j (by omega) leaf h2 P p hp (by omega) hP32 xa zb b 0 cap zc 0 zd W hl2 hl3 hE2)
  have T6 := Lib.hid (fun xa b cap W hl2 hb hE2 => only_any X n hl (by omega) hX j (by omega) T hT3 M m hm (by omega) hM40 xa ya b 0 cap b' off' cap' W hl2 (HM.out.below hb) hE2)
  clear hn hm hL40 hM40 hXX hX hX40 hT hT1 hT2 hR hP hp hP32 hk hl
  go_enter Tryd.func5, Tryd.ntmps5
  go_wp2_with fail
  refine HS.out.mono ?_
  rintro _ w1 ⟨rfl, hb⟩
  have B1 := Lib.hid hb
  clear hb
  go_wp2_with fail
  refine (F1.out _ B1.out).mono ?_
  rintro _ w2 ⟨rfl, rfl⟩
  go_wp2_with fail
  refine (F2.out _ B1.out).mono ?_
  rintro _ w2 ⟨rfl, rfl⟩
  go_wp2_with fail
  refine (SV.out _ B1.out).mono ?_
  rintro _ w2 ⟨v2, rfl, ho2, hb⟩
  have B2 := Lib.hid (B1.out.trans (hb.mono B1.out.size))
  have hrow := ho2.row
  rw [HX.out] at hrow
  obtain ⟨va, vb, cp, rfl, hlv⟩ := hrow
  obtain rfl := hlv.at_ (by rw [HX.out]; omega)
  have L2 := Lib.hid hlv
  clear hb ho2 hlv
  go_wp2_with fail
  refine (T1.out _ _ _ _ L2.out (HE.out.new B2.out)).mono ?_
  rintro _ w3 ⟨rfl, hb⟩
  have B3 := Lib.hid (B2.out.trans (hb.mono B2.out.size))
  have L3 := Lib.hid (L2.out.below hb)
  clear hb
  go_wp2_with fail
  refine (T2.out _ _ _ _ L3.out (HE.out.new B3.out)).mono ?_
  rintro _ w4 ⟨za, zb, zd, _, rfl, rfl, -, hl2, hb⟩
  have B4 := Lib.hid (B3.out.trans (hb.mono B3.out.size))
  have L4 := Lib.hid (L3.out.below hb)
  have P4 := Lib.hid hl2
  have c4 := L4.out.cell j (by rw [HX.out]; omega)
  rw [Nat.zero_add, HTE.out] at c4
  clear hb hl2
  go_wp2_with fail
  refine (T3.out _ _ _ _ P4.out (HE.out.new B4.out)).mono ?_
  rintro _ w5 ⟨rfl, hb⟩
  have B5 := Lib.hid (B4.out.trans (hb.mono B4.out.size))
  have L5 := Lib.hid (L4.out.below hb)
  have P5 := Lib.hid (P4.out.below hb)
  clear hb c4
  go_wp2_with fail
  refine (T4.out _ _ _ _ L5.out B5.out (HE.out.new B5.out)).mono ?_
  rintro _ w6 ⟨rfl, hb⟩
  have B6 := Lib.hid (B5.out.trans (hb.mono B5.out.size))
  have L6 := Lib.hid (L5.out.below hb)
  have P6 := Lib.hid (P5.out.below hb)
  clear hb
  go_wp2_with fail
  refine (T5.out _ _ _ _ _ _ _ L6.out P6.out (HE.out.new B6.out)).mono ?_
  rintro _ w7 ⟨rfl, hb⟩
  have B7 := Lib.hid (B6.out.trans (hb.mono B6.out.size))
  have L7 := Lib.hid (L6.out.below hb)
  have c7 := L7.out.cell j (by rw [HX.out]; omega)
  rw [Nat.zero_add, HTE.out] at c7
  clear hb
  go_wp2_with fail
  refine (T6.out _ _ _ _ L7.out B7.out (HE.out.new B7.out)).mono ?_
  rintro _ w8 ⟨rfl, hb⟩
  have B8 := Lib.hid (B7.out.trans (hb.mono B7.out.size))
  clear hb c7
  go_wp2_with fail
  go_ret
  exact ⟨rfl, B8.out⟩
end Go.Proofs.YteiabaddmclmlaaDoor
