/-
  The law MerkleDigests, walked.
-/
import Derived.Test.YteiabaddmclmlaaDoorMSmall
import Derived.Test.YteiabaddmclmlaaDoorMClashW
import Derived.Test.YteiabaddmclmlaaDoorMInner
namespace Go.Proofs.YteiabaddmclmlaaDoor
open Go Go.RowKit Go.Shelf
theorem root_lit (a : ByteArray) (ha : a.size ≤ 40) (xa : Option Addr) (b off cap : Nat) (w : World) (hL : Lv w xa b off cap [a.data.toList]) (hE : Env w) :
    Calls Tryd.prog 33 #[.slice xa 1 cap] w fun e w' => e = .returned (.string a) ∧ Below w.heap.size w w' :=
  root_to [a.data.toList] 1 rfl (by omega) (fun x hx => by obtain rfl := List.mem_singleton.1 hx; rw [← Lib.size_eq]; exact ha) a (Mk.root_one _) xa b off cap w hL hE
theorem root_none (Z : ByteArray) (hZ : Dg.sha [] = Z.data.toList) (w : World) (hE : Env w) :
    Calls Tryd.prog 33 #[.slice none 0 0] w fun e w' => e = .returned (.string Z) ∧ Below w.heap.size w w' :=
  root_to [] 0 rfl (by omega) (by simp) Z (by rw [Mk.root_nil]; exact hZ) none 0 0 0 w ⟨fun h => absurd h (by simp), fun j hj => absurd hj (by simp), fun h => absurd h (by simp), by simp⟩ hE
theorem beqOf {a b : ByteArray} {g : Bool} (h : decide (a.data.toList = b.data.toList) = g) : (a.toList == b.toList) = g ∧ (a.toList != b.toList) = !g := by
  rw [bne, strEq, h]; exact ⟨rfl, rfl⟩
set_option maxHeartbeats 40000000 in
set_option maxRecDepth 100000 in
theorem mdigests_law (a b c d : ByteArray) (w : World) (hE : Env w) :
    Calls Tryd.prog 9 #[.string a, .string b, .string c, .string d] w fun e w' => e = .returned (.bool true) ∧ Below w.heap.size w w' := by
  have HS := Lib.hid (small04_any w hE)
  have HE := Lib.hid hE
  clear hE
  by_cases za : a.size ≤ 40
  case neg =>
    have ya : (a.size : Int) > 40 := by omega
    go_enter Tryd.func9, Tryd.ntmps9
    go_wp2_with fail
    refine HS.out.mono ?_
    rintro _ w1 ⟨rfl, hb⟩
    have B1 := Lib.hid hb
    clear hb
    go_wp2_with fail
    go_ret
    exact ⟨rfl, B1.out⟩
  have ya : ¬ (a.size : Int) > 40 := by omega
  by_cases zb : b.size ≤ 40
  case neg =>
    have yb : (b.size : Int) > 40 := by omega
    go_enter Tryd.func9, Tryd.ntmps9
    go_wp2_with fail
    refine HS.out.mono ?_
    rintro _ w1 ⟨rfl, hb⟩
    have B1 := Lib.hid hb
    clear hb
    go_wp2_with fail
    go_ret
    exact ⟨rfl, B1.out⟩
  have yb : ¬ (b.size : Int) > 40 := by omega
  by_cases zc : c.size ≤ 40
  case neg =>
    have yc : (c.size : Int) > 40 := by omega
    go_enter Tryd.func9, Tryd.ntmps9
    go_wp2_with fail
    refine HS.out.mono ?_
    rintro _ w1 ⟨rfl, hb⟩
    have B1 := Lib.hid hb
    clear hb
    go_wp2_with fail
    go_ret
    exact ⟨rfl, B1.out⟩
  have yc : ¬ (c.size : Int) > 40 := by omega
  by_cases zd : d.size ≤ 40
  case neg =>
    have yd : (d.size : Int) > 40 := by omega
    go_enter Tryd.func9, Tryd.ntmps9
    go_wp2_with fail
    refine HS.out.mono ?_
    rintro _ w1 ⟨rfl, hb⟩
    have B1 := Lib.hid hb
    clear hb
    go_wp2_with fail
    go_ret
    exact ⟨rfl, B1.out⟩
  have yd : ¬ (d.size : Int) > 40 := by omega
  obtain ⟨A, hA⟩ : ∃ R : ByteArray, Mk.leaf a.data.toList = R.data.toList := ⟨⟨(Mk.leaf a.data.toList).toArray⟩, rfl⟩
  have qA := beqOf (a := A) (b := A) (g := true) (by simp)
  obtain ⟨B, hB⟩ : ∃ R : ByteArray, Mk.leaf b.data.toList = R.data.toList := ⟨⟨(Mk.leaf b.data.toList).toArray⟩, rfl⟩
  have qB := beqOf (a := B) (b := B) (g := true) (by simp)
  obtain ⟨J, hJ⟩ : ∃ R : ByteArray, Mk.join a.data.toList b.data.toList = R.data.toList := ⟨⟨(Mk.join a.data.toList b.data.toList).toArray⟩, rfl⟩
  have qJ := beqOf (a := J) (b := J) (g := true) (by simp)
  obtain ⟨K, hK⟩ : ∃ R : ByteArray, Mk.join c.data.toList d.data.toList = R.data.toList := ⟨⟨(Mk.join c.data.toList d.data.toList).toArray⟩, rfl⟩
  have qK := beqOf (a := K) (b := K) (g := true) (by simp)
  obtain ⟨Z, hZ⟩ : ∃ R : ByteArray, Dg.sha [] = R.data.toList := ⟨⟨(Dg.sha []).toArray⟩, rfl⟩
  have qZ := beqOf (a := Z) (b := Z) (g := true) (by simp)
  have qa := beqOf (a := a) (b := a) (g := true) (by simp)
  have zab : (a ++ b).size ≤ 80 := by rw [ByteArray.size_append]; omega
  have zcd : (c ++ d).size ≤ 80 := by rw [ByteArray.size_append]; omega
  have pab : (a ++ b).data.toList = a.data.toList ++ b.data.toList := bytes_append a b
  have pcd : (c ++ d).data.toList = c.data.toList ++ d.data.toList := bytes_append c d
  obtain ⟨e1, he1⟩ : ∃ g, decide (a.data.toList = b.data.toList) = g := ⟨_, rfl⟩
  obtain ⟨e2, he2⟩ : ∃ g, decide ((a ++ b).data.toList = (c ++ d).data.toList) = g := ⟨_, rfl⟩
  obtain ⟨f1, hf1⟩ : ∃ g, decide (A.data.toList = B.data.toList) = g := ⟨_, rfl⟩
  obtain ⟨f2, hf2⟩ : ∃ g, decide (J.data.toList = K.data.toList) = g := ⟨_, rfl⟩
  obtain ⟨f3, hf3⟩ : ∃ g, decide (A.data.toList = K.data.toList) = g := ⟨_, rfl⟩
  have qe1 := beqOf he1
  have qe2 := beqOf he2
  have qf1 := beqOf hf1
  have qf2 := beqOf hf2
  have qf3 := beqOf hf3
  have i1 : e1 = true → f1 = true := by
    intro h; subst h
    rw [← hf1, ← hA, ← hB, of_decide_eq_true he1]; simp
  have i2 : e2 = true → f2 = true := by
    intro h; subst h
    have := of_decide_eq_true he2
    rw [pab, pcd] at this
    rw [← hf2, ← hJ, ← hK]; unfold Mk.join; rw [this]; simp
  have C1 : e1 = false → f1 = true → Mk.Clashes [0 :: a.data.toList, 0 :: b.data.toList, 1 :: (a.data.toList ++ b.data.toList), 1 :: (c.data.toList ++ d.data.toList)] := by
    intro h1 h2; subst h1; subst h2
    refine ⟨0 :: a.data.toList, by simp, 0 :: b.data.toList, by simp, fun h => of_decide_eq_false he1 (by injection h), ?_⟩
    have := of_decide_eq_true hf1
    rw [← hA, ← hB] at this
    exact this
  have C2 : e2 = false → f2 = true → Mk.Clashes [0 :: a.data.toList, 0 :: b.data.toList, 1 :: (a.data.toList ++ b.data.toList), 1 :: (c.data.toList ++ d.data.toList)] := by
    intro h1 h2; subst h1; subst h2
    refine ⟨1 :: (a.data.toList ++ b.data.toList), by simp, 1 :: (c.data.toList ++ d.data.toList), by simp, fun h => of_decide_eq_false he2 (by rw [pab, pcd]; injection h), ?_⟩
    have := of_decide_eq_true hf2
    rw [← hJ, ← hK] at this
    exact this
  have C3 : f3 = true → Mk.Clashes [0 :: a.data.toList, 0 :: b.data.toList, 1 :: (a.data.toList ++ b.data.toList), 1 :: (c.data.toList ++ d.data.toList)] := by
    intro h1; subst h1
    refine ⟨0 :: a.data.toList, by simp, 1 :: (c.data.toList ++ d.data.toList), by simp, fun h => by injection h with h _; exact absurd h (by decide), ?_⟩
    have := of_decide_eq_true hf3
    rw [← hA, ← hK] at this
    exact this
  have hbytes : [0 :: a.data.toList, 0 :: b.data.toList, 1 :: (a.data.toList ++ b.data.toList), 1 :: (c.data.toList ++ d.data.toList)] = [((⟨#[0]⟩ : ByteArray) ++ a).data.toList, ((⟨#[0]⟩ : ByteArray) ++ b).data.toList, (((⟨#[1]⟩ : ByteArray) ++ a) ++ b).data.toList, (((⟨#[1]⟩ : ByteArray) ++ c) ++ d).data.toList] := by
    rw [pre_join, pre_join, bytes_append, bytes_append]; rfl
  have hsz : ∀ x ∈ [((⟨#[0]⟩ : ByteArray) ++ a).data.toList, ((⟨#[0]⟩ : ByteArray) ++ b).data.toList, (((⟨#[1]⟩ : ByteArray) ++ a) ++ b).data.toList, (((⟨#[1]⟩ : ByteArray) ++ c) ++ d).data.toList], x.length ≤ 1000 := by
    rw [← hbytes]
    have := Lib.size_eq a
    have := Lib.size_eq b
    have := Lib.size_eq c
    have := Lib.size_eq d
    intro x hx
    simp only [List.mem_cons, List.not_mem_nil, or_false] at hx
    rcases hx with rfl | rfl | rfl | rfl <;> simp <;> omega
  have SCl := Lib.hid (fun (hC : Mk.Clashes [0 :: a.data.toList, 0 :: b.data.toList, 1 :: (a.data.toList ++ b.data.toList), 1 :: (c.data.toList ++ d.data.toList)]) xa bb off cap W => rclash_any _ 4 rfl (by omega) hsz (by rw [← hbytes]; exact hC) xa bb off cap W)
  have SA := Lib.hid (fun W hE => leaf_to a A (by omega) hA W hE)
  have SB := Lib.hid (fun W hE => leaf_to b B (by omega) hB W hE)
  have SJ := Lib.hid (fun W hE => join_to a b J (by omega) (by omega) hJ W hE)
  have SK := Lib.hid (fun W hE => join_to c d K (by omega) (by omega) hK W hE)
  have SZ := Lib.hid (fun W hE => root_none Z hZ W hE)
  have SO := Lib.hid (fun xa bb off cap W hL hE => root_lit a za xa bb off cap W hL hE)
  have RA := Lib.hid (fun W => rsum_to rsum ((⟨#[0]⟩ : ByteArray) ++ a) (size_one 0 a (by omega)) A (by rw [bytes_append]; exact hA) W)
  have RJ := Lib.hid (fun W => rsum_to rsum (((⟨#[1]⟩ : ByteArray) ++ a) ++ b) (size_two 1 a b (by omega) (by omega)) J (by rw [bytes_append, bytes_append]; exact hJ) W)
  have RZ := Lib.hid (fun W => rsum_to rsum ⟨#[]⟩ (by decide) Z hZ W)
  have HC1 := Lib.hid C1
  have HC2 := Lib.hid C2
  have HC3 := Lib.hid C3
  obtain ⟨qA1, qA2⟩ := qA
  obtain ⟨qB1, qB2⟩ := qB
  obtain ⟨qJ1, qJ2⟩ := qJ
  obtain ⟨qK1, qK2⟩ := qK
  obtain ⟨qZ1, qZ2⟩ := qZ
  obtain ⟨qa1, qa2⟩ := qa
  obtain ⟨qe11, qe12⟩ := qe1
  obtain ⟨qe21, qe22⟩ := qe2
  obtain ⟨qf11, qf12⟩ := qf1
  obtain ⟨qf21, qf22⟩ := qf2
  obtain ⟨qf31, qf32⟩ := qf3
  clear hA hB hJ hK hZ zab zcd pab pcd he1 he2 hf1 hf2 hf3 C1 C2 C3 hbytes hsz za zb zc zd
  cases e1 <;> cases f1 <;> (first | exact absurd (i1 rfl) (by decide) | skip)
  all_goals
    cases e2 <;> cases f2 <;> (first | exact absurd (i2 rfl) (by decide) | skip)
  all_goals
    cases f3
  all_goals
    clear i1 i2
    first | have HCl := Lib.hid (HC1.out rfl rfl) | have HCl := Lib.hid (HC2.out rfl rfl) | have HCl := Lib.hid (HC3.out rfl) | skip
    clear HC1 HC2 HC3
    simp only [Bool.not_true, Bool.not_false] at qA2 qB2 qJ2 qK2 qZ2 qa2 qe12 qe22 qf12 qf22 qf32
    go_enter Tryd.func9, Tryd.ntmps9
    go_wp2_with fail
    refine HS.out.mono ?_
    rintro _ w1 ⟨rfl, hB⟩
    go_wp2_with (first
      | (go_at_call 29; (first | (with_reducible refine (SA.out _ (HE.out.new hB)).mono ?_) | (with_reducible refine (SB.out _ (HE.out.new hB)).mono ?_)); rintro _ w2 ⟨rfl, hb⟩; replace hB := hB.trans (hb.mono hB.size); clear hb)
      | (go_at_call 31; (first | (with_reducible refine (SJ.out _ (HE.out.new hB)).mono ?_) | (with_reducible refine (SK.out _ (HE.out.new hB)).mono ?_)); rintro _ w2 ⟨rfl, hb⟩; replace hB := hB.trans (hb.mono hB.size); clear hb)
      | (go_at_call 16; (first | (with_reducible refine (RA.out _).mono ?_) | (with_reducible refine (RJ.out _).mono ?_) | (with_reducible refine (RZ.out _).mono ?_)); rintro _ w2 ⟨rfl, hb⟩; replace hB := hB.trans (hb.mono hB.size); clear hb)
      | (go_at_call 33; (with_reducible refine (SZ.out _ (HE.out.new hB)).mono ?_); rintro _ w2 ⟨rfl, hb⟩; replace hB := hB.trans (hb.mono hB.size); clear hb)
      | (go_at_call 33; refine (SO.out _ _ _ _ _ (lv_lit _ [a.data.toList]) (HE.out.new (below_alloc hB (Nat.le_refl _) _))).mono ?_; rintro _ w2 ⟨rfl, hb⟩; replace hB := (below_alloc hB (Nat.le_refl _) _).trans (hb.mono (below_alloc hB (Nat.le_refl _) _).size); clear hb)
      | (go_at_call 47; refine (SCl.out HCl.out _ _ _ _ _ (lv_lit _ [((⟨#[0]⟩ : ByteArray) ++ a).data.toList, ((⟨#[0]⟩ : ByteArray) ++ b).data.toList, (((⟨#[1]⟩ : ByteArray) ++ a) ++ b).data.toList, (((⟨#[1]⟩ : ByteArray) ++ c) ++ d).data.toList])).mono ?_; rintro _ w2 ⟨rfl, hb⟩; replace hB := (below_alloc hB (Nat.le_refl _) _).trans (hb.mono (below_alloc hB (Nat.le_refl _) _).size); clear hb)
      | fail)
    go_ret
    exact ⟨rfl, hB⟩
end Go.Proofs.YteiabaddmclmlaaDoor
