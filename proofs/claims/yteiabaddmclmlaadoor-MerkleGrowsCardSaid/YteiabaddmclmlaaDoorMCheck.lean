/-
  The program's rootByPath and Check.
-/
import Derived.Test.YteiabaddmclmlaaDoorMHash
namespace Go.Proofs.YteiabaddmclmlaaDoor
open Go Go.RowKit Go.Shelf
namespace Mk
/-- What a function with a root and a flag returns. -/
def res1 (o : Option B) : Ending := match o with
  | some r => .returned (.tuple #[encStr r, .bool true])
  | none => .returned (.tuple #[.string ⟨#[]⟩, .bool false])
theorem res1_some {o : Option B} {r : ByteArray} (h : o = some r.data.toList) : res1 o = .returned (.tuple #[.string r, .bool true]) := by
  subst h
  show Ending.returned (.tuple #[encStr r.data.toList, .bool true]) = _
  rw [encStr_to rfl]
theorem res1_none {o : Option B} (h : o = none) : res1 o = .returned (.tuple #[.string ⟨#[]⟩, .bool false]) := by subst h; rfl
theorem some_bytes {o : Option B} {r : B} (h : o = some r) : ∃ R : ByteArray, o = some R.data.toList := ⟨⟨r.toArray⟩, h⟩
def check (root leaf : B) (n i : Int) (L : List B) : Bool :=
  decide (0 ≤ i) && decide (i < n) && hashy root && hashy leaf && hashes L && decide (by_ leaf L.reverse n.toNat i.toNat = some root)
end Mk
theorem drewBelow {B : Nat} {w w1 : World} (h : ∃ k, w1 = w.drewN k) : Below B w w1 := by
  obtain ⟨k, rfl⟩ := h
  exact below_drewN (Below.refl _ _) _
/-- One step up: what the path's last hash makes of the root of a part. -/
theorem by_left {leaf x : List UInt8} {q : List (List UInt8)} {n i k : Nat} (hk : Mk.split n = k) (h2 : 2 ≤ n) (hi : i < k) : Mk.by_ leaf (x :: q) n i = (Mk.by_ leaf q k i).map fun r => Mk.join r x := by
  rw [Mk.by_, if_neg (by omega), hk, if_pos hi]
theorem by_right {leaf x : List UInt8} {q : List (List UInt8)} {n i k : Nat} (hk : Mk.split n = k) (h2 : 2 ≤ n) (hi : ¬ i < k) : Mk.by_ leaf (x :: q) n i = (Mk.by_ leaf q (n - k) (i - k)).map fun r => Mk.join x r := by
  rw [Mk.by_, if_neg (by omega), hk, if_neg hi]
set_option maxHeartbeats 4000000 in
set_option maxRecDepth 100000 in
theorem rbp_nil (leaf : ByteArray) (n i : Nat) (h1 : 1 ≤ n) (hn : n < 9223372036854775808) (xa : Option Addr) (cap : Nat) (w : World) :
    Calls Tryd.prog 65 #[.int .i64 (n : Int), .int .i64 (i : Int), .string leaf, .slice xa 0 cap] w fun e w' => e = Mk.res1 (Mk.by_ leaf.data.toList [] n i) ∧ Below w.heap.size w w' := by
  by_cases h : n = 1
  · subst h
    have HR := Lib.hid (Mk.res1_some (o := Mk.by_ leaf.data.toList [] 1 i) (r := leaf) (by rw [Mk.by_, if_pos rfl]))
    go_enter Tryd.func65, Tryd.ntmps65
    go_wp2_with fail
    go_ret2
    exact ⟨HR.out.symm, Below.refl _ _⟩
  · have HR := Lib.hid (Mk.res1_none (o := Mk.by_ leaf.data.toList [] n i) (by rw [Mk.by_, if_neg h]))
    have d1 : (n : Int) ≠ 1 := by omega
    clear h
    go_enter Tryd.func65, Tryd.ntmps65
    go_wp2_with fail
    go_ret2
    exact ⟨HR.out.symm, Below.refl _ _⟩
set_option maxHeartbeats 8000000 in
set_option maxRecDepth 100000 in
theorem rbp_any (leaf : ByteArray) (hl : leaf.size = 32) : ∀ (q : List (List UInt8)) (p : Nat) (_ : q.length = p) (_ : p ≤ 1000000) (_ : ∀ x ∈ q, x.length = 32) (n i : Nat) (_ : i < n) (_ : n < 9223372036854775808) (xa : Option Addr) (b off cap : Nat) (w : World) (_ : Lv w xa b off cap q.reverse) (_ : Env w),
    Calls Tryd.prog 65 #[.int .i64 (n : Int), .int .i64 (i : Int), .string leaf, .slice xa p cap] w fun e w' => e = Mk.res1 (Mk.by_ leaf.data.toList q n i) ∧ Below w.heap.size w w' := by
  intro q
  induction q with
  | nil =>
    intro p hp hP hq n i hi hn xa b off cap w hL hE
    obtain rfl : p = 0 := hp.symm
    exact rbp_nil leaf n i (by omega) hn xa cap w
  | cons x q ih =>
    intro p hp hP hq n i hi hn xa b off cap w hL hE
    have hpq : q.length + 1 = p := hp
    obtain ⟨m, hm⟩ : ∃ m, p - 1 = m := ⟨_, rfl⟩
    have hqm : q.length = m := by omega
    have p1 : p ≠ 0 := by omega
    have p2 : (p : Int) ≠ 0 := by omega
    by_cases h1 : n = 1
    · subst h1
      have HR := Lib.hid (Mk.res1_none (o := Mk.by_ leaf.data.toList (x :: q) 1 i) (by rw [Mk.by_, if_pos rfl]))
      clear ih hp hpq hm hqm hq hL hE
      go_enter Tryd.func65, Tryd.ntmps65
      go_wp2_with fail
      go_ret2
      exact ⟨HR.out.symm, Below.refl _ _⟩
    have h2 : 2 ≤ n := by omega
    have IH := Lib.hid ih
    have HL := Lib.hid hL
    have HE := Lib.hid hE
    obtain ⟨X, hX⟩ : ∃ X : ByteArray, encStr x = .string X := ⟨_, rfl⟩
    obtain ⟨hX1, hX2⟩ := encStr_size hX
    have hX3 : X.size = 32 := by rw [hX2]; exact hq x (by simp)
    have hrev : (x :: q).reverse = q.reverse ++ [x] := List.reverse_cons
    have hlast : (x :: q).reverse.getD m [] = x := by rw [hrev, List.getD_eq_getElem?_getD, List.getElem?_append_right (by simp; omega)]; simp [hqm]
    have htake : (x :: q).reverse.take m = q.reverse := by rw [hrev, List.take_left' (by simp [hqm])]
    have hq' : ∀ z ∈ q, z.length = 32 := fun z hz => hq z (by simp [hz])
    have HC := Lib.hid (cutLast_any (x :: q).reverse p m (by simp [hpq]) (by omega) hm hP X (by rw [hlast, hX]) xa b off cap w HL.out)
    have HT : Hid (Lv w xa b off cap q.reverse) := by
      have := HL.out.take m
      rw [htake] at this
      exact Lib.hid this
    have hk1 := Mk.split_lt h2
    have hk0 := Mk.split_pos n
    have HK := Lib.hid (fun w' : World => split_any n h2 hn w')
    obtain ⟨k, hk⟩ : ∃ k, Mk.split n = k := ⟨_, rfl⟩
    rw [hk] at hk0 hk1 HK
    have d1 : (n : Int) ≠ 1 := by omega
    by_cases hik : i < k
    · have hiki : (i : Int) < (k : Int) := by omega
      have hby := by_left (leaf := leaf.data.toList) (x := x) (q := q) hk h2 hik
      have S := Lib.hid (fun (w5 : World) (hb : Below w.heap.size w w5) => IH.out m hqm (by omega) hq' k i hik (by omega) xa b off cap w5 (HT.out.below hb) (HE.out.new hb))
      cases hr : Mk.by_ leaf.data.toList q k i with
      | none =>
        rw [hr] at hby S
        have HR := Lib.hid (Mk.res1_none (o := Mk.by_ leaf.data.toList (x :: q) n i) (by rw [hby]; rfl))
        rw [Mk.res1_none rfl] at S
        clear ih hL hE hp hpq hm hX hX1 hX2 hX3 hrev hlast htake hq hq' hqm hk hby hr
        go_enter Tryd.func65, Tryd.ntmps65
        go_wp2_with fail
        refine HC.out.mono ?_
        rintro _ w1 ⟨rfl, hb1⟩
        have B1 := Lib.hid (drewBelow (B := w.heap.size) hb1)
        clear hb1
        go_wp2_with fail
        refine (HK.out _).mono ?_
        rintro _ w2 ⟨rfl, rfl⟩
        go_wp2_with fail
        refine (S.out _ B1.out).mono ?_
        rintro _ w3 ⟨rfl, hb3⟩
        have B3 := Lib.hid (B1.out.trans (hb3.mono B1.out.size))
        clear hb3
        go_wp2_with fail
        go_ret2
        exact ⟨HR.out.symm, B3.out⟩
      | some r =>
        obtain ⟨R, hR⟩ := Mk.some_bytes hr
        have hrl : R.size = 32 := by rw [Lib.size_eq]; exact Mk.by_len (by rw [← Lib.size_eq]; exact hl) q k i _ hR
        obtain ⟨J, hJ⟩ : ∃ J : ByteArray, Mk.join R.data.toList X.data.toList = J.data.toList := ⟨⟨(Mk.join R.data.toList X.data.toList).toArray⟩, rfl⟩
        rw [hR] at hby S
        have HR := Lib.hid (Mk.res1_some (o := Mk.by_ leaf.data.toList (x :: q) n i) (r := J) (by rw [hby, ← hJ, hX1]; rfl))
        rw [Mk.res1_some rfl] at S
        have SJ := Lib.hid (fun (w5 : World) (hb : Below w.heap.size w w5) => join_to R X J (by omega) (by omega) hJ w5 (HE.out.new hb))
        clear ih hL hE hp hpq hm hX hX1 hX2 hX3 hrev hlast htake hq hq' hqm hk hby hr hR hrl hJ
        go_enter Tryd.func65, Tryd.ntmps65
        go_wp2_with fail
        refine HC.out.mono ?_
        rintro _ w1 ⟨rfl, hb1⟩
        have B1 := Lib.hid (drewBelow (B := w.heap.size) hb1)
        clear hb1
        go_wp2_with fail
        refine (HK.out _).mono ?_
        rintro _ w2 ⟨rfl, rfl⟩
        go_wp2_with fail
        refine (S.out _ B1.out).mono ?_
        rintro _ w3 ⟨rfl, hb3⟩
        have B3 := Lib.hid (B1.out.trans (hb3.mono B1.out.size))
        clear hb3
        go_wp2_with fail
        refine (SJ.out _ B3.out).mono ?_
        rintro _ w4 ⟨rfl, hb4⟩
        have B4 := Lib.hid (B3.out.trans (hb4.mono B3.out.size))
        clear hb4
        go_wp2_with fail
        go_ret2
        exact ⟨HR.out.symm, B4.out⟩
    · have hiki : ¬ (i : Int) < (k : Int) := by omega
      have hby := by_right (leaf := leaf.data.toList) (x := x) (q := q) hk h2 hik
      obtain ⟨j, hj⟩ : ∃ j, i - k = j := ⟨_, rfl⟩
      obtain ⟨g, hg⟩ : ∃ g, n - k = g := ⟨_, rfl⟩
      rw [hj, hg] at hby
      have j1 : (i : Int) - (k : Int) = (j : Int) := by omega
      have j2 : IntKind.i64.wrap ((i : Int) - (k : Int)) = (j : Int) := by rw [IntWalk.i64_in _ (by omega)]; omega
      have j3 : IntKind.i64.wrap (j : Int) = (j : Int) := IntWalk.i64_in _ (by omega)
      have g1 : (n : Int) - (k : Int) = (g : Int) := by omega
      have g2 : IntKind.i64.wrap ((n : Int) - (k : Int)) = (g : Int) := by rw [IntWalk.i64_in _ (by omega)]; omega
      have g3 : IntKind.i64.wrap (g : Int) = (g : Int) := IntWalk.i64_in _ (by omega)
      have S := Lib.hid (fun (w5 : World) (hb : Below w.heap.size w w5) => IH.out m hqm (by omega) hq' g j (by omega) (by omega) xa b off cap w5 (HT.out.below hb) (HE.out.new hb))
      cases hr : Mk.by_ leaf.data.toList q g j with
      | none =>
        rw [hr] at hby S
        have HR := Lib.hid (Mk.res1_none (o := Mk.by_ leaf.data.toList (x :: q) n i) (by rw [hby]; rfl))
        rw [Mk.res1_none rfl] at S
        clear ih hL hE hp hpq hm hX hX1 hX2 hX3 hrev hlast htake hq hq' hqm hk hby hr hj hg
        go_enter Tryd.func65, Tryd.ntmps65
        go_wp2_with fail
        refine HC.out.mono ?_
        rintro _ w1 ⟨rfl, hb1⟩
        have B1 := Lib.hid (drewBelow (B := w.heap.size) hb1)
        clear hb1
        go_wp2_with fail
        refine (HK.out _).mono ?_
        rintro _ w2 ⟨rfl, rfl⟩
        go_wp2_with fail
        refine (S.out _ B1.out).mono ?_
        rintro _ w3 ⟨rfl, hb3⟩
        have B3 := Lib.hid (B1.out.trans (hb3.mono B1.out.size))
        clear hb3
        go_wp2_with fail
        go_ret2
        exact ⟨HR.out.symm, B3.out⟩
      | some r =>
        obtain ⟨R, hR⟩ := Mk.some_bytes hr
        have hrl : R.size = 32 := by rw [Lib.size_eq]; exact Mk.by_len (by rw [← Lib.size_eq]; exact hl) q g j _ hR
        obtain ⟨J, hJ⟩ : ∃ J : ByteArray, Mk.join X.data.toList R.data.toList = J.data.toList := ⟨⟨(Mk.join X.data.toList R.data.toList).toArray⟩, rfl⟩
        rw [hR] at hby S
        have HR := Lib.hid (Mk.res1_some (o := Mk.by_ leaf.data.toList (x :: q) n i) (r := J) (by rw [hby, ← hJ, hX1]; rfl))
        rw [Mk.res1_some rfl] at S
        have SJ := Lib.hid (fun (w5 : World) (hb : Below w.heap.size w w5) => join_to X R J (by omega) (by omega) hJ w5 (HE.out.new hb))
        clear ih hL hE hp hpq hm hX hX1 hX2 hX3 hrev hlast htake hq hq' hqm hk hby hr hR hrl hJ hj hg
        go_enter Tryd.func65, Tryd.ntmps65
        go_wp2_with fail
        refine HC.out.mono ?_
        rintro _ w1 ⟨rfl, hb1⟩
        have B1 := Lib.hid (drewBelow (B := w.heap.size) hb1)
        clear hb1
        go_wp2_with fail
        refine (HK.out _).mono ?_
        rintro _ w2 ⟨rfl, rfl⟩
        go_wp2_with fail
        refine (S.out _ B1.out).mono ?_
        rintro _ w3 ⟨rfl, hb3⟩
        have B3 := Lib.hid (B1.out.trans (hb3.mono B1.out.size))
        clear hb3
        go_wp2_with fail
        refine (SJ.out _ B3.out).mono ?_
        rintro _ w4 ⟨rfl, hb4⟩
        have B4 := Lib.hid (B3.out.trans (hb4.mono B3.out.size))
        clear hb4
        go_wp2_with fail
        go_ret2
        exact ⟨HR.out.symm, B4.out⟩
theorem check_no {root leaf : List UInt8} {n i : Int} {L : List (List UInt8)} (h : i < 0 ∨ n ≤ i ∨ Mk.hashy root = false ∨ Mk.hashy leaf = false ∨ Mk.hashes L = false) : Mk.check root leaf n i L = false := by
  unfold Mk.check
  rcases h with h | h | h | h | h
  · rw [show decide (0 ≤ i) = false by simp; omega]; rfl
  · rw [show decide (i < n) = false by simp; omega]; simp
  · rw [h]; simp
  · rw [h]; simp
  · rw [h]; simp
theorem hashy_no {s : ByteArray} (h : s.size ≠ 32) : Mk.hashy s.data.toList = false := by unfold Mk.hashy; rw [← Lib.size_eq]; simpa using h
theorem hashy_yes {s : ByteArray} (h : s.size = 32) : Mk.hashy s.data.toList = true := by unfold Mk.hashy; rw [← Lib.size_eq]; simpa using h
theorem check_yes {root leaf : List UInt8} {n i : Nat} {L : List (List UInt8)} (h : i < n) (h1 : Mk.hashy root = true) (h2 : Mk.hashy leaf = true) (h3 : Mk.hashes L = true) {g : Bool} (hg : decide (Mk.by_ leaf L.reverse n i = some root) = g) : Mk.check root leaf (n : Int) (i : Int) L = g := by
  unfold Mk.check
  rw [h1, h2, h3, Int.toNat_natCast, Int.toNat_natCast, hg, show decide ((0 : Int) ≤ (i : Int)) = true by simp, show decide ((i : Int) < (n : Int)) = true by simp; omega]
  simp
theorem bytes_eq {a b : ByteArray} (h : a.data.toList = b.data.toList) : a = b := by
  cases a; cases b
  simp at h
  rw [h]
set_option maxHeartbeats 4000000 in
set_option maxRecDepth 100000 in
theorem check_any (root leaf : ByteArray) (n i : Int) (hn : n ≤ 9223372036854775807) (L : List (List UInt8)) (p : Nat) (hp : L.length = p) (hP : p ≤ 1000000) (xa : Option Addr) (b off cap : Nat) (w : World) (hL : Lv w xa b off cap L) (hE : Env w) :
    Calls Tryd.prog 40 #[.string root, .int .i64 n, .int .i64 i, .string leaf, .slice xa p cap] w fun e w' => e = .returned (.bool (Mk.check root.data.toList leaf.data.toList n i L)) ∧ Below w.heap.size w w' := by
  have HA := Lib.hid (fun w' (hb : Below w.heap.size w w') => areHashes_any L p hp hP xa b off cap w' (hL.below hb))
  by_cases h0 : i < 0
  · have HR := Lib.hid (check_no (root := root.data.toList) (leaf := leaf.data.toList) (n := n) (L := L) (.inl h0))
    clear hL hE hp
    go_enter Tryd.func40, Tryd.ntmps40
    go_wp2_with fail
    go_ret
    exact ⟨retB HR.out, Below.refl _ _⟩
  by_cases h1 : n ≤ i
  · have HR := Lib.hid (check_no (root := root.data.toList) (leaf := leaf.data.toList) (L := L) (.inr (.inl h1)))
    have h1' : i ≥ n := h1
    clear hL hE hp
    go_enter Tryd.func40, Tryd.ntmps40
    go_wp2_with fail
    go_ret
    exact ⟨retB HR.out, Below.refl _ _⟩
  have h1' : ¬ i ≥ n := h1
  by_cases h2 : root.size = 32
  case neg =>
    have HR := Lib.hid (check_no (leaf := leaf.data.toList) (n := n) (i := i) (L := L) (.inr (.inr (.inl (hashy_no h2)))))
    have H2 := Lib.hid (fun w' => isHash_no root h2 w')
    clear hL hE hp h2
    go_enter Tryd.func40, Tryd.ntmps40
    go_wp2_with fail
    refine (H2.out _).mono ?_
    rintro _ w1 ⟨rfl, rfl⟩
    go_wp2_with fail
    go_ret
    exact ⟨retB HR.out, Below.refl _ _⟩
  have H2 := Lib.hid (fun w' => isHash_yes root h2 w')
  by_cases h3 : leaf.size = 32
  case neg =>
    have HR := Lib.hid (check_no (root := root.data.toList) (n := n) (i := i) (L := L) (.inr (.inr (.inr (.inl (hashy_no h3))))))
    have H3 := Lib.hid (fun w' => isHash_no leaf h3 w')
    clear hL hE hp h2 h3
    go_enter Tryd.func40, Tryd.ntmps40
    go_wp2_with fail
    refine (H2.out _).mono ?_
    rintro _ w1 ⟨rfl, rfl⟩
    go_wp2_with fail
    refine (H3.out _).mono ?_
    rintro _ w1 ⟨rfl, rfl⟩
    go_wp2_with fail
    go_ret
    exact ⟨retB HR.out, Below.refl _ _⟩
  have H3 := Lib.hid (fun w' => isHash_yes leaf h3 w')
  cases h4 : Mk.hashes L with
  | false =>
    have HR := Lib.hid (check_no (root := root.data.toList) (leaf := leaf.data.toList) (n := n) (i := i) (L := L) (.inr (.inr (.inr (.inr h4)))))
    rw [h4] at HA
    clear hL hE hp h2 h3 h4
    go_enter Tryd.func40, Tryd.ntmps40
    go_wp2_with fail
    refine (H2.out _).mono ?_
    rintro _ w1 ⟨rfl, rfl⟩
    go_wp2_with fail
    refine (H3.out _).mono ?_
    rintro _ w1 ⟨rfl, rfl⟩
    go_wp2_with fail
    refine (HA.out _ (Below.refl _ _)).mono ?_
    rintro _ w1 ⟨rfl, rfl⟩
    go_wp2_with fail
    go_ret
    exact ⟨retB HR.out, Below.refl _ _⟩
  | true =>
    obtain ⟨j, rfl⟩ := Int.eq_ofNat_of_zero_le (by omega : 0 ≤ i)
    obtain ⟨g, rfl⟩ := Int.eq_ofNat_of_zero_le (by omega : 0 ≤ n)
    have hq : ∀ x ∈ L.reverse, x.length = 32 := fun x hx => Mk.hashes_mem h4 x (by simpa using hx)
    have S := Lib.hid (rbp_any leaf h3 L.reverse p (by simp [hp]) hP hq g j (by omega) (by omega) xa b off cap w (by rw [List.reverse_reverse]; exact hL) hE)
    have HY := Lib.hid (check_yes (root := root.data.toList) (leaf := leaf.data.toList) (n := g) (i := j) (L := L) (by omega) (hashy_yes h2) (hashy_yes h3) h4 rfl)
    rw [h4] at HA
    cases hr : Mk.by_ leaf.data.toList L.reverse g j with
    | none =>
      have HR : Hid (Mk.check root.data.toList leaf.data.toList (g : Int) (j : Int) L = false) := by
        have := HY.out
        rw [hr] at this
        exact Lib.hid (this.trans (by simp))
      rw [hr, Mk.res1_none rfl] at S
      clear hL hE hp h2 h3 h4 hr hq HY
      go_enter Tryd.func40, Tryd.ntmps40
      go_wp2_with fail
      refine (H2.out _).mono ?_
      rintro _ w1 ⟨rfl, rfl⟩
      go_wp2_with fail
      refine (H3.out _).mono ?_
      rintro _ w1 ⟨rfl, rfl⟩
      go_wp2_with fail
      refine (HA.out _ (Below.refl _ _)).mono ?_
      rintro _ w1 ⟨rfl, rfl⟩
      go_wp2_with fail
      refine S.out.mono ?_
      rintro _ w2 ⟨rfl, hb⟩
      have B2 := Lib.hid hb
      clear hb
      go_wp2_with fail
      go_ret
      exact ⟨retB HR.out, B2.out⟩
    | some r =>
      obtain ⟨R, hR⟩ := Mk.some_bytes hr
      by_cases hE2 : R = root
      · subst hE2
        have HR : Hid (Mk.check R.data.toList leaf.data.toList (g : Int) (j : Int) L = true) := by
          have := HY.out
          rw [hR] at this
          exact Lib.hid (this.trans (by simp))
        rw [hR, Mk.res1_some rfl] at S
        have hs : (R.toList == R.toList) = true := by simp
        clear hL hE hp h2 h3 h4 hr hq HY hR
        go_enter Tryd.func40, Tryd.ntmps40
        go_wp2_with fail
        refine (H2.out _).mono ?_
        rintro _ w1 ⟨rfl, rfl⟩
        go_wp2_with fail
        refine (H3.out _).mono ?_
        rintro _ w1 ⟨rfl, rfl⟩
        go_wp2_with fail
        refine (HA.out _ (Below.refl _ _)).mono ?_
        rintro _ w1 ⟨rfl, rfl⟩
        go_wp2_with fail
        refine S.out.mono ?_
        rintro _ w2 ⟨rfl, hb⟩
        have B2 := Lib.hid hb
        clear hb
        go_wp2_with fail
        go_ret
        exact ⟨retB HR.out, B2.out⟩
      · have HR : Hid (Mk.check root.data.toList leaf.data.toList (g : Int) (j : Int) L = false) := by
          have := HY.out
          rw [hR] at this
          refine Lib.hid (this.trans ?_)
          simp only [decide_eq_false_iff_not, Option.some.injEq]
          exact fun h => hE2 (bytes_eq h)
        rw [hR, Mk.res1_some rfl] at S
        have hs : (R.toList == root.toList) = false := by
          rw [beq_eq_false_iff_ne]
          exact fun h => hE2 (bytes_eq (by simpa [ByteArray.toList_eq] using h))
        clear hL hE hp h2 h3 h4 hr hq HY hR hE2
        go_enter Tryd.func40, Tryd.ntmps40
        go_wp2_with fail
        refine (H2.out _).mono ?_
        rintro _ w1 ⟨rfl, rfl⟩
        go_wp2_with fail
        refine (H3.out _).mono ?_
        rintro _ w1 ⟨rfl, rfl⟩
        go_wp2_with fail
        refine (HA.out _ (Below.refl _ _)).mono ?_
        rintro _ w1 ⟨rfl, rfl⟩
        go_wp2_with fail
        refine S.out.mono ?_
        rintro _ w2 ⟨rfl, hb⟩
        have B2 := Lib.hid hb
        clear hb
        go_wp2_with fail
        go_ret
        exact ⟨retB HR.out, B2.out⟩
end Go.Proofs.YteiabaddmclmlaaDoor
