/-
  The program's sameRoots, rootsByGrowth and CheckGrown.
-/
import Derived.Test.YteiabaddmclmlaaDoorMCheck
import Derived.Test.YteiabaddmclmlaaDoorMRoot
namespace Go.Proofs.YteiabaddmclmlaaDoor
open Go Go.RowKit Go.Shelf
namespace Mk
def res2 (o : Option (B × B)) : Ending := match o with
  | some r => .returned (.tuple #[encStr r.1, encStr r.2, .bool true])
  | none => .returned (.tuple #[.string ⟨#[]⟩, .string ⟨#[]⟩, .bool false])
theorem res2_some {o : Option (B × B)} {a b : ByteArray} (h : o = some (a.data.toList, b.data.toList)) : res2 o = .returned (.tuple #[.string a, .string b, .bool true]) := by
  subst h
  show Ending.returned (.tuple #[encStr a.data.toList, encStr b.data.toList, .bool true]) = _
  rw [encStr_to rfl, encStr_to rfl]
theorem res2_none {o : Option (B × B)} (h : o = none) : res2 o = .returned (.tuple #[.string ⟨#[]⟩, .string ⟨#[]⟩, .bool false]) := by subst h; rfl
theorem some_bytes2 {o : Option (B × B)} {r : B × B} (h : o = some r) : ∃ R S : ByteArray, o = some (R.data.toList, S.data.toList) := ⟨⟨r.1.toArray⟩, ⟨r.2.toArray⟩, h⟩
theorem both_len1 {old : B} (ho : old.length = 32) : ∀ (q : List B) (m n : Nat) (known : Bool) (r : B × B), (∀ x ∈ q, x.length = 32) → both old q m n known = some r → r.1.length = 32
  | [], m, n, known, r, _, h => by
    unfold both at h
    split at h
    · cases h; exact ho
    · cases h
  | x :: q, m, n, known, r, hq, h => by
    have hq' : ∀ z ∈ q, z.length = 32 := fun z hz => hq z (by simp [hz])
    unfold both at h
    split at h
    · split at h
      · cases h; exact hq x (by simp)
      · cases h
    · split at h
      · obtain ⟨a, ha, rfl⟩ := Option.map_eq_some_iff.1 h
        exact both_len1 ho q _ _ _ a hq' ha
      · obtain ⟨a, _, rfl⟩ := Option.map_eq_some_iff.1 h
        exact join_len _ _
def checkGrown (old root : B) (m n : Int) (L : List B) : Bool :=
  decide (0 ≤ m) && decide (m ≤ n) && hashy old && hashy root && hashes L && (if m = 0 then decide (old = Dg.sha []) && decide (L.length = 0) else decide (both old L.reverse m.toNat n.toNat true = some (old, root)))
end Mk
theorem strEq (a b : ByteArray) : (a.toList == b.toList) = decide (a.data.toList = b.data.toList) := by
  rw [Bool.eq_iff_iff]
  simp [ByteArray.toList_eq]
theorem ret2 {o : Option (List UInt8 × List UInt8)} {x : Ending} (h : Mk.res2 o = x) : x = Mk.res2 o := h.symm
set_option maxHeartbeats 4000000 in
set_option maxRecDepth 100000 in
theorem same_any (old : ByteArray) (q : List (List UInt8)) (p : Nat) (hp : q.length = p) (hP : p ≤ 1000000) (n : Nat) (known : Bool) (xa : Option Addr) (b off cap : Nat) (w : World) (hL : Lv w xa b off cap q.reverse) :
    Calls Tryd.prog 79 #[.string old, .slice xa p cap, .bool known] w fun e w' => e = Mk.res2 (Mk.both old.data.toList q n n known) ∧ Below w.heap.size w w' := by
  match q, hp, hL, known with
  | [], hp, hL, true =>
    obtain rfl : p = 0 := hp.symm
    have HR := Lib.hid (Mk.res2_some (o := Mk.both old.data.toList [] n n true) (a := old) (b := old) (by rw [Mk.both, if_pos ⟨rfl, rfl⟩]))
    clear hp hL
    go_enter Tryd.func79, Tryd.ntmps79
    go_wp2_with fail
    refine bodyPost_ret (v := .tuple #[.string old, .string old, .bool true]) (by simp [results, Tryd.results79, go_sem]) rfl ⟨HR.out.symm, Below.refl _ _⟩
  | [], hp, hL, false =>
    obtain rfl : p = 0 := hp.symm
    have HR := Lib.hid (Mk.res2_none (o := Mk.both old.data.toList [] n n false) (by rw [Mk.both, if_neg (by simp)]))
    clear hp hL
    go_enter Tryd.func79, Tryd.ntmps79
    go_wp2_with fail
    refine bodyPost_ret (v := .tuple #[.string ⟨#[]⟩, .string ⟨#[]⟩, .bool false]) (by simp [results, Tryd.results79, go_sem]) rfl ⟨HR.out.symm, Below.refl _ _⟩
  | x :: q, hp, hL, true =>
    have HR := Lib.hid (Mk.res2_none (o := Mk.both old.data.toList (x :: q) n n true) (by rw [Mk.both, if_pos rfl, if_neg (by simp)]))
    have p1 : p ≠ 0 := by simp at hp; omega
    have p3 : ((p : Int) == 0) = false := by rw [beq_eq_false_iff_ne]; omega
    clear hp hL
    go_enter Tryd.func79, Tryd.ntmps79
    go_wp2_with fail
    refine bodyPost_ret (v := .tuple #[.string ⟨#[]⟩, .string ⟨#[]⟩, .bool false]) (by simp [results, Tryd.results79, go_sem]) rfl ⟨HR.out.symm, Below.refl _ _⟩
  | [x], hp, hL, false =>
    obtain rfl : p = 1 := hp.symm
    obtain ⟨X, hX⟩ : ∃ X : ByteArray, encStr x = .string X := ⟨_, rfl⟩
    have hX1 := (encStr_size hX).1
    have HR := Lib.hid (Mk.res2_some (o := Mk.both old.data.toList [x] n n false) (a := X) (b := X) (by rw [Mk.both, if_pos rfl, if_pos (by simp), hX1]))
    obtain rfl := hL.at_ (by simp)
    have c := hL.cell 0 (by simp)
    rw [show ([x] : List (List UInt8)).reverse.getD 0 [] = x from rfl, hX, Nat.add_zero] at c
    clear hp hL hX hX1
    go_enter Tryd.func79, Tryd.ntmps79
    go_wp2
    go_region
    go_wp2
    refine bodyPost_ret (v := .tuple #[.string X, .string X, .bool true]) (by simp [results, Tryd.results79, go_sem]) rfl ⟨HR.out.symm, below_drewN (Below.refl _ _) _⟩
  | x :: y :: q, hp, hL, false =>
    have HR := Lib.hid (Mk.res2_none (o := Mk.both old.data.toList (x :: y :: q) n n false) (by rw [Mk.both, if_pos rfl, if_neg (by simp)]))
    have p1 : p ≠ 1 := by simp at hp; omega
    have p3 : ((p : Int) == 1) = false := by rw [beq_eq_false_iff_ne]; omega
    clear hp hL
    go_enter Tryd.func79, Tryd.ntmps79
    go_wp2_with fail
    refine bodyPost_ret (v := .tuple #[.string ⟨#[]⟩, .string ⟨#[]⟩, .bool false]) (by simp [results, Tryd.results79, go_sem]) rfl ⟨HR.out.symm, Below.refl _ _⟩
theorem both_left {old x : List UInt8} {q : List (List UInt8)} {m n k : Nat} {known : Bool} (hk : Mk.split n = k) (hmn : m ≠ n) (hm : m ≤ k) : Mk.both old (x :: q) m n known = (Mk.both old q m k known).map fun r => (r.1, Mk.join r.2 x) := by
  rw [Mk.both, if_neg hmn, hk, if_pos hm]
theorem both_right {old x : List UInt8} {q : List (List UInt8)} {m n k : Nat} {known : Bool} (hk : Mk.split n = k) (hmn : m ≠ n) (hm : ¬ m ≤ k) : Mk.both old (x :: q) m n known = (Mk.both old q (m - k) (n - k) false).map fun r => (Mk.join x r.1, Mk.join x r.2) := by
  rw [Mk.both, if_neg hmn, hk, if_neg hm]
set_option maxHeartbeats 8000000 in
set_option maxRecDepth 100000 in
theorem rbg_any (old : ByteArray) (ho : old.size = 32) : ∀ (q : List (List UInt8)) (p : Nat) (_ : q.length = p) (_ : p ≤ 1000000) (_ : ∀ x ∈ q, x.length = 32) (m n : Nat) (_ : 0 < m) (_ : m ≤ n) (_ : n < 9223372036854775808) (known : Bool) (xa : Option Addr) (b off cap : Nat) (w : World) (_ : Lv w xa b off cap q.reverse) (_ : Env w),
    Calls Tryd.prog 68 #[.string old, .int .i64 (m : Int), .int .i64 (n : Int), .slice xa p cap, .bool known] w fun e w' => e = Mk.res2 (Mk.both old.data.toList q m n known) ∧ Below w.heap.size w w' := by
  intro q
  induction q with
  | nil =>
    intro p hp hP hq m n h0 hm hn known xa b off cap w hL hE
    by_cases hmn : m = n
    · subst hmn
      have S := Lib.hid (same_any old [] p hp hP m known xa b off cap w hL)
      have e1 : ((m : Int) == (m : Int)) = true := by simp
      obtain ⟨o, ho2⟩ : ∃ o, Mk.both old.data.toList [] m m known = o := ⟨_, rfl⟩
      rw [ho2] at S
      have HO := Lib.hid ho2
      clear hp hL hE ho2 hq
      cases o with
      | none =>
        rw [Mk.res2_none rfl] at S
        have HR := Lib.hid (Mk.res2_none HO.out)
        go_enter Tryd.func68, Tryd.ntmps68
        go_wp2_with fail
        refine S.out.mono ?_
        rintro _ w1 ⟨rfl, hb1⟩
        have B1 := Lib.hid hb1
        clear hb1
        go_wp2_with fail
        refine bodyPost_ret (v := .tuple #[.string ⟨#[]⟩, .string ⟨#[]⟩, .bool false]) (by simp [results, Tryd.results68, go_sem]) rfl ⟨HR.out.symm, B1.out⟩
      | some r =>
        obtain ⟨R, S', hR⟩ := Mk.some_bytes2 (o := some r) rfl
        rw [hR] at S HO
        rw [Mk.res2_some rfl] at S
        have HR := Lib.hid (Mk.res2_some HO.out)
        clear hR
        go_enter Tryd.func68, Tryd.ntmps68
        go_wp2_with fail
        refine S.out.mono ?_
        rintro _ w1 ⟨rfl, hb1⟩
        have B1 := Lib.hid hb1
        clear hb1
        go_wp2_with fail
        refine bodyPost_ret (v := .tuple #[.string R, .string S', .bool true]) (by simp [results, Tryd.results68, go_sem]) rfl ⟨HR.out.symm, B1.out⟩
    · obtain rfl : p = 0 := hp.symm
      have e1 : ((m : Int) == (n : Int)) = false := by rw [beq_eq_false_iff_ne]; omega
      have e2 : (m : Int) ≠ (n : Int) := by omega
      have HR := Lib.hid (Mk.res2_none (o := Mk.both old.data.toList [] m n known) (by rw [Mk.both, if_neg (by omega)]))
      clear hp hL hE hq hmn
      go_enter Tryd.func68, Tryd.ntmps68
      go_wp2_with fail
      refine bodyPost_ret (v := .tuple #[.string ⟨#[]⟩, .string ⟨#[]⟩, .bool false]) (by simp [results, Tryd.results68, go_sem]) rfl ⟨HR.out.symm, Below.refl _ _⟩
  | cons x q ih =>
    intro p hp hP hq m n h0 hm hn known xa b off cap w hL hE
    by_cases hmn : m = n
    · subst hmn
      have S := Lib.hid (same_any old (x :: q) p hp hP m known xa b off cap w hL)
      have e1 : ((m : Int) == (m : Int)) = true := by simp
      obtain ⟨o, ho2⟩ : ∃ o, Mk.both old.data.toList (x :: q) m m known = o := ⟨_, rfl⟩
      rw [ho2] at S
      have HO := Lib.hid ho2
      clear hp hL hE ho2 hq ih
      cases o with
      | none =>
        rw [Mk.res2_none rfl] at S
        have HR := Lib.hid (Mk.res2_none HO.out)
        go_enter Tryd.func68, Tryd.ntmps68
        go_wp2_with fail
        refine S.out.mono ?_
        rintro _ w1 ⟨rfl, hb1⟩
        have B1 := Lib.hid hb1
        clear hb1
        go_wp2_with fail
        refine bodyPost_ret (v := .tuple #[.string ⟨#[]⟩, .string ⟨#[]⟩, .bool false]) (by simp [results, Tryd.results68, go_sem]) rfl ⟨HR.out.symm, B1.out⟩
      | some r =>
        obtain ⟨R, S', hR⟩ := Mk.some_bytes2 (o := some r) rfl
        rw [hR] at S HO
        rw [Mk.res2_some rfl] at S
        have HR := Lib.hid (Mk.res2_some HO.out)
        clear hR
        go_enter Tryd.func68, Tryd.ntmps68
        go_wp2_with fail
        refine S.out.mono ?_
        rintro _ w1 ⟨rfl, hb1⟩
        have B1 := Lib.hid hb1
        clear hb1
        go_wp2_with fail
        refine bodyPost_ret (v := .tuple #[.string R, .string S', .bool true]) (by simp [results, Tryd.results68, go_sem]) rfl ⟨HR.out.symm, B1.out⟩
    have hpq : q.length + 1 = p := hp
    obtain ⟨d, hd⟩ : ∃ d, p - 1 = d := ⟨_, rfl⟩
    have hqd : q.length = d := by omega
    have p1 : p ≠ 0 := by omega
    have p2 : (p : Int) ≠ 0 := by omega
    have p3 : ((p : Int) == 0) = false := by rw [beq_eq_false_iff_ne]; omega
    have e1 : ((m : Int) == (n : Int)) = false := by rw [beq_eq_false_iff_ne]; omega
    have e2 : (m : Int) ≠ (n : Int) := by omega
    have h2 : 2 ≤ n := by omega
    have IH := Lib.hid ih
    have HL := Lib.hid hL
    have HE := Lib.hid hE
    obtain ⟨X, hX⟩ : ∃ X : ByteArray, encStr x = .string X := ⟨_, rfl⟩
    obtain ⟨hX1, hX2⟩ := encStr_size hX
    have hX3 : X.size = 32 := by rw [hX2]; exact hq x (by simp)
    have hrev : (x :: q).reverse = q.reverse ++ [x] := List.reverse_cons
    have hlast : (x :: q).reverse.getD d [] = x := by rw [hrev, List.getD_eq_getElem?_getD, List.getElem?_append_right (by simp; omega)]; simp [hqd]
    have htake : (x :: q).reverse.take d = q.reverse := by rw [hrev, List.take_left' (by simp [hqd])]
    have hq' : ∀ z ∈ q, z.length = 32 := fun z hz => hq z (by simp [hz])
    have HC := Lib.hid (cutLast_any (x :: q).reverse p d (by simp [hpq]) (by omega) hd hP X (by rw [hlast, hX]) xa b off cap w HL.out)
    have HT : Hid (Lv w xa b off cap q.reverse) := by
      have := HL.out.take d
      rw [htake] at this
      exact Lib.hid this
    have hk1 := Mk.split_lt h2
    have hk0 := Mk.split_pos n
    have HK := Lib.hid (fun w' : World => split_any n h2 hn w')
    obtain ⟨k, hk⟩ : ∃ k, Mk.split n = k := ⟨_, rfl⟩
    rw [hk] at hk0 hk1 HK
    by_cases hmk : m ≤ k
    · have hmki : (m : Int) ≤ (k : Int) := by omega
      have hby := both_left (old := old.data.toList) (x := x) (q := q) (known := known) hk hmn hmk
      have S := Lib.hid (fun (w5 : World) (hb : Below w.heap.size w w5) => IH.out d hqd (by omega) hq' m k h0 hmk (by omega) known xa b off cap w5 (HT.out.below hb) (HE.out.new hb))
      cases hr : Mk.both old.data.toList q m k known with
      | none =>
        rw [hr] at hby S
        have HR := Lib.hid (Mk.res2_none (o := Mk.both old.data.toList (x :: q) m n known) (by rw [hby]; rfl))
        rw [Mk.res2_none rfl] at S
        clear ih hL hE hp hpq hd hX hX1 hX2 hX3 hrev hlast htake hq hq' hqd hk hby hr hmn
        go_enter Tryd.func68, Tryd.ntmps68
        go_wp2_with fail
        refine HC.out.mono ?_
        rintro _ w1 ⟨rfl, hb1⟩
        have B1 := Lib.hid (drewBelow (B := w.heap.size) hb1)
        clear hb1
        go_wp2_with fail
        refine (HK.out _).mono ?_
        rintro _ w2 ⟨rfl, rfl⟩
        go_wp2_with fail
        refine (S.out _ B1.out).mono ?_
        rintro _ w3 ⟨rfl, hb3⟩
        have B3 := Lib.hid (B1.out.trans (hb3.mono B1.out.size))
        clear hb3
        go_wp2_with fail
        refine bodyPost_ret (v := .tuple #[.string ⟨#[]⟩, .string ⟨#[]⟩, .bool false]) (by simp [results, Tryd.results68, go_sem]) rfl ⟨HR.out.symm, B3.out⟩
      | some r =>
        obtain ⟨R, T, hR⟩ := Mk.some_bytes2 hr
        have hR1 : R.size = 32 := by rw [Lib.size_eq]; exact Mk.both_len1 (by rw [← Lib.size_eq]; exact ho) q m k _ _ hq' hR
        have hR2 : T.size = 32 := by rw [Lib.size_eq]; exact Mk.both_len (by rw [← Lib.size_eq]; exact ho) q m k _ _ hq' hR
        obtain ⟨J, hJ⟩ : ∃ J : ByteArray, Mk.join T.data.toList X.data.toList = J.data.toList := ⟨⟨(Mk.join T.data.toList X.data.toList).toArray⟩, rfl⟩
        rw [hR] at hby S
        have HR := Lib.hid (Mk.res2_some (o := Mk.both old.data.toList (x :: q) m n known) (a := R) (b := J) (by rw [hby, ← hJ, hX1]; rfl))
        rw [Mk.res2_some rfl] at S
        have SJ := Lib.hid (fun (w5 : World) (hb : Below w.heap.size w w5) => join_to T X J (by omega) (by omega) hJ w5 (HE.out.new hb))
        clear ih hL hE hp hpq hd hX hX1 hX2 hX3 hrev hlast htake hq hq' hqd hk hby hr hR hR1 hR2 hJ hmn
        go_enter Tryd.func68, Tryd.ntmps68
        go_wp2_with fail
        refine HC.out.mono ?_
        rintro _ w1 ⟨rfl, hb1⟩
        have B1 := Lib.hid (drewBelow (B := w.heap.size) hb1)
        clear hb1
        go_wp2_with fail
        refine (HK.out _).mono ?_
        rintro _ w2 ⟨rfl, rfl⟩
        go_wp2_with fail
        refine (S.out _ B1.out).mono ?_
        rintro _ w3 ⟨rfl, hb3⟩
        have B3 := Lib.hid (B1.out.trans (hb3.mono B1.out.size))
        clear hb3
        go_wp2_with fail
        refine (SJ.out _ B3.out).mono ?_
        rintro _ w4 ⟨rfl, hb4⟩
        have B4 := Lib.hid (B3.out.trans (hb4.mono B3.out.size))
        clear hb4
        go_wp2_with fail
        refine bodyPost_ret (v := .tuple #[.string R, .string J, .bool true]) (by simp [results, Tryd.results68, go_sem]) rfl ⟨HR.out.symm, B4.out⟩
    · have hmki : ¬ (m : Int) ≤ (k : Int) := by omega
      have hby := both_right (old := old.data.toList) (x := x) (q := q) (known := known) hk hmn hmk
      obtain ⟨j, hj⟩ : ∃ j, m - k = j := ⟨_, rfl⟩
      obtain ⟨g, hg⟩ : ∃ g, n - k = g := ⟨_, rfl⟩
      rw [hj, hg] at hby
      have j1 : (m : Int) - (k : Int) = (j : Int) := by omega
      have j2 : IntKind.i64.wrap ((m : Int) - (k : Int)) = (j : Int) := by rw [IntWalk.i64_in _ (by omega)]; omega
      have j3 : IntKind.i64.wrap (j : Int) = (j : Int) := IntWalk.i64_in _ (by omega)
      have g1 : (n : Int) - (k : Int) = (g : Int) := by omega
      have g2 : IntKind.i64.wrap ((n : Int) - (k : Int)) = (g : Int) := by rw [IntWalk.i64_in _ (by omega)]; omega
      have g3 : IntKind.i64.wrap (g : Int) = (g : Int) := IntWalk.i64_in _ (by omega)
      have S := Lib.hid (fun (w5 : World) (hb : Below w.heap.size w w5) => IH.out d hqd (by omega) hq' j g (by omega) (by omega) (by omega) false xa b off cap w5 (HT.out.below hb) (HE.out.new hb))
      cases hr : Mk.both old.data.toList q j g false with
      | none =>
        rw [hr] at hby S
        have HR := Lib.hid (Mk.res2_none (o := Mk.both old.data.toList (x :: q) m n known) (by rw [hby]; rfl))
        rw [Mk.res2_none rfl] at S
        clear ih hL hE hp hpq hd hX hX1 hX2 hX3 hrev hlast htake hq hq' hqd hk hby hr hmn hj hg
        go_enter Tryd.func68, Tryd.ntmps68
        go_wp2_with fail
        refine HC.out.mono ?_
        rintro _ w1 ⟨rfl, hb1⟩
        have B1 := Lib.hid (drewBelow (B := w.heap.size) hb1)
        clear hb1
        go_wp2_with fail
        refine (HK.out _).mono ?_
        rintro _ w2 ⟨rfl, rfl⟩
        go_wp2_with fail
        refine (S.out _ B1.out).mono ?_
        rintro _ w3 ⟨rfl, hb3⟩
        have B3 := Lib.hid (B1.out.trans (hb3.mono B1.out.size))
        clear hb3
        go_wp2_with fail
        refine bodyPost_ret (v := .tuple #[.string ⟨#[]⟩, .string ⟨#[]⟩, .bool false]) (by simp [results, Tryd.results68, go_sem]) rfl ⟨HR.out.symm, B3.out⟩
      | some r =>
        obtain ⟨R, T, hR⟩ := Mk.some_bytes2 hr
        have hR1 : R.size = 32 := by rw [Lib.size_eq]; exact Mk.both_len1 (by rw [← Lib.size_eq]; exact ho) q j g _ _ hq' hR
        have hR2 : T.size = 32 := by rw [Lib.size_eq]; exact Mk.both_len (by rw [← Lib.size_eq]; exact ho) q j g _ _ hq' hR
        obtain ⟨I, hI⟩ : ∃ J : ByteArray, Mk.join X.data.toList R.data.toList = J.data.toList := ⟨⟨(Mk.join X.data.toList R.data.toList).toArray⟩, rfl⟩
        obtain ⟨J, hJ⟩ : ∃ J : ByteArray, Mk.join X.data.toList T.data.toList = J.data.toList := ⟨⟨(Mk.join X.data.toList T.data.toList).toArray⟩, rfl⟩
        rw [hR] at hby S
        have HR := Lib.hid (Mk.res2_some (o := Mk.both old.data.toList (x :: q) m n known) (a := I) (b := J) (by rw [hby, ← hJ, ← hI, hX1]; rfl))
        rw [Mk.res2_some rfl] at S
        have SI := Lib.hid (fun (w5 : World) (hb : Below w.heap.size w w5) => join_to X R I (by omega) (by omega) hI w5 (HE.out.new hb))
        have SJ := Lib.hid (fun (w5 : World) (hb : Below w.heap.size w w5) => join_to X T J (by omega) (by omega) hJ w5 (HE.out.new hb))
        clear ih hL hE hp hpq hd hX hX1 hX2 hX3 hrev hlast htake hq hq' hqd hk hby hr hR hR1 hR2 hJ hI hmn hj hg
        go_enter Tryd.func68, Tryd.ntmps68
        go_wp2_with fail
        refine HC.out.mono ?_
        rintro _ w1 ⟨rfl, hb1⟩
        have B1 := Lib.hid (drewBelow (B := w.heap.size) hb1)
        clear hb1
        go_wp2_with fail
        refine (HK.out _).mono ?_
        rintro _ w2 ⟨rfl, rfl⟩
        go_wp2_with fail
        refine (S.out _ B1.out).mono ?_
        rintro _ w3 ⟨rfl, hb3⟩
        have B3 := Lib.hid (B1.out.trans (hb3.mono B1.out.size))
        clear hb3
        go_wp2_with fail
        refine (SI.out _ B3.out).mono ?_
        rintro _ w4 ⟨rfl, hb4⟩
        have B4 := Lib.hid (B3.out.trans (hb4.mono B3.out.size))
        clear hb4
        go_wp2_with fail
        refine (SJ.out _ B4.out).mono ?_
        rintro _ w5 ⟨rfl, hb5⟩
        have B5 := Lib.hid (B4.out.trans (hb5.mono B4.out.size))
        clear hb5
        go_wp2_with fail
        refine bodyPost_ret (v := .tuple #[.string I, .string J, .bool true]) (by simp [results, Tryd.results68, go_sem]) rfl ⟨HR.out.symm, B5.out⟩
theorem cg_no {old root : List UInt8} {m n : Int} {L : List (List UInt8)} (h : m < 0 ∨ n < m ∨ Mk.hashy old = false ∨ Mk.hashy root = false ∨ Mk.hashes L = false) : Mk.checkGrown old root m n L = false := by
  unfold Mk.checkGrown
  rcases h with h | h | h | h | h
  · rw [show decide (0 ≤ m) = false by simp; omega]; simp
  · rw [show decide (m ≤ n) = false by simp; omega]; simp
  · rw [h]; simp
  · rw [h]; simp
  · rw [h]; simp
theorem cg_zero {old root : List UInt8} {n : Int} {L : List (List UInt8)} (h : 0 ≤ n) (h1 : Mk.hashy old = true) (h2 : Mk.hashy root = true) (h3 : Mk.hashes L = true) : Mk.checkGrown old root 0 n L = (decide (old = Dg.sha []) && decide (L.length = 0)) := by
  unfold Mk.checkGrown
  rw [h1, h2, h3, if_pos rfl, show decide ((0 : Int) ≤ n) = true by simp; omega]
  simp
theorem cg_more {old root : List UInt8} {m n : Nat} {L : List (List UInt8)} (h0 : 0 < m) (h : m ≤ n) (h1 : Mk.hashy old = true) (h2 : Mk.hashy root = true) (h3 : Mk.hashes L = true) : Mk.checkGrown old root (m : Int) (n : Int) L = decide (Mk.both old L.reverse m n true = some (old, root)) := by
  unfold Mk.checkGrown
  rw [h1, h2, h3, if_neg (by omega), Int.toNat_natCast, Int.toNat_natCast, show decide ((0 : Int) ≤ (m : Int)) = true by simp, show decide ((m : Int) ≤ (n : Int)) = true by simp; omega]
  simp
set_option maxHeartbeats 8000000 in
set_option maxRecDepth 100000 in
theorem checkGrown_any (old root : ByteArray) (m n : Int) (hn : n ≤ 9223372036854775807) (L : List (List UInt8)) (p : Nat) (hp : L.length = p) (hP : p ≤ 1000000) (xa : Option Addr) (b off cap : Nat) (w : World) (hL : Lv w xa b off cap L) (hE : Env w) :
    Calls Tryd.prog 42 #[.string old, .int .i64 m, .string root, .int .i64 n, .slice xa p cap] w fun e w' => e = .returned (.bool (Mk.checkGrown old.data.toList root.data.toList m n L)) ∧ Below w.heap.size w w' := by
  have HA := Lib.hid (areHashes_any L p hp hP xa b off cap w hL)
  by_cases h0 : m < 0
  · have HR := Lib.hid (cg_no (old := old.data.toList) (root := root.data.toList) (n := n) (L := L) (.inl h0))
    clear hL hE hp
    go_enter Tryd.func42, Tryd.ntmps42
    go_wp2_with fail
    go_ret
    exact ⟨retB HR.out, Below.refl _ _⟩
  by_cases h1 : n < m
  · have HR := Lib.hid (cg_no (old := old.data.toList) (root := root.data.toList) (m := m) (n := n) (L := L) (.inr (.inl h1)))
    have h1' : m > n := h1
    clear hL hE hp
    go_enter Tryd.func42, Tryd.ntmps42
    go_wp2_with fail
    go_ret
    exact ⟨retB HR.out, Below.refl _ _⟩
  have h1' : ¬ m > n := h1
  by_cases h2 : old.size = 32
  case neg =>
    have HR := Lib.hid (cg_no (root := root.data.toList) (m := m) (n := n) (L := L) (.inr (.inr (.inl (hashy_no h2)))))
    have H2 := Lib.hid (fun w' => isHash_no old h2 w')
    clear hL hE hp h2
    go_enter Tryd.func42, Tryd.ntmps42
    go_wp2_with fail
    refine (H2.out _).mono ?_
    rintro _ w1 ⟨rfl, rfl⟩
    go_wp2_with fail
    go_ret
    exact ⟨retB HR.out, Below.refl _ _⟩
  have H2 := Lib.hid (fun w' => isHash_yes old h2 w')
  by_cases h3 : root.size = 32
  case neg =>
    have HR := Lib.hid (cg_no (old := old.data.toList) (m := m) (n := n) (L := L) (.inr (.inr (.inr (.inl (hashy_no h3))))))
    have H3 := Lib.hid (fun w' => isHash_no root h3 w')
    clear hL hE hp h2 h3
    go_enter Tryd.func42, Tryd.ntmps42
    go_wp2_with fail
    refine (H2.out _).mono ?_
    rintro _ w1 ⟨rfl, rfl⟩
    go_wp2_with fail
    refine (H3.out _).mono ?_
    rintro _ w1 ⟨rfl, rfl⟩
    go_wp2_with fail
    go_ret
    exact ⟨retB HR.out, Below.refl _ _⟩
  have H3 := Lib.hid (fun w' => isHash_yes root h3 w')
  cases h4 : Mk.hashes L with
  | false =>
    have HR := Lib.hid (cg_no (old := old.data.toList) (root := root.data.toList) (m := m) (n := n) (L := L) (.inr (.inr (.inr (.inr h4)))))
    rw [h4] at HA
    clear hL hE hp h2 h3 h4
    go_enter Tryd.func42, Tryd.ntmps42
    go_wp2_with fail
    refine (H2.out _).mono ?_
    rintro _ w1 ⟨rfl, rfl⟩
    go_wp2_with fail
    refine (H3.out _).mono ?_
    rintro _ w1 ⟨rfl, rfl⟩
    go_wp2_with fail
    refine (HA.out).mono ?_
    rintro _ w1 ⟨rfl, rfl⟩
    go_wp2_with fail
    go_ret
    exact ⟨retB HR.out, Below.refl _ _⟩
  | true =>
    rw [h4] at HA
    by_cases hm0 : m = 0
    · subst hm0
      have HZ := Lib.hid (cg_zero (n := n) (by omega) (hashy_yes h2) (hashy_yes h3) h4)
      obtain ⟨Z, hZ⟩ : ∃ Z : ByteArray, Mk.root [] = Z.data.toList := ⟨⟨(Mk.root []).toArray⟩, rfl⟩
      have hZ2 : Dg.sha [] = Z.data.toList := by rw [← hZ, Mk.root_nil]
      have SZ := Lib.hid (root_to [] 0 rfl (by omega) (by simp) Z hZ none 0 0 0 w ⟨fun h => absurd h (by simp), fun j hj => absurd hj (by simp), fun h => absurd h (by simp), by simp⟩ hE)
      have hq := strEq old Z
      by_cases hz : old.data.toList = Z.data.toList
      case neg =>
        have hq1 : (old.toList == Z.toList) = false := by rw [hq]; simpa using hz
        have HR := Lib.hid (HZ.out.trans (show _ = false by rw [hZ2, show decide (old.data.toList = Z.data.toList) = false by simpa using hz]; rfl))
        clear hL hE hp h2 h3 h4 hZ hZ2 hq hz
        go_enter Tryd.func42, Tryd.ntmps42
        go_wp2_with fail
        refine (H2.out _).mono ?_
        rintro _ w1 ⟨rfl, rfl⟩
        go_wp2_with fail
        refine (H3.out _).mono ?_
        rintro _ w1 ⟨rfl, rfl⟩
        go_wp2_with fail
        refine (HA.out).mono ?_
        rintro _ w1 ⟨rfl, rfl⟩
        go_wp2_with fail
        refine SZ.out.mono ?_
        rintro _ w2 ⟨rfl, hb⟩
        have B2 := Lib.hid hb
        clear hb
        go_wp2_with fail
        go_ret
        exact ⟨retB HR.out, B2.out⟩
      case pos =>
        have hq1 : (old.toList == Z.toList) = true := by rw [hq]; simpa using hz
        by_cases hp0 : p = 0
        · subst hp0
          have HR := Lib.hid (HZ.out.trans (show _ = true by rw [hZ2, hp]; simpa using hz))
          clear hL hE hp h2 h3 h4 hZ hZ2 hq hz
          go_enter Tryd.func42, Tryd.ntmps42
          go_wp2_with fail
          refine (H2.out _).mono ?_
          rintro _ w1 ⟨rfl, rfl⟩
          go_wp2_with fail
          refine (H3.out _).mono ?_
          rintro _ w1 ⟨rfl, rfl⟩
          go_wp2_with fail
          refine (HA.out).mono ?_
          rintro _ w1 ⟨rfl, rfl⟩
          go_wp2_with fail
          refine SZ.out.mono ?_
          rintro _ w2 ⟨rfl, hb⟩
          have B2 := Lib.hid hb
          clear hb
          go_wp2_with fail
          go_ret
          exact ⟨retB HR.out, B2.out⟩
        · have HR := Lib.hid (HZ.out.trans (show _ = false by rw [hZ2, hp]; simp [hp0]))
          have p1 : (p : Int) ≠ 0 := by omega
          have p3 : ((p : Int) == 0) = false := by rw [beq_eq_false_iff_ne]; omega
          clear hL hE hp h2 h3 h4 hZ hZ2 hq hz
          go_enter Tryd.func42, Tryd.ntmps42
          go_wp2_with fail
          refine (H2.out _).mono ?_
          rintro _ w1 ⟨rfl, rfl⟩
          go_wp2_with fail
          refine (H3.out _).mono ?_
          rintro _ w1 ⟨rfl, rfl⟩
          go_wp2_with fail
          refine (HA.out).mono ?_
          rintro _ w1 ⟨rfl, rfl⟩
          go_wp2_with fail
          refine SZ.out.mono ?_
          rintro _ w2 ⟨rfl, hb⟩
          have B2 := Lib.hid hb
          clear hb
          go_wp2_with fail
          go_ret
          exact ⟨retB HR.out, B2.out⟩
    obtain ⟨j, rfl⟩ := Int.eq_ofNat_of_zero_le (by omega : 0 ≤ m)
    obtain ⟨g, rfl⟩ := Int.eq_ofNat_of_zero_le (by omega : 0 ≤ n)
    have e0 : ((j : Int) == 0) = false := by rw [beq_eq_false_iff_ne]; exact hm0
    have hq : ∀ x ∈ L.reverse, x.length = 32 := fun x hx => Mk.hashes_mem h4 x (by simpa using hx)
    have S := Lib.hid (rbg_any old h2 L.reverse p (by simp [hp]) hP hq j g (by omega) (by omega) (by omega) true xa b off cap w (by rw [List.reverse_reverse]; exact hL) hE)
    have HY := Lib.hid (cg_more (old := old.data.toList) (root := root.data.toList) (m := j) (n := g) (L := L) (by omega) (by omega) (hashy_yes h2) (hashy_yes h3) h4)
    cases hr : Mk.both old.data.toList L.reverse j g true with
    | none =>
      have HR := Lib.hid (HY.out.trans (show _ = false by rw [hr]; simp))
      rw [hr, Mk.res2_none rfl] at S
      clear hL hE hp h2 h3 h4 hr hq HY
      go_enter Tryd.func42, Tryd.ntmps42
      go_wp2_with fail
      refine (H2.out _).mono ?_
      rintro _ w1 ⟨rfl, rfl⟩
      go_wp2_with fail
      refine (H3.out _).mono ?_
      rintro _ w1 ⟨rfl, rfl⟩
      go_wp2_with fail
      refine (HA.out).mono ?_
      rintro _ w1 ⟨rfl, rfl⟩
      go_wp2_with fail
      refine S.out.mono ?_
      rintro _ w2 ⟨rfl, hb⟩
      have B2 := Lib.hid hb
      clear hb
      go_wp2_with fail
      go_ret
      exact ⟨retB HR.out, B2.out⟩
    | some r =>
      obtain ⟨R, T, hR⟩ := Mk.some_bytes2 hr
      rw [hR, Mk.res2_some rfl] at S
      have hs1 := strEq R old
      have hs2 := strEq T root
      by_cases c1 : R.data.toList = old.data.toList
      case neg =>
        have s1 : (R.toList == old.toList) = false := by rw [hs1]; simpa using c1
        have HR := Lib.hid (HY.out.trans (show _ = false by rw [hR]; simp only [decide_eq_false_iff_not, Option.some.injEq, Prod.mk.injEq]; exact fun h => c1 h.1))
        clear hL hE hp h2 h3 h4 hr hq HY hR hs1 hs2 c1
        go_enter Tryd.func42, Tryd.ntmps42
        go_wp2_with fail
        refine (H2.out _).mono ?_
        rintro _ w1 ⟨rfl, rfl⟩
        go_wp2_with fail
        refine (H3.out _).mono ?_
        rintro _ w1 ⟨rfl, rfl⟩
        go_wp2_with fail
        refine (HA.out).mono ?_
        rintro _ w1 ⟨rfl, rfl⟩
        go_wp2_with fail
        refine S.out.mono ?_
        rintro _ w2 ⟨rfl, hb⟩
        have B2 := Lib.hid hb
        clear hb
        go_wp2_with fail
        go_ret
        exact ⟨retB HR.out, B2.out⟩
      case pos =>
        have s1 : (R.toList == old.toList) = true := by rw [hs1]; simpa using c1
        by_cases c2 : T.data.toList = root.data.toList
        case neg =>
          have s2 : (T.toList == root.toList) = false := by rw [hs2]; simpa using c2
          have HR := Lib.hid (HY.out.trans (show _ = false by rw [hR]; simp only [decide_eq_false_iff_not, Option.some.injEq, Prod.mk.injEq]; exact fun h => c2 h.2))
          clear hL hE hp h2 h3 h4 hr hq HY hR hs1 hs2 c1 c2
          go_enter Tryd.func42, Tryd.ntmps42
          go_wp2_with fail
          refine (H2.out _).mono ?_
          rintro _ w1 ⟨rfl, rfl⟩
          go_wp2_with fail
          refine (H3.out _).mono ?_
          rintro _ w1 ⟨rfl, rfl⟩
          go_wp2_with fail
          refine (HA.out).mono ?_
          rintro _ w1 ⟨rfl, rfl⟩
          go_wp2_with fail
          refine S.out.mono ?_
          rintro _ w2 ⟨rfl, hb⟩
          have B2 := Lib.hid hb
          clear hb
          go_wp2_with fail
          go_ret
          exact ⟨retB HR.out, B2.out⟩
        case pos =>
          have s2 : (T.toList == root.toList) = true := by rw [hs2]; simpa using c2
          have HR := Lib.hid (HY.out.trans (show _ = true by rw [hR, c1, c2]; simp))
          clear hL hE hp h2 h3 h4 hr hq HY hR hs1 hs2 c1 c2
          go_enter Tryd.func42, Tryd.ntmps42
          go_wp2_with fail
          refine (H2.out _).mono ?_
          rintro _ w1 ⟨rfl, rfl⟩
          go_wp2_with fail
          refine (H3.out _).mono ?_
          rintro _ w1 ⟨rfl, rfl⟩
          go_wp2_with fail
          refine (HA.out).mono ?_
          rintro _ w1 ⟨rfl, rfl⟩
          go_wp2_with fail
          refine S.out.mono ?_
          rintro _ w2 ⟨rfl, hb⟩
          have B2 := Lib.hid hb
          clear hb
          go_wp2_with fail
          go_ret
          exact ⟨retB HR.out, B2.out⟩
end Go.Proofs.YteiabaddmclmlaaDoor
