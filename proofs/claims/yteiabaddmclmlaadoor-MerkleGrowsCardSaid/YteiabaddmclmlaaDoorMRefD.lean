/-
  The reference's Check, both and CheckGrown.
-/
import Derived.Test.YteiabaddmclmlaaDoorMRefB
import Derived.Test.YteiabaddmclmlaaDoorMBoth
namespace Go.Proofs.YteiabaddmclmlaaDoor
open Go Go.RowKit Go.Shelf
namespace Mk
theorem check_ok {root leaf : B} {n i : Nat} {L : List B} {R : B} {O : Bool} (hR : rby leaf L.reverse n i = R) (hO : okp L.reverse n i = O) : decide (by_ leaf L.reverse n i = some root) = (O && decide (R = root)) := by
  rw [by_eq, hR, hO]
  cases O <;> simp
end Mk
set_option maxHeartbeats 4000000 in
set_option maxRecDepth 100000 in
theorem rcheck_any (root leaf : ByteArray) (n i : Int) (hn : n ≤ 9223372036854775807) (L : List (List UInt8)) (p : Nat) (hp : L.length = p) (hP : p ≤ 1000000) (xa : Option Addr) (b off cap : Nat) (w : World) (hL : Lv w xa b off cap L) :
    Calls Tryd.prog 41 #[.string root, .int .i64 n, .int .i64 i, .string leaf, .slice xa p cap] w fun e w' => e = .returned (.bool (Mk.check root.data.toList leaf.data.toList n i L)) ∧ Below w.heap.size w w' := by
  have HA := Lib.hid (rhashes_any L p hp hP xa b off cap w hL)
  by_cases h0 : i < 0
  · have HR := Lib.hid (check_no (root := root.data.toList) (leaf := leaf.data.toList) (n := n) (L := L) (.inl h0))
    clear hL hp
    go_enter Tryd.func41, Tryd.ntmps41
    go_wp2_with fail
    go_ret
    exact ⟨retB HR.out, Below.refl _ _⟩
  by_cases h1 : n ≤ i
  · have HR := Lib.hid (check_no (root := root.data.toList) (leaf := leaf.data.toList) (L := L) (.inr (.inl h1)))
    have h1' : i ≥ n := h1
    clear hL hp
    go_enter Tryd.func41, Tryd.ntmps41
    go_wp2_with fail
    go_ret
    exact ⟨retB HR.out, Below.refl _ _⟩
  have h1' : ¬ i ≥ n := h1
  by_cases h2 : root.size = 32
  case neg =>
    have HR := Lib.hid (check_no (leaf := leaf.data.toList) (n := n) (i := i) (L := L) (.inr (.inr (.inl (hashy_no h2)))))
    have z1 : ((root.size : Int) != 32) = true := by rw [bne_iff_ne]; omega
    have z2 : (root.size : Int) ≠ 32 := by omega
    clear hL hp h2
    go_enter Tryd.func41, Tryd.ntmps41
    go_wp2_with fail
    go_ret
    exact ⟨retB HR.out, Below.refl _ _⟩
  have z1 : ((root.size : Int) != 32) = false := by rw [h2]; rfl
  have z2 : (root.size : Int) = 32 := by omega
  by_cases h3 : leaf.size = 32
  case neg =>
    have HR := Lib.hid (check_no (root := root.data.toList) (n := n) (i := i) (L := L) (.inr (.inr (.inr (.inl (hashy_no h3))))))
    have y1 : ((leaf.size : Int) != 32) = true := by rw [bne_iff_ne]; omega
    have y2 : (leaf.size : Int) ≠ 32 := by omega
    clear hL hp h2 h3
    go_enter Tryd.func41, Tryd.ntmps41
    go_wp2_with fail
    go_ret
    exact ⟨retB HR.out, Below.refl _ _⟩
  have y1 : ((leaf.size : Int) != 32) = false := by rw [h3]; rfl
  have y2 : (leaf.size : Int) = 32 := by omega
  cases h4 : Mk.hashes L with
  | false =>
    have HR := Lib.hid (check_no (root := root.data.toList) (leaf := leaf.data.toList) (n := n) (i := i) (L := L) (.inr (.inr (.inr (.inr h4)))))
    rw [h4] at HA
    clear hL hp h2 h3 h4
    go_enter Tryd.func41, Tryd.ntmps41
    go_wp2_with fail
    refine (HA.out).mono ?_
    rintro _ w1 ⟨rfl, rfl⟩
    go_wp2_with fail
    go_ret
    exact ⟨retB HR.out, Below.refl _ _⟩
  | true =>
    obtain ⟨j, rfl⟩ := Int.eq_ofNat_of_zero_le (by omega : 0 ≤ i)
    obtain ⟨g, rfl⟩ := Int.eq_ofNat_of_zero_le (by omega : 0 ≤ n)
    have hq : ∀ x ∈ L.reverse, x.length ≤ 40 := fun x hx => by have := Mk.hashes_mem h4 x (by simpa using hx); omega
    have S := Lib.hid (rby_any leaf (by omega) L.reverse p (by simp [hp]) hP hq g j (by omega) (by omega) xa b off cap w (by rw [List.reverse_reverse]; exact hL))
    have HY := Lib.hid (check_yes (root := root.data.toList) (leaf := leaf.data.toList) (n := g) (i := j) (L := L) (by omega) (hashy_yes h2) (hashy_yes h3) h4 rfl)
    rw [h4] at HA
    obtain ⟨R, hR⟩ : ∃ R : ByteArray, Mk.rby leaf.data.toList L.reverse g j = R.data.toList := ⟨⟨(Mk.rby leaf.data.toList L.reverse g j).toArray⟩, rfl⟩
    have hs := strEq R root
    cases hO : Mk.okp L.reverse g j with
    | false =>
      have HR := Lib.hid (HY.out.trans (show _ = false by rw [Mk.check_ok hR hO]; rfl))
      rw [hR, hO, encStr_to rfl] at S
      clear hL hp h2 h3 h4 hq HY hR hO hs
      go_enter Tryd.func41, Tryd.ntmps41
      go_wp2_with fail
      refine (HA.out).mono ?_
      rintro _ w1 ⟨rfl, rfl⟩
      go_wp2_with fail
      refine S.out.mono ?_
      rintro _ w2 ⟨rfl, hb⟩
      have B2 := Lib.hid hb
      clear hb
      go_wp2_with fail
      go_ret
      exact ⟨retB HR.out, B2.out⟩
    | true =>
      by_cases hE2 : R.data.toList = root.data.toList
      case pos =>
        have hs1 : (R.toList == root.toList) = true := by rw [hs]; simpa using hE2
        have HR := Lib.hid (HY.out.trans (show _ = true by rw [Mk.check_ok hR hO, hE2]; simp))
        rw [hR, hO, encStr_to rfl] at S
        clear hL hp h2 h3 h4 hq HY hR hO hs hE2
        go_enter Tryd.func41, Tryd.ntmps41
        go_wp2_with fail
        refine (HA.out).mono ?_
        rintro _ w1 ⟨rfl, rfl⟩
        go_wp2_with fail
        refine S.out.mono ?_
        rintro _ w2 ⟨rfl, hb⟩
        have B2 := Lib.hid hb
        clear hb
        go_wp2_with fail
        go_ret
        exact ⟨retB HR.out, B2.out⟩
      case neg =>
        have hs1 : (R.toList == root.toList) = false := by rw [hs]; simpa using hE2
        have HR := Lib.hid (HY.out.trans (show _ = false by rw [Mk.check_ok hR hO]; simpa using hE2))
        rw [hR, hO, encStr_to rfl] at S
        clear hL hp h2 h3 h4 hq HY hR hO hs hE2
        go_enter Tryd.func41, Tryd.ntmps41
        go_wp2_with fail
        refine (HA.out).mono ?_
        rintro _ w1 ⟨rfl, rfl⟩
        go_wp2_with fail
        refine S.out.mono ?_
        rintro _ w2 ⟨rfl, hb⟩
        have B2 := Lib.hid hb
        clear hb
        go_wp2_with fail
        go_ret
        exact ⟨retB HR.out, B2.out⟩
theorem ret_ssb {v u v2 u2 : Value} {a b : Bool} (h : u = v) (h1 : u2 = v2) (h2 : b = a) : Ending.returned (.tuple #[v, v2, .bool a]) = .returned (.tuple #[u, u2, .bool b]) := by rw [h, h1, h2]
theorem rboth_left {old x : List UInt8} {q : List (List UInt8)} {m n k : Nat} {known : Bool} (hk : Mk.split n = k) (hmn : m ≠ n) (hm : m ≤ k) : Mk.rboth old (x :: q) m n known = ((Mk.rboth old q m k known).1, Mk.join (Mk.rboth old q m k known).2 x) ∧ Mk.okb (x :: q) m n known = Mk.okb q m k known := by
  rw [Mk.rboth, if_neg hmn, hk, if_pos hm, Mk.okb, if_neg hmn, hk, if_pos hm]
  exact ⟨rfl, rfl⟩
theorem rboth_right {old x : List UInt8} {q : List (List UInt8)} {m n k : Nat} {known : Bool} (hk : Mk.split n = k) (hmn : m ≠ n) (hm : ¬ m ≤ k) : Mk.rboth old (x :: q) m n known = (Mk.join x (Mk.rboth old q (m - k) (n - k) false).1, Mk.join x (Mk.rboth old q (m - k) (n - k) false).2) ∧ Mk.okb (x :: q) m n known = Mk.okb q (m - k) (n - k) false := by
  rw [Mk.rboth, if_neg hmn, hk, if_neg hm, Mk.okb, if_neg hmn, hk, if_neg hm]
  exact ⟨rfl, rfl⟩
set_option maxHeartbeats 8000000 in
set_option maxRecDepth 100000 in
theorem rboth_any (old : ByteArray) (ho : old.size ≤ 40) : ∀ (q : List (List UInt8)) (p : Nat) (_ : q.length = p) (_ : p ≤ 1000000) (_ : ∀ x ∈ q, x.length ≤ 40) (m n : Nat) (_ : 0 < m) (_ : m ≤ n) (_ : n < 9223372036854775808) (known : Bool) (xa : Option Addr) (b off cap : Nat) (w : World) (_ : Lv w xa b off cap q.reverse),
    Calls Tryd.prog 69 #[.string old, .int .i64 (m : Int), .int .i64 (n : Int), .slice xa p cap, .bool known] w fun e w' => e = .returned (.tuple #[encStr (Mk.rboth old.data.toList q m n known).1, encStr (Mk.rboth old.data.toList q m n known).2, .bool (Mk.okb q m n known)]) ∧ Below w.heap.size w w' := by
  have hlf : encStr old.data.toList = .string old := encStr_to rfl
  intro q
  induction q with
  | nil =>
    intro p hp hP hq m n h0 hm hn known xa b off cap w hL
    obtain rfl : p = 0 := hp.symm
    by_cases hmn : m = n
    · subst hmn
      have e1 : ((m : Int) == (m : Int)) = true := by simp
      cases known with
      | true =>
        have HR := Lib.hid (show encStr (Mk.rboth old.data.toList [] m m true).1 = .string old ∧ encStr (Mk.rboth old.data.toList [] m m true).2 = .string old ∧ Mk.okb [] m m true = true from by rw [Mk.rboth, if_pos ⟨rfl, rfl⟩]; exact ⟨hlf, hlf, by simp [Mk.okb]⟩)
        clear hlf hL hp hq
        go_enter Tryd.func69, Tryd.ntmps69
        go_wp2_with fail
        refine bodyPost_ret (v := .tuple #[.string old, .string old, .bool true]) (by simp [results, Tryd.results69, go_sem]) rfl ⟨ret_ssb HR.out.1 HR.out.2.1 HR.out.2.2, Below.refl _ _⟩
      | false =>
        have HR := Lib.hid (show encStr (Mk.rboth old.data.toList [] m m false).1 = .string ⟨#[]⟩ ∧ encStr (Mk.rboth old.data.toList [] m m false).2 = .string ⟨#[]⟩ ∧ Mk.okb [] m m false = false from by rw [Mk.rboth, if_neg (by simp)]; exact ⟨rfl, rfl, by simp [Mk.okb]⟩)
        clear hlf hL hp hq
        go_enter Tryd.func69, Tryd.ntmps69
        go_wp2_with fail
        refine bodyPost_ret (v := .tuple #[.string ⟨#[]⟩, .string ⟨#[]⟩, .bool false]) (by simp [results, Tryd.results69, go_sem]) rfl ⟨ret_ssb HR.out.1 HR.out.2.1 HR.out.2.2, Below.refl _ _⟩
    · have e1 : ((m : Int) == (n : Int)) = false := by rw [beq_eq_false_iff_ne]; omega
      have e2 : (m : Int) ≠ (n : Int) := by omega
      have HR := Lib.hid (show encStr (Mk.rboth old.data.toList [] m n known).1 = .string ⟨#[]⟩ ∧ encStr (Mk.rboth old.data.toList [] m n known).2 = .string ⟨#[]⟩ ∧ Mk.okb [] m n known = false from by rw [Mk.rboth, if_neg (by omega)]; exact ⟨rfl, rfl, by simp [Mk.okb, hmn]⟩)
      clear hlf hL hp hq hmn
      go_enter Tryd.func69, Tryd.ntmps69
      go_wp2_with fail
      refine bodyPost_ret (v := .tuple #[.string ⟨#[]⟩, .string ⟨#[]⟩, .bool false]) (by simp [results, Tryd.results69, go_sem]) rfl ⟨ret_ssb HR.out.1 HR.out.2.1 HR.out.2.2, Below.refl _ _⟩
  | cons x q ih =>
    intro p hp hP hq m n h0 hm hn known xa b off cap w hL
    have hpq : q.length + 1 = p := hp
    obtain ⟨d, hd⟩ : ∃ d, p - 1 = d := ⟨_, rfl⟩
    have hqd : q.length = d := by omega
    have p1 : p ≠ 0 := by omega
    have p2 : (p : Int) ≠ 0 := by omega
    have p3 : ((p : Int) == 0) = false := by rw [beq_eq_false_iff_ne]; omega
    have IH := Lib.hid ih
    have HL := Lib.hid hL
    obtain rfl := hL.at_ (by simp)
    obtain ⟨X, hX⟩ : ∃ X : ByteArray, encStr x = .string X := ⟨_, rfl⟩
    obtain ⟨hX1, hX2⟩ := encStr_size hX
    have hX3 : X.size ≤ 40 := by rw [hX2]; exact hq x (by simp)
    have hrev : (x :: q).reverse = q.reverse ++ [x] := List.reverse_cons
    have hlast : (x :: q).reverse.getD d [] = x := by rw [hrev, List.getD_eq_getElem?_getD, List.getElem?_append_right (by simp; omega)]; simp [hqd]
    have htake : (x :: q).reverse.take d = q.reverse := by rw [hrev, List.take_left' (by simp [hqd])]
    have hq' : ∀ z ∈ q, z.length ≤ 40 := fun z hz => hq z (by simp [hz])
    have c := HL.out.cell d (by simp; omega)
    rw [hlast, hX] at c
    have hcap := HL.out.le
    have hcap2 : p ≤ cap := by simp at hcap; omega
    have m1 : (p : Int) - 1 = (d : Int) := by omega
    have m2 : IntKind.i64.wrap ((p : Int) - 1) = (d : Int) := by rw [IntWalk.i64_in _ (by omega)]; omega
    have m3 : (d : Int) < (p : Int) := by omega
    have m4 : (d : Int) ≤ (cap : Int) := by omega
    have m5 : d < p := by omega
    have m6 : d ≤ cap := by omega
    have HT : Hid (Lv w (some ⟨b, off, none⟩) b off cap q.reverse) := by
      have := HL.out.take d
      rw [htake] at this
      exact Lib.hid this
    by_cases hmn : m = n
    · subst hmn
      have e1 : ((m : Int) == (m : Int)) = true := by simp
      cases known with
      | true =>
        have HR := Lib.hid (show encStr (Mk.rboth old.data.toList (x :: q) m m true).1 = .string old ∧ encStr (Mk.rboth old.data.toList (x :: q) m m true).2 = .string old ∧ Mk.okb (x :: q) m m true = false from by rw [Mk.rboth, if_pos rfl, if_pos rfl]; exact ⟨hlf, hlf, by simp [Mk.okb]⟩)
        clear ih hL hp hpq hd hX hX1 hX2 hX3 hrev hlast htake hq hq' hqd hlf hcap
        go_enter Tryd.func69, Tryd.ntmps69
        go_wp2_with fail
        refine bodyPost_ret (v := .tuple #[.string old, .string old, .bool false]) (by simp [results, Tryd.results69, go_sem]) rfl ⟨ret_ssb HR.out.1 HR.out.2.1 HR.out.2.2, Below.refl _ _⟩
      | false =>
        obtain ⟨O, hO⟩ : ∃ O, decide (d = 0) = O := ⟨_, rfl⟩
        have hq0 : ((d : Int) == 0) = O := by rw [← hO, Bool.eq_iff_iff]; simp
        have HR := Lib.hid (show encStr (Mk.rboth old.data.toList (x :: q) m m false).1 = .string X ∧ encStr (Mk.rboth old.data.toList (x :: q) m m false).2 = .string X ∧ Mk.okb (x :: q) m m false = O from by rw [Mk.rboth, if_pos rfl, if_neg (by simp)]; exact ⟨hX, hX, by rw [Mk.okb, if_pos rfl, ← hO, ← hqd]; cases q <;> simp⟩)
        clear ih hL hp hpq hd hX hX1 hX2 hX3 hrev hlast htake hq hq' hqd hlf hcap hO
        go_enter Tryd.func69, Tryd.ntmps69
        go_wp2_with fail
        refine bodyPost_ret (v := .tuple #[.string X, .string X, .bool O]) (by simp [results, Tryd.results69, go_sem]) rfl ⟨ret_ssb HR.out.1 HR.out.2.1 HR.out.2.2, Below.refl _ _⟩
    have e1 : ((m : Int) == (n : Int)) = false := by rw [beq_eq_false_iff_ne]; omega
    have e2 : (m : Int) ≠ (n : Int) := by omega
    have h2 : 2 ≤ n := by omega
    have hk1 := Mk.split_lt h2
    have hk0 := Mk.split_pos n
    have HK := Lib.hid (fun w' : World => rsplit_any n h2 hn w')
    obtain ⟨k, hk⟩ : ∃ k, Mk.split n = k := ⟨_, rfl⟩
    rw [hk] at hk0 hk1 HK
    by_cases hmk : m ≤ k
    · have hmki : (m : Int) ≤ (k : Int) := by omega
      have hby := rboth_left (old := old.data.toList) (x := x) (q := q) (known := known) hk hmn hmk
      have hrl := Mk.rboth_len (old := old.data.toList) (by rw [← Lib.size_eq]; exact ho) q m k known hq'
      have S := Lib.hid (IH.out d hqd (by omega) hq' m k h0 hmk (by omega) known _ b off cap w HT.out)
      obtain ⟨R, hR⟩ : ∃ R : ByteArray, (Mk.rboth old.data.toList q m k known).1 = R.data.toList := ⟨⟨(Mk.rboth old.data.toList q m k known).1.toArray⟩, rfl⟩
      obtain ⟨T, hT⟩ : ∃ R : ByteArray, (Mk.rboth old.data.toList q m k known).2 = R.data.toList := ⟨⟨(Mk.rboth old.data.toList q m k known).2.toArray⟩, rfl⟩
      obtain ⟨O, hO⟩ : ∃ O, Mk.okb q m k known = O := ⟨_, rfl⟩
      rw [hR, hT, ← Lib.size_eq, ← Lib.size_eq] at hrl
      obtain ⟨hrl1, hrl2⟩ := hrl
      rw [hR, hT, hO, encStr_to rfl, encStr_to rfl] at S
      obtain ⟨J, hJ⟩ : ∃ J : ByteArray, Mk.join T.data.toList X.data.toList = J.data.toList := ⟨⟨(Mk.join T.data.toList X.data.toList).toArray⟩, rfl⟩
      rw [hR, hT, hX1, hJ, hO] at hby
      have HR := Lib.hid (show encStr (Mk.rboth old.data.toList (x :: q) m n known).1 = .string R ∧ encStr (Mk.rboth old.data.toList (x :: q) m n known).2 = .string J ∧ Mk.okb (x :: q) m n known = O from by rw [hX1, hby.1]; exact ⟨encStr_to rfl, encStr_to rfl, hby.2⟩)
      have SJ := Lib.hid (fun w5 => rjoin_to T X J (by omega) (by omega) hJ w5)
      clear ih hL hp hpq hd hX hX1 hX2 hX3 hrev hlast htake hq hq' hqd hk hby hR hT hO hrl1 hrl2 hJ hlf hcap hmn
      go_enter Tryd.func69, Tryd.ntmps69
      go_wp2_with fail
      refine (HK.out _).mono ?_
      rintro _ w2 ⟨rfl, rfl⟩
      go_wp2_with fail
      refine S.out.mono ?_
      rintro _ w3 ⟨rfl, hb3⟩
      have B3 := Lib.hid hb3
      clear hb3
      go_wp2_with fail
      refine (SJ.out _).mono ?_
      rintro _ w4 ⟨rfl, hb4⟩
      have B4 := Lib.hid (B3.out.trans (hb4.mono B3.out.size))
      clear hb4
      go_wp2_with fail
      refine bodyPost_ret (v := .tuple #[.string R, .string J, .bool O]) (by simp [results, Tryd.results69, go_sem]) rfl ⟨ret_ssb HR.out.1 HR.out.2.1 HR.out.2.2, B4.out⟩
    · have hmki : ¬ (m : Int) ≤ (k : Int) := by omega
      have hby := rboth_right (old := old.data.toList) (x := x) (q := q) (known := known) hk hmn hmk
      obtain ⟨j, hj⟩ : ∃ j, m - k = j := ⟨_, rfl⟩
      obtain ⟨g, hg⟩ : ∃ g, n - k = g := ⟨_, rfl⟩
      rw [hj, hg] at hby
      have j1 : (m : Int) - (k : Int) = (j : Int) := by omega
      have j2 : IntKind.i64.wrap ((m : Int) - (k : Int)) = (j : Int) := by rw [IntWalk.i64_in _ (by omega)]; omega
      have j3 : IntKind.i64.wrap (j : Int) = (j : Int) := IntWalk.i64_in _ (by omega)
      have g1 : (n : Int) - (k : Int) = (g : Int) := by omega
      have g2 : IntKind.i64.wrap ((n : Int) - (k : Int)) = (g : Int) := by rw [IntWalk.i64_in _ (by omega)]; omega
      have g3 : IntKind.i64.wrap (g : Int) = (g : Int) := IntWalk.i64_in _ (by omega)
      have hrl := Mk.rboth_len (old := old.data.toList) (by rw [← Lib.size_eq]; exact ho) q j g false hq'
      have S := Lib.hid (IH.out d hqd (by omega) hq' j g (by omega) (by omega) (by omega) false _ b off cap w HT.out)
      obtain ⟨R, hR⟩ : ∃ R : ByteArray, (Mk.rboth old.data.toList q j g false).1 = R.data.toList := ⟨⟨(Mk.rboth old.data.toList q j g false).1.toArray⟩, rfl⟩
      obtain ⟨T, hT⟩ : ∃ R : ByteArray, (Mk.rboth old.data.toList q j g false).2 = R.data.toList := ⟨⟨(Mk.rboth old.data.toList q j g false).2.toArray⟩, rfl⟩
      obtain ⟨O, hO⟩ : ∃ O, Mk.okb q j g false = O := ⟨_, rfl⟩
      rw [hR, hT, ← Lib.size_eq, ← Lib.size_eq] at hrl
      obtain ⟨hrl1, hrl2⟩ := hrl
      rw [hR, hT, hO, encStr_to rfl, encStr_to rfl] at S
      obtain ⟨I, hI⟩ : ∃ J : ByteArray, Mk.join X.data.toList R.data.toList = J.data.toList := ⟨⟨(Mk.join X.data.toList R.data.toList).toArray⟩, rfl⟩
      obtain ⟨J, hJ⟩ : ∃ J : ByteArray, Mk.join X.data.toList T.data.toList = J.data.toList := ⟨⟨(Mk.join X.data.toList T.data.toList).toArray⟩, rfl⟩
      rw [hR, hT, hX1, hI, hJ, hO] at hby
      have HR := Lib.hid (show encStr (Mk.rboth old.data.toList (x :: q) m n known).1 = .string I ∧ encStr (Mk.rboth old.data.toList (x :: q) m n known).2 = .string J ∧ Mk.okb (x :: q) m n known = O from by rw [hX1, hby.1]; exact ⟨encStr_to rfl, encStr_to rfl, hby.2⟩)
      have SI := Lib.hid (fun w5 => rjoin_to X R I (by omega) (by omega) hI w5)
      have SJ := Lib.hid (fun w5 => rjoin_to X T J (by omega) (by omega) hJ w5)
      clear ih hL hp hpq hd hX hX1 hX2 hX3 hrev hlast htake hq hq' hqd hk hby hR hT hO hrl1 hrl2 hJ hI hlf hcap hmn hj hg
      go_enter Tryd.func69, Tryd.ntmps69
      go_wp2_with fail
      refine (HK.out _).mono ?_
      rintro _ w2 ⟨rfl, rfl⟩
      go_wp2_with fail
      refine S.out.mono ?_
      rintro _ w3 ⟨rfl, hb3⟩
      have B3 := Lib.hid hb3
      clear hb3
      go_wp2_with fail
      refine (SI.out _).mono ?_
      rintro _ w4 ⟨rfl, hb4⟩
      have B4 := Lib.hid (B3.out.trans (hb4.mono B3.out.size))
      clear hb4
      go_wp2_with fail
      refine (SJ.out _).mono ?_
      rintro _ w5 ⟨rfl, hb5⟩
      have B5 := Lib.hid (B4.out.trans (hb5.mono B4.out.size))
      clear hb5
      go_wp2_with fail
      refine bodyPost_ret (v := .tuple #[.string I, .string J, .bool O]) (by simp [results, Tryd.results69, go_sem]) rfl ⟨ret_ssb HR.out.1 HR.out.2.1 HR.out.2.2, B5.out⟩
theorem both_ok {old root R T : List UInt8} {m n : Nat} {L : List (List UInt8)} {O : Bool} (hR : (Mk.rboth old L.reverse m n true).1 = R) (hT : (Mk.rboth old L.reverse m n true).2 = T) (hO : Mk.okb L.reverse m n true = O) : decide (Mk.both old L.reverse m n true = some (old, root)) = (O && (decide (R = old) && decide (T = root))) := by
  rw [Mk.both_eq, hO]
  cases O
  · simp
  · rw [if_pos rfl, Bool.eq_iff_iff]
    simp [← hR, ← hT, Prod.ext_iff]
set_option maxHeartbeats 8000000 in
set_option maxRecDepth 100000 in
theorem rcheckGrown_any (old root : ByteArray) (m n : Int) (hn : n ≤ 9223372036854775807) (L : List (List UInt8)) (p : Nat) (hp : L.length = p) (hP : p ≤ 1000000) (xa : Option Addr) (b off cap : Nat) (w : World) (hL : Lv w xa b off cap L) :
    Calls Tryd.prog 43 #[.string old, .int .i64 m, .string root, .int .i64 n, .slice xa p cap] w fun e w' => e = .returned (.bool (Mk.checkGrown old.data.toList root.data.toList m n L)) ∧ Below w.heap.size w w' := by
  have HA := Lib.hid (rhashes_any L p hp hP xa b off cap w hL)
  by_cases h0 : m < 0
  · have HR := Lib.hid (cg_no (old := old.data.toList) (root := root.data.toList) (n := n) (L := L) (.inl h0))
    clear hL hp
    go_enter Tryd.func43, Tryd.ntmps43
    go_wp2_with fail
    go_ret
    exact ⟨retB HR.out, Below.refl _ _⟩
  by_cases h1 : n < m
  · have HR := Lib.hid (cg_no (old := old.data.toList) (root := root.data.toList) (m := m) (n := n) (L := L) (.inr (.inl h1)))
    have h1' : m > n := h1
    clear hL hp
    go_enter Tryd.func43, Tryd.ntmps43
    go_wp2_with fail
    go_ret
    exact ⟨retB HR.out, Below.refl _ _⟩
  have h1' : ¬ m > n := h1
  by_cases h2 : old.size = 32
  case neg =>
    have HR := Lib.hid (cg_no (root := root.data.toList) (m := m) (n := n) (L := L) (.inr (.inr (.inl (hashy_no h2)))))
    have z1 : ((old.size : Int) != 32) = true := by rw [bne_iff_ne]; omega
    have z2 : (old.size : Int) ≠ 32 := by omega
    clear hL hp h2
    go_enter Tryd.func43, Tryd.ntmps43
    go_wp2_with fail
    go_ret
    exact ⟨retB HR.out, Below.refl _ _⟩
  have z1 : ((old.size : Int) != 32) = false := by rw [h2]; rfl
  have z2 : (old.size : Int) = 32 := by omega
  by_cases h3 : root.size = 32
  case neg =>
    have HR := Lib.hid (cg_no (old := old.data.toList) (m := m) (n := n) (L := L) (.inr (.inr (.inr (.inl (hashy_no h3))))))
    have y1 : ((root.size : Int) != 32) = true := by rw [bne_iff_ne]; omega
    have y2 : (root.size : Int) ≠ 32 := by omega
    clear hL hp h2 h3
    go_enter Tryd.func43, Tryd.ntmps43
    go_wp2_with fail
    go_ret
    exact ⟨retB HR.out, Below.refl _ _⟩
  have y1 : ((root.size : Int) != 32) = false := by rw [h3]; rfl
  have y2 : (root.size : Int) = 32 := by omega
  cases h4 : Mk.hashes L with
  | false =>
    have HR := Lib.hid (cg_no (old := old.data.toList) (root := root.data.toList) (m := m) (n := n) (L := L) (.inr (.inr (.inr (.inr h4)))))
    rw [h4] at HA
    clear hL hp h2 h3 h4
    go_enter Tryd.func43, Tryd.ntmps43
    go_wp2_with fail
    refine (HA.out).mono ?_
    rintro _ w1 ⟨rfl, rfl⟩
    go_wp2_with fail
    go_ret
    exact ⟨retB HR.out, Below.refl _ _⟩
  | true =>
    rw [h4] at HA
    by_cases hm0 : m = 0
    · subst hm0
      have HZ := Lib.hid (cg_zero (n := n) (by omega) (hashy_yes h2) (hashy_yes h3) h4)
      obtain ⟨Z, hZ⟩ : ∃ Z : ByteArray, Dg.sha [] = Z.data.toList := ⟨⟨(Dg.sha []).toArray⟩, rfl⟩
      have SZ := Lib.hid (rsum_to rsum ⟨#[]⟩ (by decide) Z hZ w)
      have hq := strEq old Z
      by_cases hz : old.data.toList = Z.data.toList
      case neg =>
        have hq1 : (old.toList == Z.toList) = false := by rw [hq]; simpa using hz
        have HR := Lib.hid (HZ.out.trans (show _ = false by rw [hZ, show decide (old.data.toList = Z.data.toList) = false by simpa using hz]; rfl))
        clear hL hp h2 h3 h4 hZ hq hz
        go_enter Tryd.func43, Tryd.ntmps43
        go_wp2_with fail
        refine (HA.out).mono ?_
        rintro _ w1 ⟨rfl, rfl⟩
        go_wp2_with fail
        refine SZ.out.mono ?_
        rintro _ w2 ⟨rfl, hb⟩
        have B2 := Lib.hid hb
        clear hb
        go_wp2_with fail
        go_ret
        exact ⟨retB HR.out, B2.out⟩
      case pos =>
        have hq1 : (old.toList == Z.toList) = true := by rw [hq]; simpa using hz
        by_cases hp0 : p = 0
        · subst hp0
          have HR := Lib.hid (HZ.out.trans (show _ = true by rw [hZ, hp]; simpa using hz))
          clear hL hp h2 h3 h4 hZ hq hz
          go_enter Tryd.func43, Tryd.ntmps43
          go_wp2_with fail
          refine (HA.out).mono ?_
          rintro _ w1 ⟨rfl, rfl⟩
          go_wp2_with fail
          refine SZ.out.mono ?_
          rintro _ w2 ⟨rfl, hb⟩
          have B2 := Lib.hid hb
          clear hb
          go_wp2_with fail
          go_ret
          exact ⟨retB HR.out, B2.out⟩
        · have HR := Lib.hid (HZ.out.trans (show _ = false by rw [hZ, hp]; simp [hp0]))
          have p1 : (p : Int) ≠ 0 := by omega
          have p3 : ((p : Int) == 0) = false := by rw [beq_eq_false_iff_ne]; omega
          clear hL hp h2 h3 h4 hZ hq hz
          go_enter Tryd.func43, Tryd.ntmps43
          go_wp2_with fail
          refine (HA.out).mono ?_
          rintro _ w1 ⟨rfl, rfl⟩
          go_wp2_with fail
          refine SZ.out.mono ?_
          rintro _ w2 ⟨rfl, hb⟩
          have B2 := Lib.hid hb
          clear hb
          go_wp2_with fail
          go_ret
          exact ⟨retB HR.out, B2.out⟩
    obtain ⟨j, rfl⟩ := Int.eq_ofNat_of_zero_le (by omega : 0 ≤ m)
    obtain ⟨g, rfl⟩ := Int.eq_ofNat_of_zero_le (by omega : 0 ≤ n)
    have e0 : ((j : Int) == 0) = false := by rw [beq_eq_false_iff_ne]; exact hm0
    have hq : ∀ x ∈ L.reverse, x.length ≤ 40 := fun x hx => by have := Mk.hashes_mem h4 x (by simpa using hx); omega
    have S := Lib.hid (rboth_any old (by omega) L.reverse p (by simp [hp]) hP hq j g (by omega) (by omega) (by omega) true xa b off cap w (by rw [List.reverse_reverse]; exact hL))
    have HY := Lib.hid (cg_more (old := old.data.toList) (root := root.data.toList) (m := j) (n := g) (L := L) (by omega) (by omega) (hashy_yes h2) (hashy_yes h3) h4)
    obtain ⟨R, hR⟩ : ∃ R : ByteArray, (Mk.rboth old.data.toList L.reverse j g true).1 = R.data.toList := ⟨⟨(Mk.rboth old.data.toList L.reverse j g true).1.toArray⟩, rfl⟩
    obtain ⟨T, hT⟩ : ∃ R : ByteArray, (Mk.rboth old.data.toList L.reverse j g true).2 = R.data.toList := ⟨⟨(Mk.rboth old.data.toList L.reverse j g true).2.toArray⟩, rfl⟩
    have hs1 := strEq R old
    have hs2 := strEq T root
    cases hO : Mk.okb L.reverse j g true with
    | false =>
      have HR := Lib.hid (HY.out.trans (show _ = false by rw [both_ok hR hT hO]; rfl))
      rw [hR, hT, hO, encStr_to rfl, encStr_to rfl] at S
      clear hL hp h2 h3 h4 hq HY hR hT hO hs1 hs2
      go_enter Tryd.func43, Tryd.ntmps43
      go_wp2_with fail
      refine (HA.out).mono ?_
      rintro _ w1 ⟨rfl, rfl⟩
      go_wp2_with fail
      refine S.out.mono ?_
      rintro _ w2 ⟨rfl, hb⟩
      have B2 := Lib.hid hb
      clear hb
      go_wp2_with fail
      go_ret
      exact ⟨retB HR.out, B2.out⟩
    | true =>
      by_cases c1 : R.data.toList = old.data.toList
      case neg =>
        have s1 : (R.toList == old.toList) = false := by rw [hs1]; simpa using c1
        have HR := Lib.hid (HY.out.trans (show _ = false by rw [both_ok hR hT hO, show decide (R.data.toList = old.data.toList) = false by simpa using c1]; rfl))
        rw [hR, hT, hO, encStr_to rfl, encStr_to rfl] at S
        clear hL hp h2 h3 h4 hq HY hR hT hO hs1 hs2 c1
        go_enter Tryd.func43, Tryd.ntmps43
        go_wp2_with fail
        refine (HA.out).mono ?_
        rintro _ w1 ⟨rfl, rfl⟩
        go_wp2_with fail
        refine S.out.mono ?_
        rintro _ w2 ⟨rfl, hb⟩
        have B2 := Lib.hid hb
        clear hb
        go_wp2_with fail
        go_ret
        exact ⟨retB HR.out, B2.out⟩
      case pos =>
        have s1 : (R.toList == old.toList) = true := by rw [hs1]; simpa using c1
        by_cases c2 : T.data.toList = root.data.toList
        case neg =>
          have s2 : (T.toList == root.toList) = false := by rw [hs2]; simpa using c2
          have HR := Lib.hid (HY.out.trans (show _ = false by rw [both_ok hR hT hO, show decide (T.data.toList = root.data.toList) = false by simpa using c2]; simp))
          rw [hR, hT, hO, encStr_to rfl, encStr_to rfl] at S
          clear hL hp h2 h3 h4 hq HY hR hT hO hs1 hs2 c1 c2
          go_enter Tryd.func43, Tryd.ntmps43
          go_wp2_with fail
          refine (HA.out).mono ?_
          rintro _ w1 ⟨rfl, rfl⟩
          go_wp2_with fail
          refine S.out.mono ?_
          rintro _ w2 ⟨rfl, hb⟩
          have B2 := Lib.hid hb
          clear hb
          go_wp2_with fail
          go_ret
          exact ⟨retB HR.out, B2.out⟩
        case pos =>
          have s2 : (T.toList == root.toList) = true := by rw [hs2]; simpa using c2
          have HR := Lib.hid (HY.out.trans (show _ = true by rw [both_ok hR hT hO, c1, c2]; simp))
          rw [hR, hT, hO, encStr_to rfl, encStr_to rfl] at S
          clear hL hp h2 h3 h4 hq HY hR hT hO hs1 hs2 c1 c2
          go_enter Tryd.func43, Tryd.ntmps43
          go_wp2_with fail
          refine (HA.out).mono ?_
          rintro _ w1 ⟨rfl, rfl⟩
          go_wp2_with fail
          refine S.out.mono ?_
          rintro _ w2 ⟨rfl, hb⟩
          have B2 := Lib.hid hb
          clear hb
          go_wp2_with fail
          go_ret
          exact ⟨retB HR.out, B2.out⟩
end Go.Proofs.YteiabaddmclmlaaDoor
