/-
  The reference's Split and by.
-/
import Derived.Test.YteiabaddmclmlaaDoorMHash
namespace Go.Proofs.YteiabaddmclmlaaDoor
open Go Go.RowKit Go.Shelf
set_option maxHeartbeats 1000000 in
set_option maxRecDepth 100000 in
theorem rsplit_any (n : Nat) (h0 : 2 ≤ n) (h1 : n < 9223372036854775808) (w : World) :
    Calls Tryd.prog 60 #[.int .i64 (n : Int)] w fun e w' => e = .returned (.int .i64 (Mk.split n : Int)) ∧ w' = w := by
  go_enter Tryd.func60, Tryd.ntmps60
  go_wp2
  go_loop [3] (fun k => ∃ j : Nat, k = .int .i64 ((2 ^ j : Nat) : Int) ∧ 2 ^ j < n) (fun k => n - (intOf k).toNat)
  case atStart => exact ⟨0, rfl, by simp; omega⟩
  case round =>
    obtain ⟨j, rfl, hk⟩ := hrel
    have hs : ¬ 2 ^ j < n - 2 ^ j → Mk.split n = 2 ^ j := fun h => Mk.split_eq hk (by omega)
    have hn : 2 ^ (j + 1) = 2 * 2 ^ j := by rw [Nat.pow_succ]; omega
    have h2 := Nat.two_pow_pos j
    have HN := Lib.hid hn
    have HS := Lib.hid hs
    clear hn hs
    generalize 2 ^ j = K at *
    by_cases hlt : K < n - K
    · have a1 : (K : Int) < (n : Int) - (K : Int) := by omega
      go_wp2
      go_round
      case rel => exact ⟨j + 1, by rw [HN.out]; go_num, by rw [HN.out]; omega⟩
      case measure => simp [intOf]; omega
    · have a1 : ¬ (K : Int) < (n : Int) - (K : Int) := by omega
      have hK := Lib.hid (HS.out hlt)
      go_wp2
      go_ret
      exact ⟨ret_int (by rw [hK.out]), rfl⟩
theorem rby_left {leaf x : List UInt8} {q : List (List UInt8)} {n i k : Nat} (hk : Mk.split n = k) (h2 : 2 ≤ n) (hi : i < k) : Mk.rby leaf (x :: q) n i = Mk.join (Mk.rby leaf q k i) x ∧ Mk.okp (x :: q) n i = Mk.okp q k i := by
  rw [Mk.rby, if_neg (by omega), hk, if_pos hi, Mk.okp, if_neg (by omega), hk, if_pos hi]
  exact ⟨rfl, rfl⟩
theorem rby_right {leaf x : List UInt8} {q : List (List UInt8)} {n i k : Nat} (hk : Mk.split n = k) (h2 : 2 ≤ n) (hi : ¬ i < k) : Mk.rby leaf (x :: q) n i = Mk.join x (Mk.rby leaf q (n - k) (i - k)) ∧ Mk.okp (x :: q) n i = Mk.okp q (n - k) (i - k) := by
  rw [Mk.rby, if_neg (by omega), hk, if_neg hi, Mk.okp, if_neg (by omega), hk, if_neg hi]
  exact ⟨rfl, rfl⟩
set_option maxHeartbeats 8000000 in
set_option maxRecDepth 100000 in
theorem rby_any (leaf : ByteArray) (hl : leaf.size ≤ 40) : ∀ (q : List (List UInt8)) (p : Nat) (_ : q.length = p) (_ : p ≤ 1000000) (_ : ∀ x ∈ q, x.length ≤ 40) (n i : Nat) (_ : i < n) (_ : n < 9223372036854775808) (xa : Option Addr) (b off cap : Nat) (w : World) (_ : Lv w xa b off cap q.reverse),
    Calls Tryd.prog 67 #[.int .i64 (n : Int), .int .i64 (i : Int), .string leaf, .slice xa p cap] w fun e w' => e = .returned (.tuple #[encStr (Mk.rby leaf.data.toList q n i), .bool (Mk.okp q n i)]) ∧ Below w.heap.size w w' := by
  have hlf : encStr leaf.data.toList = .string leaf := encStr_to rfl
  intro q
  induction q with
  | nil =>
    intro p hp hP hq n i hi hn xa b off cap w hL
    obtain rfl : p = 0 := hp.symm
    by_cases h1 : n = 1
    · subst h1
      have HR := Lib.hid (show encStr (Mk.rby leaf.data.toList [] 1 i) = .string leaf ∧ Mk.okp [] 1 i = true from ⟨hlf, rfl⟩)
      clear hlf hL hp hq
      go_enter Tryd.func67, Tryd.ntmps67
      go_wp2_with fail
      go_ret2
      exact ⟨ret_sb HR.out.1 HR.out.2, Below.refl _ _⟩
    · have HR := Lib.hid (show encStr (Mk.rby leaf.data.toList [] n i) = .string leaf ∧ Mk.okp [] n i = false from ⟨hlf, by unfold Mk.okp; simpa using h1⟩)
      have d1 : (n : Int) ≠ 1 := by omega
      clear hlf hL hp hq
      go_enter Tryd.func67, Tryd.ntmps67
      go_wp2_with fail
      go_ret2
      exact ⟨ret_sb HR.out.1 HR.out.2, Below.refl _ _⟩
  | cons x q ih =>
    intro p hp hP hq n i hi hn xa b off cap w hL
    have hpq : q.length + 1 = p := hp
    obtain ⟨m, hm⟩ : ∃ m, p - 1 = m := ⟨_, rfl⟩
    have hqm : q.length = m := by omega
    have p1 : p ≠ 0 := by omega
    have p2 : (p : Int) ≠ 0 := by omega
    have p3 : ((p : Int) == 0) = false := by rw [beq_eq_false_iff_ne]; omega
    by_cases h1 : n = 1
    · subst h1
      have HR := Lib.hid (show encStr (Mk.rby leaf.data.toList (x :: q) 1 i) = .string leaf ∧ Mk.okp (x :: q) 1 i = false from ⟨by unfold Mk.rby; rw [if_pos rfl]; exact hlf, by unfold Mk.okp; rw [if_pos rfl]⟩)
      clear ih hp hpq hm hqm hq hL hlf
      go_enter Tryd.func67, Tryd.ntmps67
      go_wp2_with fail
      go_ret2
      exact ⟨ret_sb HR.out.1 HR.out.2, Below.refl _ _⟩
    have h2 : 2 ≤ n := by omega
    have IH := Lib.hid ih
    have HL := Lib.hid hL
    obtain rfl := hL.at_ (by simp)
    obtain ⟨X, hX⟩ : ∃ X : ByteArray, encStr x = .string X := ⟨_, rfl⟩
    obtain ⟨hX1, hX2⟩ := encStr_size hX
    have hX3 : X.size ≤ 40 := by rw [hX2]; exact hq x (by simp)
    have hrev : (x :: q).reverse = q.reverse ++ [x] := List.reverse_cons
    have hlast : (x :: q).reverse.getD m [] = x := by rw [hrev, List.getD_eq_getElem?_getD, List.getElem?_append_right (by simp; omega)]; simp [hqm]
    have htake : (x :: q).reverse.take m = q.reverse := by rw [hrev, List.take_left' (by simp [hqm])]
    have hq' : ∀ z ∈ q, z.length ≤ 40 := fun z hz => hq z (by simp [hz])
    have c := HL.out.cell m (by simp; omega)
    rw [hlast, hX] at c
    have hcap := HL.out.le
    have hcap2 : p ≤ cap := by simp at hcap; omega
    have m1 : (p : Int) - 1 = (m : Int) := by omega
    have m2 : IntKind.i64.wrap ((p : Int) - 1) = (m : Int) := by rw [IntWalk.i64_in _ (by omega)]; omega
    have m3 : (m : Int) < (p : Int) := by omega
    have m4 : (m : Int) ≤ (cap : Int) := by omega
    have m5 : m < p := by omega
    have m6 : m ≤ cap := by omega
    have HT : Hid (Lv w (some ⟨b, off, none⟩) b off cap q.reverse) := by
      have := HL.out.take m
      rw [htake] at this
      exact Lib.hid this
    have hk1 := Mk.split_lt h2
    have hk0 := Mk.split_pos n
    have HK := Lib.hid (fun w' : World => rsplit_any n h2 hn w')
    obtain ⟨k, hk⟩ : ∃ k, Mk.split n = k := ⟨_, rfl⟩
    rw [hk] at hk0 hk1 HK
    have d1 : (n : Int) ≠ 1 := by omega
    have d2 : ((n : Int) == 1) = false := by rw [beq_eq_false_iff_ne]; omega
    by_cases hik : i < k
    · have hiki : (i : Int) < (k : Int) := by omega
      have hby := rby_left (leaf := leaf.data.toList) (x := x) (q := q) hk h2 hik
      have hrl := Mk.rby_len (leaf := leaf.data.toList) (by rw [← Lib.size_eq]; exact hl) q k i
      have S := Lib.hid (IH.out m hqm (by omega) hq' k i hik (by omega) _ b off cap w HT.out)
      obtain ⟨R, hR⟩ : ∃ R : ByteArray, Mk.rby leaf.data.toList q k i = R.data.toList := ⟨⟨(Mk.rby leaf.data.toList q k i).toArray⟩, rfl⟩
      obtain ⟨O, hO⟩ : ∃ O, Mk.okp q k i = O := ⟨_, rfl⟩
      rw [hR, ← Lib.size_eq] at hrl
      obtain ⟨J, hJ⟩ : ∃ J : ByteArray, Mk.join R.data.toList X.data.toList = J.data.toList := ⟨⟨(Mk.join R.data.toList X.data.toList).toArray⟩, rfl⟩
      rw [hR, hX1, hJ, hO] at hby
      rw [hR, hO, encStr_to rfl] at S
      have HR := Lib.hid (show encStr (Mk.rby leaf.data.toList (x :: q) n i) = .string J ∧ Mk.okp (x :: q) n i = O from ⟨by rw [hX1, hby.1]; exact encStr_to rfl, by rw [hX1]; exact hby.2⟩)
      have SJ := Lib.hid (fun w5 => rjoin_to R X J (by omega) (by omega) hJ w5)
      clear ih hL hp hpq hm hX hX1 hX2 hX3 hrev hlast htake hq hq' hqm hk hby hR hrl hJ hO hlf hcap
      go_enter Tryd.func67, Tryd.ntmps67
      go_wp2_with fail
      refine (HK.out _).mono ?_
      rintro _ w2 ⟨rfl, rfl⟩
      go_wp2_with fail
      refine S.out.mono ?_
      rintro _ w3 ⟨rfl, hb3⟩
      have B3 := Lib.hid hb3
      clear hb3
      go_wp2_with fail
      refine (SJ.out _).mono ?_
      rintro _ w4 ⟨rfl, hb4⟩
      have B4 := Lib.hid (B3.out.trans (hb4.mono B3.out.size))
      clear hb4
      go_wp2_with fail
      go_ret2
      exact ⟨ret_sb HR.out.1 HR.out.2, B4.out⟩
    · have hiki : ¬ (i : Int) < (k : Int) := by omega
      have hby := rby_right (leaf := leaf.data.toList) (x := x) (q := q) hk h2 hik
      obtain ⟨j, hj⟩ : ∃ j, i - k = j := ⟨_, rfl⟩
      obtain ⟨g, hg⟩ : ∃ g, n - k = g := ⟨_, rfl⟩
      rw [hj, hg] at hby
      have j1 : (i : Int) - (k : Int) = (j : Int) := by omega
      have j2 : IntKind.i64.wrap ((i : Int) - (k : Int)) = (j : Int) := by rw [IntWalk.i64_in _ (by omega)]; omega
      have j3 : IntKind.i64.wrap (j : Int) = (j : Int) := IntWalk.i64_in _ (by omega)
      have g1 : (n : Int) - (k : Int) = (g : Int) := by omega
      have g2 : IntKind.i64.wrap ((n : Int) - (k : Int)) = (g : Int) := by rw [IntWalk.i64_in _ (by omega)]; omega
      have g3 : IntKind.i64.wrap (g : Int) = (g : Int) := IntWalk.i64_in _ (by omega)
      have hrl := Mk.rby_len (leaf := leaf.data.toList) (by rw [← Lib.size_eq]; exact hl) q g j
      have S := Lib.hid (IH.out m hqm (by omega) hq' g j (by omega) (by omega) _ b off cap w HT.out)
      obtain ⟨R, hR⟩ : ∃ R : ByteArray, Mk.rby leaf.data.toList q g j = R.data.toList := ⟨⟨(Mk.rby leaf.data.toList q g j).toArray⟩, rfl⟩
      obtain ⟨O, hO⟩ : ∃ O, Mk.okp q g j = O := ⟨_, rfl⟩
      rw [hR, ← Lib.size_eq] at hrl
      obtain ⟨J, hJ⟩ : ∃ J : ByteArray, Mk.join X.data.toList R.data.toList = J.data.toList := ⟨⟨(Mk.join X.data.toList R.data.toList).toArray⟩, rfl⟩
      rw [hR, hX1, hJ, hO] at hby
      rw [hR, hO, encStr_to rfl] at S
      have HR := Lib.hid (show encStr (Mk.rby leaf.data.toList (x :: q) n i) = .string J ∧ Mk.okp (x :: q) n i = O from ⟨by rw [hX1, hby.1]; exact encStr_to rfl, by rw [hX1]; exact hby.2⟩)
      have SJ := Lib.hid (fun w5 => rjoin_to X R J (by omega) (by omega) hJ w5)
      clear ih hL hp hpq hm hX hX1 hX2 hX3 hrev hlast htake hq hq' hqm hk hby hR hrl hJ hO hlf hcap hj hg
      go_enter Tryd.func67, Tryd.ntmps67
      go_wp2_with fail
      refine (HK.out _).mono ?_
      rintro _ w2 ⟨rfl, rfl⟩
      go_wp2_with fail
      refine S.out.mono ?_
      rintro _ w3 ⟨rfl, hb3⟩
      have B3 := Lib.hid hb3
      clear hb3
      go_wp2_with fail
      refine (SJ.out _).mono ?_
      rintro _ w4 ⟨rfl, hb4⟩
      have B4 := Lib.hid (B3.out.trans (hb4.mono B3.out.size))
      clear hb4
      go_wp2_with fail
      go_ret2
      exact ⟨ret_sb HR.out.1 HR.out.2, B4.out⟩
end Go.Proofs.YteiabaddmclmlaaDoor
