/-
  The law MerkleTells, walked: every function of the layer returns what the reference returns.
-/
import Derived.Test.YteiabaddmclmlaaDoorMSmall
import Derived.Test.YteiabaddmclmlaaDoorMRefG
import Derived.Test.YteiabaddmclmlaaDoorMRefD
namespace Go.Proofs.YteiabaddmclmlaaDoor
open Go Go.RowKit Go.Shelf
theorem rpath_every (X : List (List UInt8)) (n : Nat) (hn : X.length = n) (hN : n ≤ 1000000) (hX : ∀ x ∈ X, x.length ≤ 40) (i : Int) (P : List (List UInt8)) (hP : Mk.pathI X i = P) (m : Nat) (hm : P.length = m) (xa : Option Addr) (b off cap : Nat) (w : World) (hL : Lv w xa b off cap X) :
    Calls Tryd.prog 37 #[.slice xa n cap, .int .i64 i] w fun e w' => ∃ ya c d v, v = .slice ya m d ∧ e = .returned v ∧ SOwn w' w.heap.size v P ∧ Lv w' ya c 0 d P ∧ Below w.heap.size w w' := by
  by_cases h : 0 ≤ i ∧ i < n
  · obtain ⟨j, rfl⟩ := Int.eq_ofNat_of_zero_le h.1
    refine (rpath_any n X n hn (Nat.le_refl _) hN hX j (by omega) xa b off cap w hL).mono fun e w' h2 => ?_
    obtain ⟨v, he, hv, hb⟩ := h2
    have e1 : Mk.path X j = P := by rw [← hP]; unfold Mk.pathI; rw [if_pos (by omega), Int.toNat_natCast]
    rw [e1] at hv
    obtain ⟨ya, c, d, rfl, hl⟩ := hv.row
    exact ⟨ya, c, d, _, by rw [hm], he, hv, hl, hb⟩
  · have e1 : P = [] := by
      rw [← hP]; unfold Mk.pathI
      by_cases h0 : 0 ≤ i
      · rw [if_pos h0, Mk.path_none (by omega)]
      · rw [if_neg h0]
    subst e1
    obtain rfl : m = 0 := hm.symm
    refine (rpath_out X n hn hN i (by omega) xa cap w).mono fun e w' h2 => ⟨none, 0, 0, _, rfl, h2.1, SOwn.nil _ _, ⟨fun h => absurd h (by simp), fun j hj => absurd hj (by simp), fun h => absurd h (by simp), by simp⟩, h2.2⟩
theorem rgrown_every (X : List (List UInt8)) (n : Nat) (hn : X.length = n) (hN : n ≤ 1000000) (hX : ∀ x ∈ X, x.length ≤ 40) (i : Int) (P : List (List UInt8)) (hP : Mk.grown X i = P) (m : Nat) (hm : P.length = m) (xa : Option Addr) (b off cap : Nat) (w : World) (hL : Lv w xa b off cap X) :
    Calls Tryd.prog 39 #[.slice xa n cap, .int .i64 i] w fun e w' => ∃ ya c d v, v = .slice ya m d ∧ e = .returned v ∧ SOwn w' w.heap.size v P ∧ Lv w' ya c 0 d P ∧ Below w.heap.size w w' := by
  refine (rgrown_any X n hn hN hX i xa b off cap w hL).mono fun e w' h2 => ?_
  obtain ⟨v, he, hv, hb⟩ := h2
  rw [hP] at hv
  obtain ⟨ya, c, d, rfl, hl⟩ := hv.row
  exact ⟨ya, c, d, _, by rw [hm], he, hv, hl, hb⟩
theorem few_no {L : List (List UInt8)} (n : Nat) (hn : L.length = n) (hN : n ≤ 9223372036854775807) (xa : Option Addr) (b off cap : Nat) (w : World) (hL : Lv w xa b off cap L) (g : Bool) (hg : Mk.few L = g) :
    Calls Tryd.prog 28 #[.slice xa n cap] w fun e w' => e = .returned (.bool g) ∧ w = w' :=
  (few_any L n hn hN xa b off cap w hL).mono fun e w' h => ⟨by rw [h.1, hg], h.2⟩
set_option maxHeartbeats 8000000 in
set_option maxRecDepth 100000 in
theorem mtells_law (L M : List (List UInt8)) (n m : Nat) (hn : L.length = n) (hm : M.length = m) (hN : n ≤ 9223372036854775807) (hM : m ≤ 9223372036854775807) (i k : Int) (_hi : i ≤ 9223372036854775807) (hk : k ≤ 9223372036854775807) (a c : ByteArray)
    (xa ya : Option Addr) (b off cap b' off' cap' : Nat) (w : World) (hL : Lv w xa b off cap L) (hL2 : Lv w ya b' off' cap' M) (hE : Env w) :
    Calls Tryd.prog 4 #[.slice xa n cap, .slice ya m cap', .int .i64 i, .int .i64 k, .string a, .string c] w fun e w' => e = .returned (.bool true) ∧ Below w.heap.size w w' := by
  have HS := Lib.hid (small04_any w hE)
  have HL := Lib.hid hL
  have HM := Lib.hid hL2
  have HE := Lib.hid hE
  have F1 := Lib.hid (fun W (hb : Below w.heap.size w W) => few_no n hn hN xa b off cap W (hL.below hb) _ rfl)
  have F2 := Lib.hid (fun W (hb : Below w.heap.size w W) => few_no m hm hM ya b' off' cap' W (hL2.below hb) _ rfl)
  clear hL hL2 hE
  cases f1 : Mk.few L with
  | false =>
    rw [f1] at F1
    clear f1
    go_enter Tryd.func4, Tryd.ntmps4
    go_wp2_with fail
    refine HS.out.mono ?_
    rintro _ w1 ⟨rfl, hb⟩
    have B1 := Lib.hid hb
    clear hb
    go_wp2_with fail
    refine (F1.out _ B1.out).mono ?_
    rintro _ w2 ⟨rfl, rfl⟩
    go_wp2_with fail
    go_ret
    exact ⟨rfl, B1.out⟩
  | true =>
  cases f2 : Mk.few M with
  | false =>
    rw [f1] at F1
    rw [f2] at F2
    clear f1 f2
    go_enter Tryd.func4, Tryd.ntmps4
    go_wp2_with fail
    refine HS.out.mono ?_
    rintro _ w1 ⟨rfl, hb⟩
    have B1 := Lib.hid hb
    clear hb
    go_wp2_with fail
    refine (F1.out _ B1.out).mono ?_
    rintro _ w2 ⟨rfl, rfl⟩
    go_wp2_with fail
    refine (F2.out _ B1.out).mono ?_
    rintro _ w2 ⟨rfl, rfl⟩
    go_wp2_with fail
    go_ret
    exact ⟨rfl, B1.out⟩
  | true =>
  obtain ⟨hL40, hL70⟩ := Mk.few_mem f1
  obtain ⟨hM40, hM70⟩ := Mk.few_mem f2
  rw [f1] at F1
  rw [f2] at F2
  clear f1 f2
  by_cases z1 : a.size ≤ 40
  case neg =>
    have y1 : (a.size : Int) > 40 := by omega
    clear hn hm hL40 hL70 hM40 hM70
    go_enter Tryd.func4, Tryd.ntmps4
    go_wp2_with fail
    refine HS.out.mono ?_
    rintro _ w1 ⟨rfl, hb⟩
    have B1 := Lib.hid hb
    clear hb
    go_wp2_with fail
    refine (F1.out _ B1.out).mono ?_
    rintro _ w2 ⟨rfl, rfl⟩
    go_wp2_with fail
    refine (F2.out _ B1.out).mono ?_
    rintro _ w2 ⟨rfl, rfl⟩
    go_wp2_with fail
    go_ret
    exact ⟨rfl, B1.out⟩
  have y1 : ¬ (a.size : Int) > 40 := by omega
  by_cases z2 : c.size ≤ 40
  case neg =>
    have y2 : (c.size : Int) > 40 := by omega
    clear hn hm hL40 hL70 hM40 hM70
    go_enter Tryd.func4, Tryd.ntmps4
    go_wp2_with fail
    refine HS.out.mono ?_
    rintro _ w1 ⟨rfl, hb⟩
    have B1 := Lib.hid hb
    clear hb
    go_wp2_with fail
    refine (F1.out _ B1.out).mono ?_
    rintro _ w2 ⟨rfl, rfl⟩
    go_wp2_with fail
    refine (F2.out _ B1.out).mono ?_
    rintro _ w2 ⟨rfl, rfl⟩
    go_wp2_with fail
    go_ret
    exact ⟨rfl, B1.out⟩
  have y2 : ¬ (c.size : Int) > 40 := by omega
  obtain ⟨A, hA⟩ : ∃ R : ByteArray, Mk.leaf a.data.toList = R.data.toList := ⟨⟨(Mk.leaf a.data.toList).toArray⟩, rfl⟩
  have qA : (A.toList == A.toList) = true := by simp
  have rA : (A.toList != A.toList) = false := by rw [bne, qA]; rfl
  obtain ⟨J, hJ⟩ : ∃ R : ByteArray, Mk.join a.data.toList c.data.toList = R.data.toList := ⟨⟨(Mk.join a.data.toList c.data.toList).toArray⟩, rfl⟩
  have qJ : (J.toList == J.toList) = true := by simp
  have rJ : (J.toList != J.toList) = false := by rw [bne, qJ]; rfl
  obtain ⟨R, hR⟩ : ∃ R : ByteArray, Mk.root L = R.data.toList := ⟨⟨(Mk.root L).toArray⟩, rfl⟩
  have qR : (R.toList == R.toList) = true := by simp
  have rR : (R.toList != R.toList) = false := by rw [bne, qR]; rfl
  obtain ⟨P, hP⟩ : ∃ P, Mk.pathI L i = P := ⟨_, rfl⟩
  obtain ⟨p, hp⟩ : ∃ p, P.length = p := ⟨_, rfl⟩
  have hpl : p ≤ 1000000 := by
    rw [← hp, ← hP]; unfold Mk.pathI
    split
    · have := Mk.path_len L.length L i.toNat (Nat.le_refl _); omega
    · simp
  obtain ⟨G, hG⟩ : ∃ P, Mk.grown L i = P := ⟨_, rfl⟩
  obtain ⟨g, hg⟩ : ∃ p, G.length = p := ⟨_, rfl⟩
  have hgl : g ≤ 1000000 := by
    rw [← hg, ← hG]; unfold Mk.grown
    split
    · have := Mk.growth_len L.length L i.toNat true (Nat.le_refl _); omega
    · simp
  obtain ⟨X, hX⟩ : ∃ X, Mk.check a.data.toList c.data.toList k i M = X := ⟨_, rfl⟩
  obtain ⟨Y, hY⟩ : ∃ X, Mk.checkGrown a.data.toList c.data.toList i k M = X := ⟨_, rfl⟩
  have qX : (X == X) = true := by simp
  have qY : (Y == Y) = true := by simp
  have S1 := Lib.hid (fun W hE => leaf_to a A (by omega) hA W hE)
  have S2 := Lib.hid (fun W => rleaf_to a A (by omega) hA W)
  have S3 := Lib.hid (fun W hE => join_to a c J (by omega) (by omega) hJ W hE)
  have S4 := Lib.hid (fun W => rjoin_to a c J (by omega) (by omega) hJ W)
  have S5 := Lib.hid (fun W (hb : Below w.heap.size w W) => root_to L n hn (by omega) hL40 R hR xa b off cap W (HL.out.below hb) (HE.out.new hb))
  have S6 := Lib.hid (fun W (hb : Below w.heap.size w W) => rroot_to L n hn (by omega) hL40 R hR xa b off cap W (HL.out.below hb))
  have S7 := Lib.hid (fun W (hb : Below w.heap.size w W) => path_every L n hn (by omega) hL40 i P hP p hp xa b off cap W (HL.out.below hb) (HE.out.new hb))
  have S8 := Lib.hid (fun W (hb : Below w.heap.size w W) => rpath_every L n hn (by omega) hL40 i P hP p hp xa b off cap W (HL.out.below hb))
  have S10 := Lib.hid (fun W (hb : Below w.heap.size w W) => grown_every L n hn (by omega) hL40 i G hG g hg xa b off cap W (HL.out.below hb) (HE.out.new hb))
  have S11 := Lib.hid (fun W (hb : Below w.heap.size w W) => rgrown_every L n hn (by omega) hL40 i G hG g hg xa b off cap W (HL.out.below hb))
  have S13 := Lib.hid (fun W (hb : Below w.heap.size w W) => check_any a c k i hk M m hm (by omega) ya b' off' cap' W (HM.out.below hb) (HE.out.new hb))
  have S14 := Lib.hid (fun W (hb : Below w.heap.size w W) => rcheck_any a c k i hk M m hm (by omega) ya b' off' cap' W (HM.out.below hb))
  have S15 := Lib.hid (fun W (hb : Below w.heap.size w W) => checkGrown_any a c i k hk M m hm (by omega) ya b' off' cap' W (HM.out.below hb) (HE.out.new hb))
  have S16 := Lib.hid (fun W (hb : Below w.heap.size w W) => rcheckGrown_any a c i k hk M m hm (by omega) ya b' off' cap' W (HM.out.below hb))
  have S9 := Lib.hid (fun xa ya b off cap b' off' cap' W => strings_same P p hp hpl xa ya b off cap b' off' cap' W)
  have S12 := Lib.hid (fun xa ya b off cap b' off' cap' W => strings_same G g hg hgl xa ya b off cap b' off' cap' W)
  rw [hX] at S13 S14
  rw [hY] at S15 S16
  clear hn hm hL40 hL70 hM40 hM70 hA hJ hR hP hp hpl hG hg hgl hX hY
  go_enter Tryd.func4, Tryd.ntmps4
  go_wp2_with fail
  refine HS.out.mono ?_
  rintro _ w1 ⟨rfl, hb⟩
  have B1 := Lib.hid hb
  clear hb
  go_wp2_with fail
  refine (F1.out _ B1.out).mono ?_
  rintro _ w2 ⟨rfl, rfl⟩
  go_wp2_with fail
  refine (F2.out _ B1.out).mono ?_
  rintro _ w2 ⟨rfl, rfl⟩
  go_wp2_with fail
  refine (S1.out _ (HE.out.new B1.out)).mono ?_
  rintro _ w2 ⟨rfl, hb⟩
  have B2 := Lib.hid (B1.out.trans (hb.mono B1.out.size))
  clear hb
  go_wp2_with fail
  refine (S2.out _).mono ?_
  rintro _ w3 ⟨rfl, hb⟩
  have B3 := Lib.hid (B2.out.trans (hb.mono B2.out.size))
  clear hb
  go_wp2_with fail
  refine (S3.out _ (HE.out.new B3.out)).mono ?_
  rintro _ w4 ⟨rfl, hb⟩
  have B4 := Lib.hid (B3.out.trans (hb.mono B3.out.size))
  clear hb
  go_wp2_with fail
  refine (S4.out _).mono ?_
  rintro _ w5 ⟨rfl, hb⟩
  have B5 := Lib.hid (B4.out.trans (hb.mono B4.out.size))
  clear hb
  go_wp2_with fail
  refine (S5.out _ B5.out).mono ?_
  rintro _ w6 ⟨rfl, hb⟩
  have B6 := Lib.hid (B5.out.trans (hb.mono B5.out.size))
  clear hb
  go_wp2_with fail
  refine (S6.out _ B6.out).mono ?_
  rintro _ w7 ⟨rfl, hb⟩
  have B7 := Lib.hid (B6.out.trans (hb.mono B6.out.size))
  clear hb
  go_wp2_with fail
  refine (S7.out _ B7.out).mono ?_
  rintro _ w8 ⟨ya8, c8, d8, _, rfl, rfl, -, hv, hb⟩
  have B8 := Lib.hid (B7.out.trans (hb.mono B7.out.size))
  have V8 := Lib.hid hv
  clear hv
  clear hb
  go_wp2_with fail
  refine (S8.out _ B8.out).mono ?_
  rintro _ w9 ⟨ya9, c9, d9, _, rfl, rfl, -, hv, hb⟩
  have B9 := Lib.hid (B8.out.trans (hb.mono B8.out.size))
  have K9 := Lib.hid (V8.out.below hb)
  have V9 := Lib.hid hv
  clear hv
  clear hb
  go_wp2_with fail
  refine (S9.out _ _ _ _ _ _ _ _ _ K9.out V9.out).mono ?_
  rintro _ w10 ⟨rfl, hb⟩
  have B10 := Lib.hid (B9.out.trans (hb.mono B9.out.size))
  clear hb
  go_wp2_with fail
  refine (S10.out _ B10.out).mono ?_
  rintro _ w11 ⟨ya11, c11, d11, _, rfl, rfl, -, hv, hb⟩
  have B11 := Lib.hid (B10.out.trans (hb.mono B10.out.size))
  have V11 := Lib.hid hv
  clear hv
  clear hb
  go_wp2_with fail
  refine (S11.out _ B11.out).mono ?_
  rintro _ w12 ⟨ya12, c12, d12, _, rfl, rfl, -, hv, hb⟩
  have B12 := Lib.hid (B11.out.trans (hb.mono B11.out.size))
  have K12 := Lib.hid (V11.out.below hb)
  have V12 := Lib.hid hv
  clear hv
  clear hb
  go_wp2_with fail
  refine (S12.out _ _ _ _ _ _ _ _ _ K12.out V12.out).mono ?_
  rintro _ w13 ⟨rfl, hb⟩
  have B13 := Lib.hid (B12.out.trans (hb.mono B12.out.size))
  clear hb
  go_wp2_with fail
  refine (S13.out _ B13.out).mono ?_
  rintro _ w14 ⟨rfl, hb⟩
  have B14 := Lib.hid (B13.out.trans (hb.mono B13.out.size))
  clear hb
  go_wp2_with fail
  refine (S14.out _ B14.out).mono ?_
  rintro _ w15 ⟨rfl, hb⟩
  have B15 := Lib.hid (B14.out.trans (hb.mono B14.out.size))
  clear hb
  go_wp2_with fail
  refine (S15.out _ B15.out).mono ?_
  rintro _ w16 ⟨rfl, hb⟩
  have B16 := Lib.hid (B15.out.trans (hb.mono B15.out.size))
  clear hb
  go_wp2_with fail
  refine (S16.out _ B16.out).mono ?_
  rintro _ w17 ⟨rfl, hb⟩
  have B17 := Lib.hid (B16.out.trans (hb.mono B16.out.size))
  clear hb
  go_wp2_with fail
  go_ret
  exact ⟨rfl, B17.out⟩
end Go.Proofs.YteiabaddmclmlaaDoor
