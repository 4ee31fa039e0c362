/-
  The program's Root.
-/
import Derived.Test.YteiabaddmclmlaaDoorMRow
namespace Go.Proofs.YteiabaddmclmlaaDoor
open Go Go.RowKit Go.Shelf
set_option maxHeartbeats 4000000 in
set_option maxRecDepth 100000 in
theorem root_few (X : List (List UInt8)) (n : Nat) (hn : X.length = n) (h1 : n < 2) (xa : Option Addr) (b off cap : Nat) (w : World) (hL : Lv w xa b off cap X) (hE : Env w) :
    Calls Tryd.prog 33 #[.slice xa n cap] w fun e w' => e = .returned (encStr (Mk.root X)) ∧ Below w.heap.size w w' := by
  match X, hn with
  | [], hn =>
    obtain rfl : n = 0 := hn.symm
    have C := Lib.hid (sum_any ⟨#[]⟩ (by decide) w hE)
    go_enter Tryd.func33, Tryd.ntmps33
    go_wp2_with fail
    refine C.out.mono ?_
    rintro e w1 ⟨rfl, hb⟩
    go_wp2
    go_ret
    exact ⟨by rw [Mk.root_nil]; rfl, hb⟩
  | [x], hn =>
    obtain rfl : n = 1 := hn.symm
    obtain rfl := hL.at_ (by simp)
    have c := hL.cell 0 (by simp)
    have hcap : 1 ≤ cap := hL.le
    obtain ⟨s, hs⟩ : ∃ s, encStr x = .string s := ⟨_, rfl⟩
    rw [show ([x] : List (List UInt8)).getD 0 [] = x from rfl, hs, Nat.add_zero] at c
    have HS := Lib.hid hs
    clear hs hL hE
    go_enter Tryd.func33, Tryd.ntmps33
    go_wp2
    go_ret
    exact ⟨congrArg Ending.returned (show Value.string s = encStr (Mk.root [x]) from by rw [Mk.root_one, HS.out]), by first | exact Below.refl _ _ | exact below_drew (Below.refl _ _) | exact below_drewN (Below.refl _ _) _⟩
  | _ :: _ :: _, hn => simp at hn; omega
set_option maxHeartbeats 4000000 in
set_option maxRecDepth 100000 in
theorem root_any : ∀ (N : Nat) (X : List (List UInt8)) (n : Nat) (_ : X.length = n) (_ : n ≤ N) (_ : N ≤ 1000000) (_ : ∀ x ∈ X, x.length ≤ 40) (xa : Option Addr) (b off cap : Nat) (w : World) (_ : Lv w xa b off cap X) (_ : Env w),
    Calls Tryd.prog 33 #[.slice xa n cap] w fun e w' => e = .returned (encStr (Mk.root X)) ∧ Below w.heap.size w w' := by
  intro N
  induction N with
  | zero => exact fun X n hn hN _ _ xa b off cap w hL hE => root_few X n hn (by omega) xa b off cap w hL hE
  | succ N ih =>
    intro X n hn hN hN2 hX xa b off cap w hL hE
    have IH := Lib.hid ih
    have HL := Lib.hid hL
    have HE := Lib.hid hE
    clear ih hL hE
    by_cases h2 : 2 ≤ n
    · obtain rfl := HL.out.at_ (by omega)
      have hk1 := Mk.split_lt h2
      have hk0 := Mk.split_pos n
      have HK := Lib.hid (fun w' : World => split_any n h2 (by omega) w')
      obtain ⟨k, hk⟩ : ∃ k, Mk.split n = k := ⟨_, rfl⟩
      rw [hk] at hk0 hk1 HK
      have hcap := HL.out.le
      have hcap2 : n ≤ cap := by omega
      have d1 : (n : Int) ≠ 0 := by omega
      have d2 : (n : Int) ≠ 1 := by omega
      have hm1 := Mk.root_many (X := X) (by omega)
      rw [hn, hk] at hm1
      have hXt : ∀ x ∈ X.take k, x.length ≤ 40 := fun x hx => hX x (List.mem_of_mem_take hx)
      have hXd : ∀ x ∈ X.drop k, x.length ≤ 40 := fun x hx => hX x (List.mem_of_mem_drop hx)
      obtain ⟨R1, hR1⟩ : ∃ R : ByteArray, Mk.root (X.take k) = R.data.toList := ⟨⟨(Mk.root (X.take k)).toArray⟩, rfl⟩
      obtain ⟨R2, hR2⟩ : ∃ R : ByteArray, Mk.root (X.drop k) = R.data.toList := ⟨⟨(Mk.root (X.drop k)).toArray⟩, rfl⟩
      have z1 : R1.size ≤ 40 := by rw [Lib.size_eq, ← hR1]; exact Mk.root_len hXt
      have z2 : R2.size ≤ 40 := by rw [Lib.size_eq, ← hR2]; exact Mk.root_len hXd
      rw [hR1, hR2] at hm1
      obtain ⟨J, hJ⟩ : ∃ R : ByteArray, Mk.join R1.data.toList R2.data.toList = R.data.toList := ⟨⟨(Mk.join R1.data.toList R2.data.toList).toArray⟩, rfl⟩
      rw [hJ] at hm1
      have HM := Lib.hid (encStr_to hm1)
      have S1 := Lib.hid (fun (w5 : World) (hb : Below w.heap.size w w5) => (IH.out (X.take k) k (by rw [List.length_take]; omega) (by omega) (by omega) hXt _ b off cap w5 ((HL.out.take k).below hb) (HE.out.new hb)).mono fun e w6 h => (⟨h.1.trans (by rw [encStr_to hR1]), h.2⟩ : e = .returned (.string R1) ∧ Below w5.heap.size w5 w6))
      have S2 := Lib.hid (fun (w5 : World) (hb : Below w.heap.size w w5) => (IH.out (X.drop k) (n - k) (by rw [List.length_drop]; omega) (by omega) (by omega) hXd _ b (off + k) (cap - k) w5 ((HL.out.drop k (by omega)).below hb) (HE.out.new hb)).mono fun e w6 h => (⟨h.1.trans (by rw [encStr_to hR2]), h.2⟩ : e = .returned (.string R2) ∧ Below w5.heap.size w5 w6))
      have SJ := Lib.hid (fun (w5 : World) (hb : Below w.heap.size w w5) => join_to R1 R2 J (by omega) (by omega) hJ w5 (HE.out.new hb))
      clear hcap hk hm1 hXt hXd hR1 hR2 hJ hX
      go_enter Tryd.func33, Tryd.ntmps33
      go_wp2_with fail
      refine (HK.out _).mono ?_
      rintro _ w' ⟨rfl, rfl⟩
      go_wp2_with fail
      go_region_with (first | (go_at_call 31; refine (SJ.out _ hB2).mono ?_; rintro e w7 ⟨rfl, hB7⟩) | (go_at_call 33; first | (refine (S2.out _ hB1).mono ?_; rintro e w6 ⟨rfl, hB6⟩; have hB2 := hB1.trans (hB6.mono hB1.size)) | (refine (S1.out _ (below_drew (Below.refl _ _))).mono ?_; rintro e w5 ⟨rfl, hB5⟩; have hB1 := (below_drew (Below.refl _ _)).trans hB5)))
      all_goals
        have HB := Lib.hid (hB2.trans (hB7.mono hB2.size))
        clear hB1 hB2 hB5 hB6 hB7
        go_wp2
        go_ret
        exact ⟨congrArg Ending.returned HM.out.symm, HB.out⟩
    · exact root_few X n hn (by omega) xa b off cap w HL.out HE.out
theorem root_to (X : List (List UInt8)) (n : Nat) (hn : X.length = n) (hN : n ≤ 1000000) (hX : ∀ x ∈ X, x.length ≤ 40) (R : ByteArray) (hR : Mk.root X = R.data.toList) (xa : Option Addr) (b off cap : Nat) (w : World) (hL : Lv w xa b off cap X) (hE : Env w) :
    Calls Tryd.prog 33 #[.slice xa n cap] w fun e w' => e = .returned (.string R) ∧ Below w.heap.size w w' :=
  (root_any n X n hn (Nat.le_refl _) hN hX xa b off cap w hL hE).mono fun e w' h => ⟨h.1.trans (by rw [encStr_to hR]), h.2⟩
end Go.Proofs.YteiabaddmclmlaaDoor
