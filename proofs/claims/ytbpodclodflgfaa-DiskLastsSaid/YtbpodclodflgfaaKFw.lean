/-
  few of the law's text.
-/
import Derived.Test.YtbpodclodflgfaaKAc
namespace Go.Proofs.Ytbpodclodflgfaa
open Go Go.RowKit
namespace Dk
theorem few_end {X : List Act} (hall : ∀ a ∈ X, bad a = false) : few X = (decide (X.length ≤ 200) && decide (atot X X.length ≤ 5000)) := by
  unfold few
  have : X.all (fun a => !bad a) = true := List.all_eq_true.2 fun a ha => by simp [hall a ha]
  rw [this]; rfl
theorem few_long {X : List Act} (h : 200 < X.length) : few X = false := by
  unfold few
  rw [show decide (X.length ≤ 200) = false by simpa using h]
  simp
theorem atot_le {X : List Act} (hr : ∀ a ∈ X, a.s.length ≤ 140737488351232 ∧ a.keep.length ≤ 140737488351232) : ∀ k, atot X k ≤ k * 281474976702464
  | 0 => by rw [atot_zero]; omega
  | k + 1 => by
    have ih := atot_le hr k
    cases h : X[k]? with
    | none =>
      have : atot X (k + 1) = atot X k := by unfold atot; rw [List.take_add_one, h]; simp
      omega
    | some x =>
      have := hr x (List.mem_of_getElem? h)
      rw [atot_succ X k x h]
      omega
end Dk
theorem LA.reach {w : World} {xa : Option Addr} {b off : Nat} {X : List Dk.Act} (h : LA w xa b off X) : ∀ a ∈ X, a.s.length ≤ 140737488351232 ∧ a.keep.length ≤ 140737488351232 := fun a ha => by
  obtain ⟨j, hj, rfl⟩ := List.getElem_of_mem ha
  obtain ⟨ka, kb, koff, kn, kcap, h1, _⟩ := h.cell j X[j] (List.getElem?_eq_getElem hj)
  exact ⟨h1.rs, by rw [h1.len]; exact h1.rk⟩
theorem acells_at {w : World} {b o : Nat} {a : Dk.Act} {ka : Option Addr} {kn kcap : Nat} (h : ∀ i v, (acells a ka kn kcap)[i]? = some v → w.cell? ⟨b, o + i, none⟩ = some v) :
    w.cell? ⟨b, o, none⟩ = some (.int .i64 a.do_) ∧ w.cell? ⟨b, o + 1, none⟩ = some (.int .i64 a.f) ∧ w.cell? ⟨b, o + 2, none⟩ = some (.int .i64 a.g) ∧ w.cell? ⟨b, o + 3, none⟩ = some (.int .i64 a.n) ∧ w.cell? ⟨b, o + 4, none⟩ = some (.string (enc a.s)) ∧ w.cell? ⟨b, o + 5, none⟩ = some (.slice ka kn kcap) :=
  ⟨h 0 _ rfl, h 1 _ rfl, h 2 _ rfl, h 3 _ rfl, h 4 _ rfl, h 5 _ rfl⟩
set_option maxHeartbeats 1000000 in
set_option maxRecDepth 100000 in
theorem few_short (X : List Dk.Act) (n : Nat) (hn : X.length = n) (hN : n ≤ 9223372036854775807) (xa : Option Addr) (b off cap : Nat) (w : World) (hl : LA w xa b off X) (hbig : n ≤ 200) :
    Calls Try.prog 8 #[.slice xa n cap] w fun e w' => e = .returned (.bool (Dk.few X)) ∧ Below w.heap.size w w' := by
  have HL := Lib.hid hl
  have HN := Lib.hid hn
  clear hl hn
  go_enter Try.func8, Try.ntmps8
  go_wp2
  go_loopw [3, 4] (fun x3 i wr => ∃ k : Nat, i = .int .i64 k ∧ k ≤ n ∧ x3 = .int .i64 ((Dk.atot X k : Nat) : Int) ∧ Hid (∀ a ∈ X.take k, Dk.bad a = false) ∧ Hid (∃ q, wr = w.drewN q)) (fun _ i _ => n - (intOf i).toNat)
  case atStart => exact ⟨0, rfl, Nat.zero_le _, by rw [Dk.atot_zero]; rfl, (fun a ha => by simp at ha), ⟨0, rfl⟩⟩
  case round =>
    obtain ⟨k, rfl, hk, hs3, hB, hW⟩ := hrel
    have HBW := Lib.hid (show Below w.heap.size w wr from by obtain ⟨q, rfl⟩ := hW.out; exact below_drewN (Below.refl _ _) q)
    by_cases hlt : k < n
    · obtain ⟨a, ha⟩ : ∃ a, X[k]? = some a := ⟨_, List.getElem?_eq_getElem (by rw [HN.out]; exact hlt)⟩
      obtain rfl := HL.out.at_ (by rw [HN.out]; omega)
      obtain ⟨ka, kb, koff, kn, kcap, hac, hcs⟩ := (HL.out.below HBW.out).cell k a ha
      obtain ⟨c0, c1, c2, c3, c4, c5⟩ := acells_at hcs
      have hTS := Lib.hid (Dk.atot_succ X k a ha)
      have hTK := Lib.hid (show X.take (k + 1) = X.take k ++ [a] from by rw [List.take_add_one, ha]; rfl)
      have HA := Lib.hid ha
      obtain ⟨t, ht⟩ : ∃ t, enc a.s = t := ⟨_, rfl⟩
      have hts : t.size = a.s.length := by rw [← ht, Lib.size_eq]; rfl
      have htr : t.size ≤ 140737488351232 := by rw [hts]; exact hac.rs
      have hkr := hac.rk
      have hkl := hac.len
      rw [ht] at c4
      have HTS := Lib.hid hts
      have HKL := Lib.hid hkl
      obtain ⟨N, hNN⟩ : ∃ N, a.n = N := ⟨_, rfl⟩
      rw [hNN] at c3
      have HNN := Lib.hid hNN
      obtain rfl := hs3
      have h49 : Dk.atot X k ≤ 200 * 281474976702464 := Nat.le_trans (Dk.atot_le HL.out.reach k) (Nat.mul_le_mul_right _ (by omega))
      obtain ⟨z, hz⟩ : ∃ z, Dk.atot X k = z := ⟨_, rfl⟩
      rw [hz] at h49 hTS
      rw [hz]
      clear hz
      clear ha hac hcs ht hts hkl hNN c0 c1 c2
      by_cases b1 : (4000 : Int) ≤ N
      · by_cases b2 : N ≤ 16777216
        · have HF := Lib.hid (Dk.few_bad HA.out (show Dk.bad a = true from by unfold Dk.bad; rw [HNN.out]; simp [b1, b2]))
          go_wp2
          go_ret
          exact ⟨ret_bool HF.out.symm, HBW.out⟩
        · have HBD := Lib.hid (show Dk.bad a = false from by unfold Dk.bad; rw [HNN.out]; simp [b2] <;> omega)
          have b3 : decide (N ≤ (16777216 : Int)) = false := by simpa using b2
          go_wp2
          go_quiet (fail)
          go_wp2
          go_roundw
          case rel => exact ⟨k + 1, by go_num, by omega, by rw [hTS.out, ← HTS.out, HKL.out]; first | done | go_num, (fun x hx => by
            rw [hTK.out] at hx
            rcases List.mem_append.1 hx with h | h
            · exact hB.out x h
            · simp at h; subst h; exact HBD.out), by obtain ⟨q, rfl⟩ := hW.out; exact ⟨_, World.drewN_drewN _ _ _⟩⟩
          case measure => simp [intOf]; omega
      · have HBD := Lib.hid (show Dk.bad a = false from by unfold Dk.bad; rw [HNN.out]; simp; omega)
        have b3 : decide ((4000 : Int) ≤ N) = false := by simpa using b1
        go_wp2
        go_quiet (fail)
        go_wp2
        go_roundw
        case rel => exact ⟨k + 1, by go_num, by omega, by rw [hTS.out, ← HTS.out, HKL.out]; first | done | go_num, (fun x hx => by
          rw [hTK.out] at hx
          rcases List.mem_append.1 hx with h | h
          · exact hB.out x h
          · simp at h; subst h; exact HBD.out), by obtain ⟨q, rfl⟩ := hW.out; exact ⟨_, World.drewN_drewN _ _ _⟩⟩
        case measure => simp [intOf]; omega
    · obtain rfl : k = n := by omega
      obtain rfl := hs3
      have hfe := Dk.few_end (X := X) (fun a ha => hB.out a (by rw [List.take_of_length_le (by rw [HN.out]; exact Nat.le_refl _)]; exact ha))
      rw [HN.out] at hfe
      have d0 : decide (k ≤ 200) = true := by simpa using hbig
      rw [d0, Bool.true_and] at hfe
      have d1 : (k : Int) ≤ 200 := by omega
      obtain ⟨z, hz⟩ : ∃ z, Dk.atot X k = z := ⟨_, rfl⟩
      rw [hz] at hfe
      rw [hz]
      clear hz d0
      by_cases c1 : z ≤ 5000
      · have HF := Lib.hid (show Dk.few X = true from by rw [hfe]; simpa using c1)
        have d3 : (z : Int) ≤ 5000 := by omega
        clear hfe
        go_wp2
        go_ret
        exact ⟨ret_bool HF.out.symm, HBW.out⟩
      · have HF := Lib.hid (show Dk.few X = false from by rw [hfe]; simpa using c1)
        have d3 : ¬ ((z : Int) ≤ 5000) := by omega
        have d4 : decide ((z : Int) ≤ 5000) = false := by simpa using d3
        clear hfe
        go_wp2
        go_ret
        exact ⟨ret_bool HF.out.symm, HBW.out⟩
set_option maxHeartbeats 1000000 in
set_option maxRecDepth 100000 in
theorem few_long (X : List Dk.Act) (n : Nat) (hn : X.length = n) (hN : n ≤ 9223372036854775807) (xa : Option Addr) (b off cap : Nat) (w : World) (hl : LA w xa b off X) (hbig : 200 < n) :
    Calls Try.prog 8 #[.slice xa n cap] w fun e w' => e = .returned (.bool (Dk.few X)) ∧ Below w.heap.size w w' := by
  have HL := Lib.hid hl
  have HN := Lib.hid hn
  clear hl hn
  go_enter Try.func8, Try.ntmps8
  go_wp2
  go_loopw [3, 4] (fun x3 i wr => ∃ k : Nat, i = .int .i64 k ∧ k ≤ n ∧ (∃ z, x3 = .int .i64 z) ∧ Hid (∀ a ∈ X.take k, Dk.bad a = false) ∧ Hid (∃ q, wr = w.drewN q)) (fun _ i _ => n - (intOf i).toNat)
  case atStart => exact ⟨0, rfl, Nat.zero_le _, ⟨0, rfl⟩, (fun a ha => by simp at ha), ⟨0, rfl⟩⟩
  case round =>
    obtain ⟨k, rfl, hk, hs3, hB, hW⟩ := hrel
    have HBW := Lib.hid (show Below w.heap.size w wr from by obtain ⟨q, rfl⟩ := hW.out; exact below_drewN (Below.refl _ _) q)
    by_cases hlt : k < n
    · obtain ⟨a, ha⟩ : ∃ a, X[k]? = some a := ⟨_, List.getElem?_eq_getElem (by rw [HN.out]; exact hlt)⟩
      obtain rfl := HL.out.at_ (by rw [HN.out]; omega)
      obtain ⟨ka, kb, koff, kn, kcap, hac, hcs⟩ := (HL.out.below HBW.out).cell k a ha
      obtain ⟨c0, c1, c2, c3, c4, c5⟩ := acells_at hcs
      have hTS := Lib.hid (Dk.atot_succ X k a ha)
      have hTK := Lib.hid (show X.take (k + 1) = X.take k ++ [a] from by rw [List.take_add_one, ha]; rfl)
      have HA := Lib.hid ha
      obtain ⟨t, ht⟩ : ∃ t, enc a.s = t := ⟨_, rfl⟩
      have hts : t.size = a.s.length := by rw [← ht, Lib.size_eq]; rfl
      have htr : t.size ≤ 140737488351232 := by rw [hts]; exact hac.rs
      have hkr := hac.rk
      have hkl := hac.len
      rw [ht] at c4
      have HTS := Lib.hid hts
      have HKL := Lib.hid hkl
      obtain ⟨N, hNN⟩ : ∃ N, a.n = N := ⟨_, rfl⟩
      rw [hNN] at c3
      have HNN := Lib.hid hNN
      obtain ⟨z, rfl⟩ := hs3
      clear ha hac hcs ht hts hkl hNN c0 c1 c2
      by_cases b1 : (4000 : Int) ≤ N
      · by_cases b2 : N ≤ 16777216
        · have HF := Lib.hid (Dk.few_bad HA.out (show Dk.bad a = true from by unfold Dk.bad; rw [HNN.out]; simp [b1, b2]))
          go_wp2
          go_ret
          exact ⟨ret_bool HF.out.symm, HBW.out⟩
        · have HBD := Lib.hid (show Dk.bad a = false from by unfold Dk.bad; rw [HNN.out]; simp [b2] <;> omega)
          have b3 : decide (N ≤ (16777216 : Int)) = false := by simpa using b2
          go_wp2
          go_quiet (fail)
          go_wp2
          go_roundw
          case rel => exact ⟨k + 1, by go_num, by omega, ⟨_, rfl⟩, (fun x hx => by
            rw [hTK.out] at hx
            rcases List.mem_append.1 hx with h | h
            · exact hB.out x h
            · simp at h; subst h; exact HBD.out), by obtain ⟨q, rfl⟩ := hW.out; exact ⟨_, World.drewN_drewN _ _ _⟩⟩
          case measure => simp [intOf]; omega
      · have HBD := Lib.hid (show Dk.bad a = false from by unfold Dk.bad; rw [HNN.out]; simp; omega)
        have b3 : decide ((4000 : Int) ≤ N) = false := by simpa using b1
        go_wp2
        go_quiet (fail)
        go_wp2
        go_roundw
        case rel => exact ⟨k + 1, by go_num, by omega, ⟨_, rfl⟩, (fun x hx => by
          rw [hTK.out] at hx
          rcases List.mem_append.1 hx with h | h
          · exact hB.out x h
          · simp at h; subst h; exact HBD.out), by obtain ⟨q, rfl⟩ := hW.out; exact ⟨_, World.drewN_drewN _ _ _⟩⟩
        case measure => simp [intOf]; omega
    · obtain rfl : k = n := by omega
      obtain ⟨z, rfl⟩ := hs3
      have HF := Lib.hid (Dk.few_long (X := X) (by rw [HN.out]; exact hbig))
      have d1 : ¬ ((k : Int) ≤ 200) := by omega
      have d2 : decide ((k : Int) ≤ 200) = false := by simpa using d1
      go_wp2
      go_ret
      exact ⟨ret_bool HF.out.symm, HBW.out⟩
theorem few_any (X : List Dk.Act) (n : Nat) (hn : X.length = n) (hN : n ≤ 9223372036854775807) (xa : Option Addr) (b off cap : Nat) (w : World) (hl : LA w xa b off X) :
    Calls Try.prog 8 #[.slice xa n cap] w fun e w' => e = .returned (.bool (Dk.few X)) ∧ Below w.heap.size w w' := by
  by_cases h : n ≤ 200
  · exact few_short X n hn hN xa b off cap w hl h
  · exact few_long X n hn hN xa b off cap w hl (by omega)
end Go.Proofs.Ytbpodclodflgfaa
