/-
  here of the law's text, where it holds.
-/
import Derived.Test.YtbpodclodflgfaaKAo
namespace Go.Proofs.Ytbpodclodflgfaa
open Go Go.RowKit
theorem get_of (s : ByteArray) (k : Nat) (h : k < s.size) : s.data.toList[k]? = some s[k] := Lib.data_getElem? s k h
theorem byte_ne {c d : UInt8} (h : c ≠ d) : ((c.toNat : Int) == (d.toNat : Int)) = false := by
  rw [beq_eq_false_iff_ne]; intro e; exact h (by rw [← UInt8.toNat_inj]; omega)
theorem byte_eq {c d : UInt8} (h : c = d) : ((c.toNat : Int) == (d.toNat : Int)) = true := by rw [h]; simp
theorem hit_of {P Q : Prop} {X : List Dk.Act} {f i : Nat} {x : UInt8} (h : P ∨ Q ∨ ∃ a ∈ X, Dk.Hit a f i x) (h1 : ¬ P) (h2 : ¬ Q) : ∃ j a, 0 ≤ j ∧ X[j]? = some a ∧ Dk.Hit a f i x := by
  rcases h with h | h | ⟨a, ha, h⟩
  · exact absurd h h1
  · exact absurd h h2
  · obtain ⟨j, hj, rfl⟩ := List.getElem_of_mem ha
    exact ⟨j, _, Nat.zero_le _, List.getElem?_eq_getElem hj, h⟩
theorem miss {X : List Dk.Act} {f i k : Nat} {x : UInt8} {a : Dk.Act} (h : ∃ j a, k ≤ j ∧ X[j]? = some a ∧ Dk.Hit a f i x) (hx : X[k]? = some a) (hn : ¬ Dk.Hit a f i x) : ∃ j a, k + 1 ≤ j ∧ X[j]? = some a ∧ Dk.Hit a f i x := by
  obtain ⟨j, a', hj, ha, hh⟩ := h
  by_cases e : j = k
  · subst e
    rw [hx] at ha
    obtain rfl := Option.some.inj ha
    exact absurd hh hn
  · exact ⟨j, a', by omega, ha, hh⟩
set_option maxHeartbeats 4000000 in
set_option maxRecDepth 100000 in
theorem here_any (s sf : ByteArray) (X : List Dk.Act) (n : Nat) (hn : X.length = n) (hN : n ≤ 1000000) (hX : ∀ a ∈ X, 0 ≤ a.n ∧ a.n < 4000) (f : Nat) (xa : Option Addr) (b off cap : Nat) (w : World) (hl : LA w xa b off X) (hs : s.size ≤ 100000000) (hH : Dk.Here s.data.toList sf.data.toList X f) :
    Calls Try.prog 26 #[.string s, .string sf, .slice xa n cap, .int .i64 f] w fun e w' => e = .returned (.bool true) ∧ Below w.heap.size w w' := by
  have HL := Lib.hid hl
  have HN := Lib.hid hn
  have HX := Lib.hid hX
  have HH := Lib.hid hH
  clear hl hn hX hH
  go_enter Try.func26, Try.ntmps26
  go_wp2
  go_loopw [9, 10, 11, 12] (fun x9 x10 x11 x12 wr => ∃ i : Nat, x9 = .int .i64 i ∧ i ≤ s.size ∧ Hid (∃ q, wr = w.drewN q)) (fun x9 _ _ _ _ => s.size - (intOf x9).toNat)
  case atStart => exact ⟨0, rfl, Nat.zero_le _, ⟨0, rfl⟩⟩
  case round =>
    obtain ⟨i, rfl, hi, hW⟩ := hrel
    by_cases hlt : i < s.size
    · have gS := get_of s i hlt
      obtain ⟨x, hx0⟩ : ∃ x, s[i] = x := ⟨_, rfl⟩
      rw [hx0] at gS
      have hcase := HH.out.2 i x gS
      by_cases hsl : i < sf.size
      · have d0 : decide (sf.size ≤ i) = false := by simpa using hsl
        have gF := get_of sf i hsl
        obtain ⟨y, hy0⟩ : ∃ y, sf[i] = y := ⟨_, rfl⟩
        rw [hy0] at gF
        by_cases hxy : x = y
        · have b0 := byte_eq hxy
          clear hcase gS gF hxy
          go_wp2
          go_quiet (fail)
          go_wp2
          go_loopw [10, 11, 12] (fun x10 x11 x12 wr => ∃ (k : Nat) (ok : Bool), x10 = .bool ok ∧ x11 = .int .i64 k ∧ k ≤ n ∧ Hid (ok = true ∨ ∃ j a, k ≤ j ∧ X[j]? = some a ∧ Dk.Hit a f i x) ∧ Hid (∃ q, wr = w.drewN q)) (fun _ x11 _ _ => n - (intOf x11).toNat)
          case atStart => exact ⟨0, true, rfl, rfl, Nat.zero_le _, .inl rfl, by obtain ⟨q, rfl⟩ := hW.out; exact ⟨_, World.drewN_drewN _ _ _⟩⟩
          case round =>
            obtain ⟨k, ok, rfl, rfl, hk, hR, hW⟩ := hrel
            by_cases hkl : k < n
            · cases ok with
              | true =>
                go_wp2
                go_roundw
                case rel => exact ⟨i + 1, by go_num, by omega, hW⟩
                case measure => simp [intOf]; omega
              | false =>
                have HR := Lib.hid (hR.out.resolve_left (by decide))
                clear hR
                obtain ⟨a, hx⟩ : ∃ a, X[k]? = some a := ⟨_, List.getElem?_eq_getElem (by rw [HN.out]; exact hkl)⟩
                have HBW := Lib.hid (show Below w.heap.size w wr from by obtain ⟨q, rfl⟩ := hW.out; exact below_drewN (Below.refl _ _) q)
                obtain rfl := HL.out.at_ (by rw [HN.out]; omega)
                obtain ⟨ka, kb, koff, kn, kcap, hac, hcs⟩ := (HL.out.below HBW.out).cell k a hx
                obtain ⟨c0, c1, c2, c3, c4, c5⟩ := acells_at hcs
                obtain ⟨t, ht⟩ : ∃ t, enc a.s = t := ⟨_, rfl⟩
                have HTL := Lib.hid (show t.data.toList = a.s from by rw [← ht]; rfl)
                have htr : t.size ≤ 140737488351232 := by rw [Lib.size_eq, HTL.out]; exact hac.rs
                rw [ht] at c4
                clear ht
                obtain ⟨n0, n1⟩ := HX.out a (List.mem_of_getElem? hx)
                obtain ⟨N, hN2⟩ := Int.eq_ofNat_of_zero_le n0
                rw [hN2] at c3 n1
                clear hac hcs c0 c2 c5 n0
                by_cases hf : a.f = (f : Int)
                · have b1 : (a.f == (f : Int)) = true := by simpa using hf
                  by_cases h1 : N ≤ i
                  · obtain ⟨m, e9⟩ : ∃ m : Nat, (i : Int) - (N : Int) = (m : Int) := ⟨i - N, by omega⟩
                    by_cases h2 : m < t.size
                    · have gS := get_of t m h2
                      obtain ⟨z, hz⟩ : ∃ z, t[m] = z := ⟨_, rfl⟩
                      rw [hz] at gS
                      have hgs : a.s[((i : Int) - a.n).toNat]? = some z := by rw [hN2, show ((i : Int) - (N : Int)).toNat = m by omega, ← HTL.out]; exact gS
                      by_cases hzx : z = x
                      · have b2 := byte_eq hzx
                        clear gS hgs hN2
                        go_wp2
                        go_quiet (fail)
                        go_wp2
                        go_roundw
                        case rel => exact ⟨k + 1, true, rfl, by go_num, by omega, .inl rfl, by obtain ⟨q, rfl⟩ := hW.out; exact ⟨_, World.drewN_drewN _ _ _⟩⟩
                        case measure => simp [intOf]; omega
                      · have b2 := byte_ne hzx
                        have HM := Lib.hid (miss HR.out hx (fun h => hzx (by have := h.2.2; rw [hgs] at this; exact Option.some.inj this)))
                        go_wp2
                        go_quiet (fail)
                        go_wp2
                        go_roundw
                        case rel => exact ⟨k + 1, false, rfl, by go_num, by omega, .inr HM.out, by obtain ⟨q, rfl⟩ := hW.out; exact ⟨_, World.drewN_drewN _ _ _⟩⟩
                        case measure => simp [intOf]; omega
                    · have d2 : decide (m < t.size) = false := by simpa using h2
                      have HM := Lib.hid (miss HR.out hx (fun h => h2 (by have := (List.getElem?_eq_some_iff.1 h.2.2).1; rw [hN2, show ((i : Int) - (N : Int)).toNat = m by omega, ← HTL.out, ← Lib.size_eq] at this; omega)))
                      go_wp2
                      go_quiet (fail)
                      go_wp2
                      go_roundw
                      case rel => exact ⟨k + 1, false, rfl, by go_num, by omega, .inr HM.out, by obtain ⟨q, rfl⟩ := hW.out; exact ⟨_, World.drewN_drewN _ _ _⟩⟩
                      case measure => simp [intOf]; omega
                  · have d1 : decide ((0 : Int) ≤ (i : Int) - (N : Int)) = false := by simp; omega
                    have d2 : ¬ ((0 : Int) ≤ (i : Int) - (N : Int)) := by omega
                    have d3 : decide (N ≤ i) = false := by simpa using h1
                    have d4 : decide ((N : Int) ≤ (i : Int)) = false := by simp; omega
                    have HM := Lib.hid (miss HR.out hx (fun h => h1 (by have := h.2.1; omega)))
                    go_wp2
                    go_quiet (fail)
                    go_wp2
                    go_roundw
                    case rel => exact ⟨k + 1, false, rfl, by go_num, by omega, .inr HM.out, by obtain ⟨q, rfl⟩ := hW.out; exact ⟨_, World.drewN_drewN _ _ _⟩⟩
                    case measure => simp [intOf]; omega
                · have b1 : (a.f == (f : Int)) = false := by simpa using hf
                  have HM := Lib.hid (miss HR.out hx (fun h => hf h.1))
                  go_wp2
                  go_quiet (fail)
                  go_wp2
                  go_roundw
                  case rel => exact ⟨k + 1, false, rfl, by go_num, by omega, .inr HM.out, by obtain ⟨q, rfl⟩ := hW.out; exact ⟨_, World.drewN_drewN _ _ _⟩⟩
                  case measure => simp [intOf]; omega
            · obtain rfl : k = n := by omega
              obtain rfl : ok = true := by
                rcases hR.out with h | ⟨j, a, hj, ha, _⟩
                · exact h
                · have := (List.getElem?_eq_some_iff.1 ha).1
                  have e := HN.out
                  omega
              go_wp2
              go_roundw
              case rel => exact ⟨i + 1, by go_num, by omega, hW⟩
              case measure => simp [intOf]; omega
        · have b0 := byte_ne hxy
          have HQ := Lib.hid (hit_of hcase (fun h => hxy (by rw [gF] at h; exact (Option.some.inj h).symm)) (fun h => by rw [← Lib.size_eq] at h; omega))
          clear hcase gS gF
          go_wp2
          go_quiet (fail)
          go_wp2
          go_loopw [10, 11, 12] (fun x10 x11 x12 wr => ∃ (k : Nat) (ok : Bool), x10 = .bool ok ∧ x11 = .int .i64 k ∧ k ≤ n ∧ Hid (ok = true ∨ ∃ j a, k ≤ j ∧ X[j]? = some a ∧ Dk.Hit a f i x) ∧ Hid (∃ q, wr = w.drewN q)) (fun _ x11 _ _ => n - (intOf x11).toNat)
          case atStart => exact ⟨0, false, rfl, rfl, Nat.zero_le _, .inr HQ.out, by obtain ⟨q, rfl⟩ := hW.out; exact ⟨_, World.drewN_drewN _ _ _⟩⟩
          case round =>
            obtain ⟨k, ok, rfl, rfl, hk, hR, hW⟩ := hrel
            by_cases hkl : k < n
            · cases ok with
              | true =>
                go_wp2
                go_roundw
                case rel => exact ⟨i + 1, by go_num, by omega, hW⟩
                case measure => simp [intOf]; omega
              | false =>
                have HR := Lib.hid (hR.out.resolve_left (by decide))
                clear hR
                obtain ⟨a, hx⟩ : ∃ a, X[k]? = some a := ⟨_, List.getElem?_eq_getElem (by rw [HN.out]; exact hkl)⟩
                have HBW := Lib.hid (show Below w.heap.size w wr from by obtain ⟨q, rfl⟩ := hW.out; exact below_drewN (Below.refl _ _) q)
                obtain rfl := HL.out.at_ (by rw [HN.out]; omega)
                obtain ⟨ka, kb, koff, kn, kcap, hac, hcs⟩ := (HL.out.below HBW.out).cell k a hx
                obtain ⟨c0, c1, c2, c3, c4, c5⟩ := acells_at hcs
                obtain ⟨t, ht⟩ : ∃ t, enc a.s = t := ⟨_, rfl⟩
                have HTL := Lib.hid (show t.data.toList = a.s from by rw [← ht]; rfl)
                have htr : t.size ≤ 140737488351232 := by rw [Lib.size_eq, HTL.out]; exact hac.rs
                rw [ht] at c4
                clear ht
                obtain ⟨n0, n1⟩ := HX.out a (List.mem_of_getElem? hx)
                obtain ⟨N, hN2⟩ := Int.eq_ofNat_of_zero_le n0
                rw [hN2] at c3 n1
                clear hac hcs c0 c2 c5 n0
                by_cases hf : a.f = (f : Int)
                · have b1 : (a.f == (f : Int)) = true := by simpa using hf
                  by_cases h1 : N ≤ i
                  · obtain ⟨m, e9⟩ : ∃ m : Nat, (i : Int) - (N : Int) = (m : Int) := ⟨i - N, by omega⟩
                    by_cases h2 : m < t.size
                    · have gS := get_of t m h2
                      obtain ⟨z, hz⟩ : ∃ z, t[m] = z := ⟨_, rfl⟩
                      rw [hz] at gS
                      have hgs : a.s[((i : Int) - a.n).toNat]? = some z := by rw [hN2, show ((i : Int) - (N : Int)).toNat = m by omega, ← HTL.out]; exact gS
                      by_cases hzx : z = x
                      · have b2 := byte_eq hzx
                        clear gS hgs hN2
                        go_wp2
                        go_quiet (fail)
                        go_wp2
                        go_roundw
                        case rel => exact ⟨k + 1, true, rfl, by go_num, by omega, .inl rfl, by obtain ⟨q, rfl⟩ := hW.out; exact ⟨_, World.drewN_drewN _ _ _⟩⟩
                        case measure => simp [intOf]; omega
                      · have b2 := byte_ne hzx
                        have HM := Lib.hid (miss HR.out hx (fun h => hzx (by have := h.2.2; rw [hgs] at this; exact Option.some.inj this)))
                        go_wp2
                        go_quiet (fail)
                        go_wp2
                        go_roundw
                        case rel => exact ⟨k + 1, false, rfl, by go_num, by omega, .inr HM.out, by obtain ⟨q, rfl⟩ := hW.out; exact ⟨_, World.drewN_drewN _ _ _⟩⟩
                        case measure => simp [intOf]; omega
                    · have d2 : decide (m < t.size) = false := by simpa using h2
                      have HM := Lib.hid (miss HR.out hx (fun h => h2 (by have := (List.getElem?_eq_some_iff.1 h.2.2).1; rw [hN2, show ((i : Int) - (N : Int)).toNat = m by omega, ← HTL.out, ← Lib.size_eq] at this; omega)))
                      go_wp2
                      go_quiet (fail)
                      go_wp2
                      go_roundw
                      case rel => exact ⟨k + 1, false, rfl, by go_num, by omega, .inr HM.out, by obtain ⟨q, rfl⟩ := hW.out; exact ⟨_, World.drewN_drewN _ _ _⟩⟩
                      case measure => simp [intOf]; omega
                  · have d1 : decide ((0 : Int) ≤ (i : Int) - (N : Int)) = false := by simp; omega
                    have d2 : ¬ ((0 : Int) ≤ (i : Int) - (N : Int)) := by omega
                    have d3 : decide (N ≤ i) = false := by simpa using h1
                    have d4 : decide ((N : Int) ≤ (i : Int)) = false := by simp; omega
                    have HM := Lib.hid (miss HR.out hx (fun h => h1 (by have := h.2.1; omega)))
                    go_wp2
                    go_quiet (fail)
                    go_wp2
                    go_roundw
                    case rel => exact ⟨k + 1, false, rfl, by go_num, by omega, .inr HM.out, by obtain ⟨q, rfl⟩ := hW.out; exact ⟨_, World.drewN_drewN _ _ _⟩⟩
                    case measure => simp [intOf]; omega
                · have b1 : (a.f == (f : Int)) = false := by simpa using hf
                  have HM := Lib.hid (miss HR.out hx (fun h => hf h.1))
                  go_wp2
                  go_quiet (fail)
                  go_wp2
                  go_roundw
                  case rel => exact ⟨k + 1, false, rfl, by go_num, by omega, .inr HM.out, by obtain ⟨q, rfl⟩ := hW.out; exact ⟨_, World.drewN_drewN _ _ _⟩⟩
                  case measure => simp [intOf]; omega
            · obtain rfl : k = n := by omega
              obtain rfl : ok = true := by
                rcases hR.out with h | ⟨j, a, hj, ha, _⟩
                · exact h
                · have := (List.getElem?_eq_some_iff.1 ha).1
                  have e := HN.out
                  omega
              go_wp2
              go_roundw
              case rel => exact ⟨i + 1, by go_num, by omega, hW⟩
              case measure => simp [intOf]; omega
      · have d0 : decide (i < sf.size) = false := by simpa using hsl
        have d9 : sf.size ≤ i := by omega
        have gF : sf.data.toList[i]? = none := List.getElem?_eq_none (by rw [← Lib.size_eq]; omega)
        by_cases hxz : x = 0
        · have b0 : ((x.toNat : Int) == 0) = true := by rw [hxz]; rfl
          clear hcase gS gF hxz
          go_wp2
          go_quiet (fail)
          go_wp2
          go_loopw [10, 11, 12] (fun x10 x11 x12 wr => ∃ (k : Nat) (ok : Bool), x10 = .bool ok ∧ x11 = .int .i64 k ∧ k ≤ n ∧ Hid (ok = true ∨ ∃ j a, k ≤ j ∧ X[j]? = some a ∧ Dk.Hit a f i x) ∧ Hid (∃ q, wr = w.drewN q)) (fun _ x11 _ _ => n - (intOf x11).toNat)
          case atStart => exact ⟨0, true, rfl, rfl, Nat.zero_le _, .inl rfl, by obtain ⟨q, rfl⟩ := hW.out; exact ⟨_, World.drewN_drewN _ _ _⟩⟩
          case round =>
            obtain ⟨k, ok, rfl, rfl, hk, hR, hW⟩ := hrel
            by_cases hkl : k < n
            · cases ok with
              | true =>
                go_wp2
                go_roundw
                case rel => exact ⟨i + 1, by go_num, by omega, hW⟩
                case measure => simp [intOf]; omega
              | false =>
                have HR := Lib.hid (hR.out.resolve_left (by decide))
                clear hR
                obtain ⟨a, hx⟩ : ∃ a, X[k]? = some a := ⟨_, List.getElem?_eq_getElem (by rw [HN.out]; exact hkl)⟩
                have HBW := Lib.hid (show Below w.heap.size w wr from by obtain ⟨q, rfl⟩ := hW.out; exact below_drewN (Below.refl _ _) q)
                obtain rfl := HL.out.at_ (by rw [HN.out]; omega)
                obtain ⟨ka, kb, koff, kn, kcap, hac, hcs⟩ := (HL.out.below HBW.out).cell k a hx
                obtain ⟨c0, c1, c2, c3, c4, c5⟩ := acells_at hcs
                obtain ⟨t, ht⟩ : ∃ t, enc a.s = t := ⟨_, rfl⟩
                have HTL := Lib.hid (show t.data.toList = a.s from by rw [← ht]; rfl)
                have htr : t.size ≤ 140737488351232 := by rw [Lib.size_eq, HTL.out]; exact hac.rs
                rw [ht] at c4
                clear ht
                obtain ⟨n0, n1⟩ := HX.out a (List.mem_of_getElem? hx)
                obtain ⟨N, hN2⟩ := Int.eq_ofNat_of_zero_le n0
                rw [hN2] at c3 n1
                clear hac hcs c0 c2 c5 n0
                by_cases hf : a.f = (f : Int)
                · have b1 : (a.f == (f : Int)) = true := by simpa using hf
                  by_cases h1 : N ≤ i
                  · obtain ⟨m, e9⟩ : ∃ m : Nat, (i : Int) - (N : Int) = (m : Int) := ⟨i - N, by omega⟩
                    by_cases h2 : m < t.size
                    · have gS := get_of t m h2
                      obtain ⟨z, hz⟩ : ∃ z, t[m] = z := ⟨_, rfl⟩
                      rw [hz] at gS
                      have hgs : a.s[((i : Int) - a.n).toNat]? = some z := by rw [hN2, show ((i : Int) - (N : Int)).toNat = m by omega, ← HTL.out]; exact gS
                      by_cases hzx : z = x
                      · have b2 := byte_eq hzx
                        clear gS hgs hN2
                        go_wp2
                        go_quiet (fail)
                        go_wp2
                        go_roundw
                        case rel => exact ⟨k + 1, true, rfl, by go_num, by omega, .inl rfl, by obtain ⟨q, rfl⟩ := hW.out; exact ⟨_, World.drewN_drewN _ _ _⟩⟩
                        case measure => simp [intOf]; omega
                      · have b2 := byte_ne hzx
                        have HM := Lib.hid (miss HR.out hx (fun h => hzx (by have := h.2.2; rw [hgs] at this; exact Option.some.inj this)))
                        go_wp2
                        go_quiet (fail)
                        go_wp2
                        go_roundw
                        case rel => exact ⟨k + 1, false, rfl, by go_num, by omega, .inr HM.out, by obtain ⟨q, rfl⟩ := hW.out; exact ⟨_, World.drewN_drewN _ _ _⟩⟩
                        case measure => simp [intOf]; omega
                    · have d2 : decide (m < t.size) = false := by simpa using h2
                      have HM := Lib.hid (miss HR.out hx (fun h => h2 (by have := (List.getElem?_eq_some_iff.1 h.2.2).1; rw [hN2, show ((i : Int) - (N : Int)).toNat = m by omega, ← HTL.out, ← Lib.size_eq] at this; omega)))
                      go_wp2
                      go_quiet (fail)
                      go_wp2
                      go_roundw
                      case rel => exact ⟨k + 1, false, rfl, by go_num, by omega, .inr HM.out, by obtain ⟨q, rfl⟩ := hW.out; exact ⟨_, World.drewN_drewN _ _ _⟩⟩
                      case measure => simp [intOf]; omega
                  · have d1 : decide ((0 : Int) ≤ (i : Int) - (N : Int)) = false := by simp; omega
                    have d2 : ¬ ((0 : Int) ≤ (i : Int) - (N : Int)) := by omega
                    have d3 : decide (N ≤ i) = false := by simpa using h1
                    have d4 : decide ((N : Int) ≤ (i : Int)) = false := by simp; omega
                    have HM := Lib.hid (miss HR.out hx (fun h => h1 (by have := h.2.1; omega)))
                    go_wp2
                    go_quiet (fail)
                    go_wp2
                    go_roundw
                    case rel => exact ⟨k + 1, false, rfl, by go_num, by omega, .inr HM.out, by obtain ⟨q, rfl⟩ := hW.out; exact ⟨_, World.drewN_drewN _ _ _⟩⟩
                    case measure => simp [intOf]; omega
                · have b1 : (a.f == (f : Int)) = false := by simpa using hf
                  have HM := Lib.hid (miss HR.out hx (fun h => hf h.1))
                  go_wp2
                  go_quiet (fail)
                  go_wp2
                  go_roundw
                  case rel => exact ⟨k + 1, false, rfl, by go_num, by omega, .inr HM.out, by obtain ⟨q, rfl⟩ := hW.out; exact ⟨_, World.drewN_drewN _ _ _⟩⟩
                  case measure => simp [intOf]; omega
            · obtain rfl : k = n := by omega
              obtain rfl : ok = true := by
                rcases hR.out with h | ⟨j, a, hj, ha, _⟩
                · exact h
                · have := (List.getElem?_eq_some_iff.1 ha).1
                  have e := HN.out
                  omega
              go_wp2
              go_roundw
              case rel => exact ⟨i + 1, by go_num, by omega, hW⟩
              case measure => simp [intOf]; omega
        · have b0 : ((x.toNat : Int) == 0) = false := by
            rw [beq_eq_false_iff_ne]; intro e; exact hxz (by rw [← UInt8.toNat_inj]; simp; omega)
          have HQ := Lib.hid (hit_of hcase (fun h => by rw [gF] at h; cases h) (fun h => hxz h.2))
          clear hcase gS gF
          go_wp2
          go_quiet (fail)
          go_wp2
          go_loopw [10, 11, 12] (fun x10 x11 x12 wr => ∃ (k : Nat) (ok : Bool), x10 = .bool ok ∧ x11 = .int .i64 k ∧ k ≤ n ∧ Hid (ok = true ∨ ∃ j a, k ≤ j ∧ X[j]? = some a ∧ Dk.Hit a f i x) ∧ Hid (∃ q, wr = w.drewN q)) (fun _ x11 _ _ => n - (intOf x11).toNat)
          case atStart => exact ⟨0, false, rfl, rfl, Nat.zero_le _, .inr HQ.out, by obtain ⟨q, rfl⟩ := hW.out; exact ⟨_, World.drewN_drewN _ _ _⟩⟩
          case round =>
            obtain ⟨k, ok, rfl, rfl, hk, hR, hW⟩ := hrel
            by_cases hkl : k < n
            · cases ok with
              | true =>
                go_wp2
                go_roundw
                case rel => exact ⟨i + 1, by go_num, by omega, hW⟩
                case measure => simp [intOf]; omega
              | false =>
                have HR := Lib.hid (hR.out.resolve_left (by decide))
                clear hR
                obtain ⟨a, hx⟩ : ∃ a, X[k]? = some a := ⟨_, List.getElem?_eq_getElem (by rw [HN.out]; exact hkl)⟩
                have HBW := Lib.hid (show Below w.heap.size w wr from by obtain ⟨q, rfl⟩ := hW.out; exact below_drewN (Below.refl _ _) q)
                obtain rfl := HL.out.at_ (by rw [HN.out]; omega)
                obtain ⟨ka, kb, koff, kn, kcap, hac, hcs⟩ := (HL.out.below HBW.out).cell k a hx
                obtain ⟨c0, c1, c2, c3, c4, c5⟩ := acells_at hcs
                obtain ⟨t, ht⟩ : ∃ t, enc a.s = t := ⟨_, rfl⟩
                have HTL := Lib.hid (show t.data.toList = a.s from by rw [← ht]; rfl)
                have htr : t.size ≤ 140737488351232 := by rw [Lib.size_eq, HTL.out]; exact hac.rs
                rw [ht] at c4
                clear ht
                obtain ⟨n0, n1⟩ := HX.out a (List.mem_of_getElem? hx)
                obtain ⟨N, hN2⟩ := Int.eq_ofNat_of_zero_le n0
                rw [hN2] at c3 n1
                clear hac hcs c0 c2 c5 n0
                by_cases hf : a.f = (f : Int)
                · have b1 : (a.f == (f : Int)) = true := by simpa using hf
                  by_cases h1 : N ≤ i
                  · obtain ⟨m, e9⟩ : ∃ m : Nat, (i : Int) - (N : Int) = (m : Int) := ⟨i - N, by omega⟩
                    by_cases h2 : m < t.size
                    · have gS := get_of t m h2
                      obtain ⟨z, hz⟩ : ∃ z, t[m] = z := ⟨_, rfl⟩
                      rw [hz] at gS
                      have hgs : a.s[((i : Int) - a.n).toNat]? = some z := by rw [hN2, show ((i : Int) - (N : Int)).toNat = m by omega, ← HTL.out]; exact gS
                      by_cases hzx : z = x
                      · have b2 := byte_eq hzx
                        clear gS hgs hN2
                        go_wp2
                        go_quiet (fail)
                        go_wp2
                        go_roundw
                        case rel => exact ⟨k + 1, true, rfl, by go_num, by omega, .inl rfl, by obtain ⟨q, rfl⟩ := hW.out; exact ⟨_, World.drewN_drewN _ _ _⟩⟩
                        case measure => simp [intOf]; omega
                      · have b2 := byte_ne hzx
                        have HM := Lib.hid (miss HR.out hx (fun h => hzx (by have := h.2.2; rw [hgs] at this; exact Option.some.inj this)))
                        go_wp2
                        go_quiet (fail)
                        go_wp2
                        go_roundw
                        case rel => exact ⟨k + 1, false, rfl, by go_num, by omega, .inr HM.out, by obtain ⟨q, rfl⟩ := hW.out; exact ⟨_, World.drewN_drewN _ _ _⟩⟩
                        case measure => simp [intOf]; omega
                    · have d2 : decide (m < t.size) = false := by simpa using h2
                      have HM := Lib.hid (miss HR.out hx (fun h => h2 (by have := (List.getElem?_eq_some_iff.1 h.2.2).1; rw [hN2, show ((i : Int) - (N : Int)).toNat = m by omega, ← HTL.out, ← Lib.size_eq] at this; omega)))
                      go_wp2
                      go_quiet (fail)
                      go_wp2
                      go_roundw
                      case rel => exact ⟨k + 1, false, rfl, by go_num, by omega, .inr HM.out, by obtain ⟨q, rfl⟩ := hW.out; exact ⟨_, World.drewN_drewN _ _ _⟩⟩
                      case measure => simp [intOf]; omega
                  · have d1 : decide ((0 : Int) ≤ (i : Int) - (N : Int)) = false := by simp; omega
                    have d2 : ¬ ((0 : Int) ≤ (i : Int) - (N : Int)) := by omega
                    have d3 : decide (N ≤ i) = false := by simpa using h1
                    have d4 : decide ((N : Int) ≤ (i : Int)) = false := by simp; omega
                    have HM := Lib.hid (miss HR.out hx (fun h => h1 (by have := h.2.1; omega)))
                    go_wp2
                    go_quiet (fail)
                    go_wp2
                    go_roundw
                    case rel => exact ⟨k + 1, false, rfl, by go_num, by omega, .inr HM.out, by obtain ⟨q, rfl⟩ := hW.out; exact ⟨_, World.drewN_drewN _ _ _⟩⟩
                    case measure => simp [intOf]; omega
                · have b1 : (a.f == (f : Int)) = false := by simpa using hf
                  have HM := Lib.hid (miss HR.out hx (fun h => hf h.1))
                  go_wp2
                  go_quiet (fail)
                  go_wp2
                  go_roundw
                  case rel => exact ⟨k + 1, false, rfl, by go_num, by omega, .inr HM.out, by obtain ⟨q, rfl⟩ := hW.out; exact ⟨_, World.drewN_drewN _ _ _⟩⟩
                  case measure => simp [intOf]; omega
            · obtain rfl : k = n := by omega
              obtain rfl : ok = true := by
                rcases hR.out with h | ⟨j, a, hj, ha, _⟩
                · exact h
                · have := (List.getElem?_eq_some_iff.1 ha).1
                  have e := HN.out
                  omega
              go_wp2
              go_roundw
              case rel => exact ⟨i + 1, by go_num, by omega, hW⟩
              case measure => simp [intOf]; omega
    · obtain rfl : i = s.size := by omega
      have hge := HH.out.1
      rw [← Lib.size_eq, ← Lib.size_eq] at hge
      go_wp2
      go_ret
      exact ⟨rfl, by obtain ⟨q, rfl⟩ := hW.out; exact below_drewN (Below.refl _ _) q⟩
end Go.Proofs.Ytbpodclodflgfaa
