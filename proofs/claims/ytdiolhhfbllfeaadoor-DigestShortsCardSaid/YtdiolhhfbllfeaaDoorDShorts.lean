/-
  DigestShorts's law.
-/
import Derived.Test.YtdiolhhfbllfeaaDoorDSmall
import Derived.Test.YtdiolhhfbllfeaaDoorDShort
namespace Go.Proofs.YtdiolhhfbllfeaaDoor
open Go Go.RowKit Go.Shelf
/-- What is left of the number when k bytes are still to be compared. -/
def Dg.left (l : List UInt8) (k : Nat) : Nat := if k = 8 then Dg.numK l 8 / 16 else Dg.numK l k
theorem Dg.left_eight (l : List UInt8) : Dg.left l 8 % 16 = (l.getD 7 0).toNat / 16 ∧ Dg.left l 8 / 16 = Dg.left l 7 := by
  have h : Dg.numK l 8 = Dg.numK l 7 * 256 + (l.getD 7 0).toNat := rfl
  have hc := UInt8.toNat_lt (l.getD 7 0)
  unfold Dg.left
  rw [if_pos rfl, if_neg (by omega), h]
  omega
theorem Dg.left_less (l : List UInt8) (k : Nat) (h7 : k < 7) : Dg.left l (k + 1) % 256 = (l.getD k 0).toNat ∧ Dg.left l (k + 1) / 256 = Dg.left l k := by
  have h : Dg.numK l (k + 1) = Dg.numK l k * 256 + (l.getD k 0).toNat := rfl
  have hc := UInt8.toNat_lt (l.getD k 0)
  unfold Dg.left
  rw [if_neg (by omega), if_neg (by omega), h]
  omega
theorem Dg.left_lt (l : List UInt8) (k : Nat) (h8 : k ≤ 8) : Dg.left l k < 1152921504606846976 := by
  have h1 := Dg.numK_lt l 8
  have h2 := Dg.numK_lt l k
  unfold Dg.left
  by_cases h : k = 8
  · rw [if_pos h]; simp at h1; omega
  · rw [if_neg h]
    have : 256 ^ k ≤ 256 ^ 7 := Nat.pow_le_pow_right (by omega) (by omega)
    omega
set_option maxHeartbeats 4000000 in
set_option maxRecDepth 100000 in
theorem shorts_law (s : ByteArray) (w : World) (hE : Env w) :
    Calls Tryd.prog 8 #[.string s] w fun e w' => e = .returned (.bool true) ∧ Below w.heap.size w w' := by
  have HE := Lib.hid hE
  have HS := Lib.hid (small_any w hE)
  clear hE
  by_cases h2 : 2000 < s.size
  · go_enter Tryd.func8, Tryd.ntmps8
    go_wp2_with fail
    refine HS.out.mono ?_
    rintro e w1 ⟨rfl, hb⟩
    go_wp2
    go_ret
    exact ⟨rfl, hb⟩
  · have HSum := Lib.hid (fun (w1 : World) (h : Env w1) => sum_any s (by omega) w1 h)
    have HSh := Lib.hid (fun (w1 : World) (h : Env w1) => short_any s (by omega) w1 h)
    have hN : Dg.short s.data.toList = Dg.left (Dg.sha s.data.toList) 8 := rfl
    have hl := Dg.sha_length s.data.toList
    rw [hN] at HSh
    obtain ⟨D, hD⟩ : ∃ D : ByteArray, (⟨(Dg.sha s.data.toList).toArray⟩ : ByteArray) = D := ⟨_, rfl⟩
    have hDl : Dg.sha s.data.toList = D.data.toList := by rw [← hD]
    rw [hD] at HSum
    rw [hDl] at hl HSh
    have hsz : D.size = 32 := by rw [Lib.size_eq]; exact hl
    clear hD hDl hl hN
    go_enter Tryd.func8, Tryd.ntmps8
    go_wp2_with fail
    refine HS.out.mono ?_
    rintro e w1 ⟨rfl, hb⟩
    have HB := Lib.hid hb
    clear hb
    go_wp2_with fail
    refine (HSum.out w1 (HE.out.new HB.out)).mono ?_
    rintro e w2 ⟨rfl, hb⟩
    have HB2 := Lib.hid (HB.out.trans (hb.mono HB.out.size))
    clear hb HB
    go_wp2_with fail
    refine (HSh.out w2 (HE.out.new HB2.out)).mono ?_
    rintro e w3 ⟨rfl, hb⟩
    have HB3 := Lib.hid (HB2.out.trans (hb.mono HB2.out.size))
    clear hb HB2
    go_wp2_with fail
    go_loopw [5, 6] (fun v i wr => ∃ k : Nat, v = .int .i64 (Dg.left D.data.toList k : Nat) ∧ i = .int .i64 ((k : Int) - 1) ∧ k ≤ 8 ∧ wr = w3) (fun _ i _ => (intOf i + 1).toNat)
    case atStart => exact ⟨8, rfl, rfl, by omega, rfl⟩
    case round =>
      obtain ⟨k, rfl, rfl, hk, rfl⟩ := hrel
      have hlt := Dg.left_lt D.data.toList k hk
      by_cases h0 : k = 0
      · subst h0
        have hz : Dg.left D.data.toList 0 = 0 := rfl
        rw [hz]
        clear hz hlt
        go_wp2
        go_ret
        exact ⟨rfl, HB3.out⟩
      · obtain ⟨j, hj⟩ : ∃ j, k = j + 1 := ⟨k - 1, by omega⟩
        obtain ⟨c, hc⟩ : ∃ c, D[j] = c := ⟨_, rfl⟩
        have hc2 : D.data.toList.getD j 0 = c := by
          have hsz2 := Lib.size_eq D
          rw [← hc, List.getD_eq_getElem?_getD, List.getElem?_eq_getElem (by omega)]
          rfl
        have e1 : ((k : Int) - 1) = (j : Int) := by omega
        have hcl := UInt8.toNat_lt c
        by_cases h8 : k = 8
        · obtain rfl : j = 7 := by omega
          have hL := Dg.left_eight D.data.toList
          rw [hc2] at hL
          subst h8
          obtain ⟨n, hn⟩ : ∃ n, Dg.left D.data.toList 8 = n := ⟨_, rfl⟩
          rw [hn] at hL hlt ⊢
          have q1 : ((n : Int) % 16) = (c.toNat : Int) / 16 := by omega
          have hL2 := Lib.hid hL.2
          clear hn hL hc2 e1
          go_wp2
          go_roundw
          case rel => exact ⟨7, by rw [← hL2.out]; first | rfl | simp, by first | rfl | go_num, by omega, by first | rfl | trivial⟩
          case measure => simp [intOf]
        · have hL := Dg.left_less D.data.toList j (by omega)
          rw [hc2] at hL
          rw [e1]
          subst hj
          obtain ⟨n, hn⟩ : ∃ n, Dg.left D.data.toList (j + 1) = n := ⟨_, rfl⟩
          rw [hn] at hL hlt ⊢
          have q1 : ((n : Int) % 256) = (c.toNat : Int) := by omega
          have q2 : j ≤ 6 := by omega
          have hL2 := Lib.hid hL.2
          clear hn hL hc2 e1 h8
          go_wp2
          go_roundw
          case rel => exact ⟨j, by rw [← hL2.out]; first | rfl | simp, by first | rfl | go_num, by omega, by first | rfl | trivial⟩
          case measure => simp [intOf]
end Go.Proofs.YtdiolhhfbllfeaaDoor
