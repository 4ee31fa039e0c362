/-
  Short.
-/
import Derived.Test.YteiabaddmclmlaaDoorDSum
namespace Go.Proofs.YteiabaddmclmlaaDoor
open Go Go.RowKit Go.Shelf
namespace Dg
def numK (l : List UInt8) : Nat → Nat
  | 0 => 0
  | k + 1 => numK l k * 256 + (l.getD k 0).toNat
theorem numK_lt (l : List UInt8) : ∀ k, numK l k < 256 ^ k
  | 0 => by simp [numK]
  | k + 1 => by
    have := numK_lt l k
    have hc := UInt8.toNat_lt (l.getD k 0)
    rw [Nat.pow_succ]
    show numK l k * 256 + _ < _
    omega
def short (l : List UInt8) : Nat := numK (sha l) 8 / 16
theorem or64 (n : Nat) (c : UInt8) (h : n < 72057594037927936) : bits .or .u64 ((n : Int) * 256) (c.toNat : Int) = ((n * 256 + c.toNat : Nat) : Int) := by
  have hc := UInt8.toNat_lt c
  have e : (n : Int) * 256 = ((256 * n : Nat) : Int) := by omega
  have e2 : 256 * n ||| c.toNat = 256 * n + c.toNat := (Nat.two_pow_add_eq_or_of_lt (i := 8) hc n).symm
  rw [e, u64_or_nat _ _ (by omega) (by omega), e2]
  omega
end Dg
set_option maxHeartbeats 4000000 in
set_option maxRecDepth 100000 in
theorem short_any (s : ByteArray) (hs : s.size ≤ 100000000) (w : World) (hE : Env w) :
    Calls Tryd.prog 17 #[.string s] w fun e w' => e = .returned (.int .i64 (Dg.short s.data.toList : Nat)) ∧ Below w.heap.size w w' := by
  have HS := Lib.hid (sum_any s hs w hE)
  clear hE
  have HF := Lib.hid (show ∀ P : Nat → Prop, P (Dg.numK (Dg.sha s.data.toList) 8 / 16) → P (Dg.short s.data.toList) from fun P h => h)
  obtain ⟨r, hr⟩ : ∃ r, Dg.short s.data.toList = r := ⟨_, rfl⟩
  rw [hr] at HF ⊢
  clear hr
  have hl := Dg.sha_length s.data.toList
  obtain ⟨D, hD⟩ : ∃ D : ByteArray, (⟨(Dg.sha s.data.toList).toArray⟩ : ByteArray) = D := ⟨_, rfl⟩
  have hDl : Dg.sha s.data.toList = D.data.toList := by rw [← hD]
  rw [hD] at HS
  rw [hDl] at hl HF
  have hsz : D.size = 32 := by rw [Lib.size_eq]; exact hl
  have hsz1 : 32 ≤ D.size := by omega
  clear hD hDl hl hsz
  go_enter Tryd.func17, Tryd.ntmps17
  go_wp2_with fail
  refine HS.out.mono ?_
  rintro e w1 ⟨rfl, hb⟩
  have HB := Lib.hid hb
  clear hb HS
  go_wp2_with fail
  go_loopw [3, 8] (fun v i wr => ∃ k : Nat, i = .int .i64 k ∧ k ≤ 8 ∧ v = .int .u64 (Dg.numK D.data.toList k : Nat) ∧ wr = w1) (fun _ i _ => 8 - (intOf i).toNat)
  case atStart => exact ⟨0, rfl, by omega, rfl, rfl⟩
  case round =>
    obtain ⟨k, rfl, hk, rfl, rfl⟩ := hrel
    by_cases hlt : k < 8
    · have hN : Dg.numK D.data.toList (k + 1) = Dg.numK D.data.toList k * 256 + (D.data.toList.getD k 0).toNat := rfl
      have hb := Dg.numK_lt D.data.toList k
      have hp : 256 ^ k ≤ 256 ^ 7 := Nat.pow_le_pow_right (by omega) (by omega)
      obtain ⟨c, hc⟩ : ∃ c, D[k] = c := ⟨_, rfl⟩
      have hc2 : D.data.toList.getD k 0 = c := by
        have hsz2 := Lib.size_eq D
        rw [← hc, List.getD_eq_getElem?_getD, List.getElem?_eq_getElem (by omega)]
        rfl
      rw [hc2] at hN
      obtain ⟨n, hn⟩ : ∃ n, Dg.numK D.data.toList k = n := ⟨_, rfl⟩
      rw [hn] at hN hb ⊢
      have hn7 : n < 72057594037927936 := Nat.lt_of_lt_of_le hb hp
      have hor := Dg.or64 n c hn7
      have HN := Lib.hid (show ∀ P : Nat → Prop, P (n * 256 + c.toNat) → P (Dg.numK D.data.toList (k + 1)) from fun P h => by rw [hN]; exact h)
      obtain ⟨n', hn'⟩ : ∃ n', n * 256 + c.toNat = n' := ⟨_, rfl⟩
      rw [hn'] at hor HN
      have hcl := UInt8.toNat_lt c
      clear hn hN hb hp hc2 hn'
      go_wp2
      go_roundw
      case rel => exact ⟨k + 1, by go_num, by omega, HN.out (fun x => Value.int IntKind.u64 (n' : Int) = Value.int IntKind.u64 (x : Int)) rfl, trivial⟩
      case measure => simp [intOf]; omega
    · obtain rfl : k = 8 := by omega
      have hb : Dg.numK D.data.toList 8 < 18446744073709551616 := Dg.numK_lt D.data.toList 8
      obtain ⟨n, hn⟩ : ∃ n, Dg.numK D.data.toList 8 = n := ⟨_, rfl⟩
      rw [hn] at HF hb ⊢
      clear hn
      go_wp2
      go_ret
      exact ⟨HF.out (fun x => Ending.returned (.int .i64 _) = .returned (.int .i64 (x : Int))) (by show _ = Ending.returned (Value.int .i64 ((n / 16 : Nat) : Int)); first | rfl | exact ret_int (by simp)), HB.out⟩
end Go.Proofs.YteiabaddmclmlaaDoor
