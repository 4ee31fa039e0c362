/-
  isHash, areHashes, cutLast of the program, hashes of the reference.
-/
import Derived.Test.YteiabaddmclmlaaDoorMRow
import Derived.Test.YteiabaddmclmlaaDoorMClash
namespace Go.Proofs.YteiabaddmclmlaaDoor
open Go Go.RowKit Go.Shelf
namespace Mk
def hashy (x : B) : Bool := decide (x.length = 32)
def hashes (L : List B) : Bool := L.all hashy
def AllTo (L : List B) (k : Nat) : Prop := ∀ j, j < k → hashy (L.getD j []) = true
theorem AllTo.next {L : List B} {k : Nat} (h : AllTo L k) (hk : hashy (L.getD k []) = true) : AllTo L (k + 1) := fun j hj => by
  rcases Nat.lt_succ_iff_lt_or_eq.1 hj with h1 | rfl
  · exact h j h1
  · exact hk
theorem AllTo.all {L : List B} (h : AllTo L L.length) : hashes L = true := by
  unfold hashes
  rw [List.all_eq_true]
  intro x hx
  obtain ⟨j, hj, rfl⟩ := List.getElem_of_mem hx
  have := h j hj
  rwa [List.getD_eq_getElem?_getD, List.getElem?_eq_getElem hj] at this
theorem hashes_not {L : List B} {k : Nat} (hk : k < L.length) (h : hashy (L.getD k []) = false) : hashes L = false := by
  unfold hashes
  rw [List.all_eq_false]
  refine ⟨L[k], List.getElem_mem hk, ?_⟩
  rw [List.getD_eq_getElem?_getD, List.getElem?_eq_getElem hk] at h
  simp at h ⊢
  exact h
theorem hashes_mem {L : List B} (h : hashes L = true) : ∀ x ∈ L, x.length = 32 := fun x hx => by
  have := List.all_eq_true.1 h x hx
  simpa [hashy] using this
theorem hashes_of {L : List B} (h : ∀ x ∈ L, x.length = 32) : hashes L = true := by
  unfold hashes
  rw [List.all_eq_true]
  exact fun x hx => by simp [hashy, h x hx]
end Mk
theorem retB {a b : Bool} (h : b = a) : Ending.returned (.bool a) = .returned (.bool b) := by rw [h]
theorem ret_sb {v u : Value} {a b : Bool} (h : u = v) (h2 : b = a) : Ending.returned (.tuple #[v, .bool a]) = .returned (.tuple #[u, .bool b]) := by rw [h, h2]
theorem encStr_size {x : List UInt8} {s : ByteArray} (h : encStr x = .string s) : x = s.data.toList ∧ s.size = x.length := by
  unfold encStr at h
  injection h with h
  subst h
  exact ⟨by simp, by simp [ByteArray.size]⟩
set_option maxRecDepth 100000 in
theorem isHash_yes (s : ByteArray) (h : s.size = 32) (w : World) :
    Calls Tryd.prog 63 #[.string s] w fun e w' => e = .returned (.bool true) ∧ w = w' := by
  have h1 : ((s.size : Int) == 32) = true := by rw [h]; rfl
  clear h
  go_enter Tryd.func63, Tryd.ntmps63
  go_wp2
  go_ret
  exact ⟨rfl, rfl⟩
set_option maxRecDepth 100000 in
theorem isHash_no (s : ByteArray) (h : s.size ≠ 32) (w : World) :
    Calls Tryd.prog 63 #[.string s] w fun e w' => e = .returned (.bool false) ∧ w = w' := by
  have h1 : ((s.size : Int) == 32) = false := by rw [beq_eq_false_iff_ne]; omega
  clear h
  go_enter Tryd.func63, Tryd.ntmps63
  go_wp2
  go_ret
  exact ⟨rfl, rfl⟩
set_option maxHeartbeats 1000000 in
set_option maxRecDepth 100000 in
theorem areHashes_any (L : List (List UInt8)) (n : Nat) (hn : L.length = n) (hN : n ≤ 1000000) (xa : Option Addr) (b off cap : Nat) (w : World) (hL : Lv w xa b off cap L) :
    Calls Tryd.prog 64 #[.slice xa n cap] w fun e w' => e = .returned (.bool (Mk.hashes L)) ∧ w = w' := by
  have HL := Lib.hid hL
  have HN := Lib.hid hn
  clear hL hn
  go_enter Tryd.func64, Tryd.ntmps64
  go_wp2
  go_loop [7] (fun i => ∃ k : Nat, i = .int .i64 k ∧ k ≤ n ∧ Mk.AllTo L k) (fun i => n - (intOf i).toNat)
  case atStart => exact ⟨0, rfl, Nat.zero_le _, fun j hj => absurd hj (by omega)⟩
  case round =>
    obtain ⟨k, rfl, hk, hA⟩ := hrel
    have HA := Lib.hid hA
    clear hA
    by_cases hlt : k < n
    · obtain rfl := HL.out.at_ (by rw [HN.out]; omega)
      have c := HL.out.cell k (by rw [HN.out]; omega)
      obtain ⟨s, hs⟩ : ∃ s, encStr (L.getD k []) = .string s := ⟨_, rfl⟩
      rw [hs] at c
      have hz := (encStr_size hs).2
      by_cases h32 : s.size = 32
      · have hy : Mk.hashy (L.getD k []) = true := by unfold Mk.hashy; rw [← hz]; simpa using h32
        have HY := Lib.hid hy
        have HC := Lib.hid (fun w' => isHash_yes s h32 w')
        clear hs hz hy h32
        go_wp2_with fail
        refine (HC.out _).mono ?_
        rintro _ w1 ⟨rfl, rfl⟩
        go_wp2_with fail
        go_round
        case rel => exact ⟨k + 1, by go_num, by omega, HA.out.next HY.out⟩
        case measure => simp [intOf]; omega
      · have hy : Mk.hashes L = false := Mk.hashes_not (k := k) (by rw [HN.out]; exact hlt) (by unfold Mk.hashy; rw [← hz]; simpa using h32)
        have HY := Lib.hid hy
        have HC := Lib.hid (fun w' => isHash_no s h32 w')
        clear hs hz hy h32
        go_wp2_with fail
        refine (HC.out _).mono ?_
        rintro _ w1 ⟨rfl, rfl⟩
        go_wp2_with fail
        go_ret
        exact ⟨retB HY.out, rfl⟩
    · obtain rfl : k = n := by omega
      have HY : Hid (Mk.hashes L = true) := by
        have := HA.out
        rw [← HN.out] at this
        exact Lib.hid this.all
      go_wp2_with fail
      go_ret
      exact ⟨retB HY.out, rfl⟩
set_option maxHeartbeats 1000000 in
set_option maxRecDepth 100000 in
theorem rhashes_any (L : List (List UInt8)) (n : Nat) (hn : L.length = n) (hN : n ≤ 1000000) (xa : Option Addr) (b off cap : Nat) (w : World) (hL : Lv w xa b off cap L) :
    Calls Tryd.prog 66 #[.slice xa n cap] w fun e w' => e = .returned (.bool (Mk.hashes L)) ∧ w = w' := by
  have HL := Lib.hid hL
  have HN := Lib.hid hn
  clear hL hn
  go_enter Tryd.func66, Tryd.ntmps66
  go_wp2
  go_loop [3] (fun i => ∃ k : Nat, i = .int .i64 k ∧ k ≤ n ∧ Mk.AllTo L k) (fun i => n - (intOf i).toNat)
  case atStart => exact ⟨0, rfl, Nat.zero_le _, fun j hj => absurd hj (by omega)⟩
  case round =>
    obtain ⟨k, rfl, hk, hA⟩ := hrel
    have HA := Lib.hid hA
    clear hA
    by_cases hlt : k < n
    · obtain rfl := HL.out.at_ (by rw [HN.out]; omega)
      have c := HL.out.cell k (by rw [HN.out]; omega)
      obtain ⟨s, hs⟩ : ∃ s, encStr (L.getD k []) = .string s := ⟨_, rfl⟩
      rw [hs] at c
      have hz := (encStr_size hs).2
      by_cases h32 : s.size = 32
      · have hy : Mk.hashy (L.getD k []) = true := by unfold Mk.hashy; rw [← hz]; simpa using h32
        have HY := Lib.hid hy
        have h1 : ((s.size : Int) != 32) = false := by rw [h32]; rfl
        clear hs hz hy h32
        go_wp2_with fail
        go_round
        case rel => exact ⟨k + 1, by go_num, by omega, HA.out.next HY.out⟩
        case measure => simp [intOf]; omega
      · have hy : Mk.hashes L = false := Mk.hashes_not (k := k) (by rw [HN.out]; exact hlt) (by unfold Mk.hashy; rw [← hz]; simpa using h32)
        have HY := Lib.hid hy
        have h1 : ((s.size : Int) != 32) = true := by rw [bne_iff_ne]; omega
        clear hs hz hy h32
        go_wp2_with fail
        go_ret
        exact ⟨retB HY.out, rfl⟩
    · obtain rfl : k = n := by omega
      have HY : Hid (Mk.hashes L = true) := by
        have := HA.out
        rw [← HN.out] at this
        exact Lib.hid this.all
      go_wp2_with fail
      go_ret
      exact ⟨retB HY.out, rfl⟩
set_option maxHeartbeats 1000000 in
set_option maxRecDepth 100000 in
theorem cutLast_any (L : List (List UInt8)) (n m : Nat) (hn : L.length = n) (h1 : 1 ≤ n) (hm : n - 1 = m) (hN : n ≤ 1000000) (s : ByteArray) (hs : encStr (L.getD m []) = .string s) (xa : Option Addr) (b off cap : Nat) (w : World) (hL : Lv w xa b off cap L) :
    Calls Tryd.prog 78 #[.slice xa n cap] w fun e w' => e = .returned (.tuple #[.slice xa m cap, .string s]) ∧ ∃ k, w' = w.drewN k := by
  obtain rfl := hL.at_ (by omega)
  have c := hL.cell m (by omega)
  rw [hs] at c
  have hcap := hL.le
  have hcap2 : n ≤ cap := by omega
  have b1 : (m : Int) ≤ (cap : Int) := by omega
  have b2 : (m : Int) < (n : Int) := by omega
  have a1 : IntKind.i64.wrap ((n : Int) - 1) = (m : Int) := by rw [IntWalk.i64_in _ (by omega)]; omega
  have a2 : (n : Int) - 1 = (m : Int) := by omega
  have b3 : m < n := by omega
  have b4 : m ≤ cap := by omega
  clear hs hL hn hcap hm
  go_enter Tryd.func78, Tryd.ntmps78
  go_wp2
  go_region
  go_wp2
  go_ret2
  exact ⟨rfl, _, rfl⟩
end Go.Proofs.YteiabaddmclmlaaDoor
