/-
  codec.valuesOf and codec.digitsOf: the maps that they make.
-/
import Derived.Test.YtdkocjdhekomoaaGreatDoorCTab
namespace Go.Proofs.YtdkocjdhekomoaaGreatDoor
open Go Go.RowKit Go.Shelf

theorem getD_at (s : ByteArray) (k : Nat) (h : k < s.size) : s.data.toList.getD k 0 = s[k]'h := by
  rw [List.getD_eq_getElem?_getD, Tx.get_of s k h]; rfl

set_option maxHeartbeats 1000000 in
set_option maxRecDepth 100000 in
theorem valuesOf_any (s : ByteArray) (w : World) (hs : s.size ≤ 100) :
    Calls Tryz.prog 113 #[.string s] w fun e w' => e = .returned (.map (some w.heap.size)) ∧ Tab w.heap.size s.size (Cd.valF s.data.toList s.size) w' ∧ Below w.heap.size w w' := by
  have hmm := makeHint
  go_enter Tryz.func113, Tryz.ntmps113
  go_wp2
  go_loopw [10] (fun i wr => ∃ k : Nat, k ≤ s.size ∧ i = .int .i64 k ∧ Tab w.heap.size k (Cd.valF s.data.toList k) wr ∧ Below w.heap.size w wr) (fun i _ => s.size - (intOf i).toNat)
  case atStart => exact ⟨0, Nat.zero_le _, rfl, Tab.start w, (Below.refl _ w).alloc (Nat.le_refl _) _⟩
  case round =>
    obtain ⟨k, hk, rfl, hT, hb⟩ := hrel
    by_cases hlt : k < s.size
    · have hg := getD_at s k hlt
      have HG := Lib.hid hg
      clear hg
      have h8 : (k : Int) = ((UInt8.ofNat k).toNat : Int) := by simp; omega
      have H8 := Lib.hid h8
      clear h8
      go_wp2_with (first
        | (at_mapUpdate; refine wpList_tab_put _ rfl _ _ _ rfl w.heap.size k _ s[k] (UInt8.ofNat k) rfl hT (by omega) _ _ rfl rfl rfl H8.out ?_; intro w1 hT1 hg1))
      go_roundw
      case rel => exact ⟨k + 1, by omega, by go_num, by rw [← HG.out] at hT1; exact hT1, hb.grown hg1 hb.size (fun j hj => by cases hj; exact Nat.le_refl _)⟩
      case measure => simp [intOf]; omega
    · obtain rfl : k = s.size := by omega
      go_wp2
      go_ret
      exact ⟨rfl, hT, hb⟩

set_option maxHeartbeats 1000000 in
set_option maxRecDepth 100000 in
theorem digitsOf_any (s : ByteArray) (w : World) (hs : s.size ≤ 100) :
    Calls Tryz.prog 100 #[.string s] w fun e w' => e = .returned (.map (some w.heap.size)) ∧ Tab w.heap.size s.size (Cd.digF s.data.toList s.size) w' ∧ Below w.heap.size w w' := by
  have hmm := makeHint
  go_enter Tryz.func100, Tryz.ntmps100
  go_wp2
  go_loopw [10] (fun i wr => ∃ k : Nat, k ≤ s.size ∧ i = .int .i64 k ∧ Tab w.heap.size k (Cd.digF s.data.toList k) wr ∧ Below w.heap.size w wr) (fun i _ => s.size - (intOf i).toNat)
  case atStart => exact ⟨0, Nat.zero_le _, rfl, Tab.start w, (Below.refl _ w).alloc (Nat.le_refl _) _⟩
  case round =>
    obtain ⟨k, hk, rfl, hT, hb⟩ := hrel
    by_cases hlt : k < s.size
    · have hg := getD_at s k hlt
      have HG := Lib.hid hg
      clear hg
      have h8 : (k : Int) = ((UInt8.ofNat k).toNat : Int) := by simp; omega
      have H8 := Lib.hid h8
      clear h8
      go_wp2_with (first
        | (at_mapUpdate; refine wpList_tab_put _ rfl _ _ _ rfl w.heap.size k _ (UInt8.ofNat k) s[k] rfl hT (by omega) _ _ rfl H8.out rfl rfl ?_; intro w1 hT1 hg1))
      go_roundw
      case rel => exact ⟨k + 1, by omega, by go_num, by rw [← HG.out] at hT1; exact hT1, hb.grown hg1 hb.size (fun j hj => by cases hj; exact Nat.le_refl _)⟩
      case measure => simp [intOf]; omega
    · obtain rfl : k = s.size := by omega
      go_wp2
      go_ret
      exact ⟨rfl, hT, hb⟩
end Go.Proofs.YtdkocjdhekomoaaGreatDoor
