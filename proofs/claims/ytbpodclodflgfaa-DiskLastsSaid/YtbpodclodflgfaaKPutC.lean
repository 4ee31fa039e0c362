/-
  put of the program: the walk.
-/
import Derived.Test.YtbpodclodflgfaaKInto
import Derived.Lib.IndexBytes
namespace Go.Proofs.Ytbpodclodflgfaa
open Go Go.RowKit
theorem splice_len {α : Type} (L : List α) (off : Nat) (cs : List α) : (splice L off cs).length ≤ L.length + cs.length + (off + cs.length) := by simp [splice]; omega
theorem app_len {l : List UInt8} (at_ : Nat) (s : ByteArray) (hl : l.length ≤ 100000000) (hs : s.size ≤ 100000000) (m : Nat) : (splice l at_ (s.data.toList.take (min s.data.toList.length (l.length - at_)))).length + (s.extract m s.size).size ≤ 1000000000 := by
  have h1 := Lib.size_eq s
  have h2 : (s.extract m s.size).size ≤ s.size := by rw [ByteArray.size_extract]; omega
  have h3 : (splice l at_ (s.data.toList.take (min s.data.toList.length (l.length - at_)))).length ≤ l.length + s.size := by
    simp [splice]; omega
  omega
set_option maxHeartbeats 2000000 in
set_option maxRecDepth 100000 in
theorem put_in (base g cap : Nat) (l : List UInt8) (at_ : Nat) (s : ByteArray) (w : World) (hown : w.ownsRow base 5 1 (.slice (some ⟨g, 0, none⟩) l.length cap) l.length (bv l)) (hb : base ≤ w.heap.size) (hat : at_ ≤ l.length) (hl : l.length ≤ 100000000) (hs : s.size ≤ 100000000) :
    Calls Try.prog 48 #[.slice (some ⟨g, 0, none⟩) l.length cap, .int .i64 at_, .string s] w fun e w' => ∃ v', e = .returned v' ∧ w'.ownsRow base 5 1 v' (Dk.put l at_ s.data.toList).length (bv (Dk.put l at_ s.data.toList)) ∧ w.grownBy w' (some g) ∧ SF w (.slice (some ⟨g, 0, none⟩) l.length cap) v' := by
  have hlc : l.length ≤ cap ∧ cap ≤ 9223372036854775807 := by
    rcases hown.2 with ⟨h0, _⟩ | ⟨g', cap', cur, hv, _, _, h1, h2, _⟩
    · cases h0
    · injection hv with _ _ h3
      subst h3
      exact ⟨h1, by unfold maxLen at h2; omega⟩
  obtain ⟨hlc, hcm⟩ := hlc
  have HO := Lib.hid hown
  clear hown
  obtain ⟨m, hm⟩ : ∃ m, Nat.min s.size (l.length - at_) = m := ⟨_, rfl⟩
  have hm2 : m ≤ s.size := by rw [← hm]; exact Nat.min_le_left _ _
  have HM := Lib.hid hm
  have HP := Lib.hid (Dk.laid_put l at_ s.data.toList hat)
  have HE := Lib.hid (show (s.extract m s.size).data.toList = s.data.toList.drop m from Lib.extract_to_end s m)
  clear hm
  have hb' := hb
  go_enter Try.func48, Try.ntmps48
  go_wp2_with (first | (at_builtin; refine wpList_app_str rfl (.tmp 23) (.tmp 26) rfl rfl HO1.out _ rfl (app_len at_ s hl hs m) (Nat.le_trans hb HG1.out.size) ?_; intro v2 w2 HO2 HG2 HS2) | (refine wpList_copy_into rfl (.tmp 20) (.tmp 21) rfl HO.out at_ _ _ s _ rfl rfl rfl (by intro hp; first | rfl | (rw [if_neg (by omega)]) | (split <;> first | rfl | (exfalso; omega))) hat m HM.out ?_; intro w1 HO1 HG1 HZ1))
  all_goals
    go_ret
    refine ⟨v2, rfl, ?_, ?_, ?_⟩
    · rw [← HP.out]
      unfold Dk.laid
      have h2 := HO2.out
      rw [HE.out] at h2
      have e : min s.data.toList.length (l.length - at_) = m := by rw [← Lib.size_eq s]; exact HM.out
      rw [e] at h2 ⊢
      exact h2
    · exact grown_two HG1.out HG2.out (.inl rfl)
    · rcases HS2.out with h | ⟨x, h1, h2⟩
      · exact .inl h
      · exact .inr ⟨x, h1, by rw [← HZ1.out]; exact h2⟩
set_option maxHeartbeats 2000000 in
set_option maxRecDepth 100000 in
theorem put_nil (base : Nat) (s : ByteArray) (w : World) (hb : base ≤ w.heap.size) (hs : s.size ≤ 100000000) :
    Calls Try.prog 48 #[.slice none 0 0, .int .i64 0, .string s] w fun e w' => ∃ v', e = .returned v' ∧ w'.ownsRow base 5 1 v' s.data.toList.length (bv s.data.toList) ∧ w.grownBy w' none ∧ SF w (.slice none 0 0) v' := by
  have HO := Lib.hid (World.ownsRow_nil w base 5 1)
  go_enter Try.func48, Try.ntmps48
  go_wp2_with (first | (at_builtin; refine wpList_app_str (l := []) rfl (.tmp 23) (.tmp 26) rfl rfl HO.out _ rfl (by simp; omega) hb ?_; intro v2 w2 HO2 HG2 HS2) | (refine wpList_copy_nil rfl (.tmp 20) (.tmp 21) rfl s rfl rfl ?_))
  go_ret
  refine ⟨v2, rfl, ?_, HG2.out, HS2.out⟩
  exact HO2.out
theorem row_of {w : World} {base : Nat} {v : Value} {l : List UInt8} (h : w.ownsRow base 5 1 v l.length (bv l)) : (v = .slice none 0 0 ∧ l = []) ∨ ∃ g cap, v = .slice (some ⟨g, 0, none⟩) l.length cap ∧ base ≤ g ∧ g < w.heap.size := by
  rcases h.2 with ⟨rfl, h0⟩ | ⟨g, cap, cur, rfl, hb, hg, _⟩
  · exact .inl ⟨rfl, List.eq_nil_of_length_eq_zero h0⟩
  · exact .inr ⟨g, cap, rfl, hb, (Array.getElem?_eq_some_iff.1 hg).1⟩
theorem far_row {w : World} {base : Nat} {v : Value} {l : List UInt8} (h : w.ownsRow base 5 1 v l.length (bv l)) (hp : 0 < l.length) : ∃ g cap, v = .slice (some ⟨g, 0, none⟩) l.length cap ∧ l.length ≤ cap ∧ cap ≤ 9223372036854775807 := by
  rcases h.2 with ⟨rfl, h0⟩ | ⟨g, cap, cur, rfl, hb, hg, h1, h2, _⟩
  · omega
  · exact ⟨g, cap, rfl, h1, by unfold maxLen at h2; omega⟩
theorem app_far (l : List UInt8) (s : ByteArray) (hl : l.length ≤ 100000000) (hs : s.size ≤ 100000000) : (splice l l.length (s.data.toList.take (min s.data.toList.length (l.length - l.length)))).length + s.size ≤ 1000000000 := by
  simp [splice]; omega
set_option maxHeartbeats 2000000 in
set_option maxRecDepth 100000 in
theorem put_far (base : Nat) (v : Value) (l : List UInt8) (n : Nat) (pa : Option Addr) (cap : Nat) (hv : v = .slice pa n cap) (hn : l.length = n) (at_ : Nat) (s : ByteArray) (w : World) (hown : w.ownsRow base 5 1 v l.length (bv l)) (hb : base ≤ w.heap.size) (hat : n < at_) (hl : at_ ≤ 100000000) (hs : s.size ≤ 100000000) :
    Calls Try.prog 48 #[.slice pa n cap, .int .i64 at_, .string s] w fun e w' => ∃ v', e = .returned v' ∧ w'.ownsRow base 5 1 v' (Dk.put l at_ s.data.toList).length (bv (Dk.put l at_ s.data.toList)) ∧ (w.grownBy w' v.ownBlock) ∧ SF w v v' := by
  have HO := Lib.hid hown
  have HV := Lib.hid hv
  have HN := Lib.hid hn
  obtain ⟨z, hz⟩ : ∃ z, at_ - n = z := ⟨_, rfl⟩
  have hz1 : (at_ : Int) - (n : Int) = (z : Int) := by omega
  have hzp : 0 < z := by omega
  have hzl : l.length + z ≤ 1000000000 := by omega
  obtain ⟨L, hL⟩ : ∃ L, l ++ List.replicate z (0 : UInt8) = L := ⟨_, rfl⟩
  have hLl : L.length = at_ := by rw [← hL]; simp; omega
  have HP := Lib.hid (show Dk.put L at_ s.data.toList = Dk.put l at_ s.data.toList from by rw [← hL, ← hz, ← hn]; exact Dk.put_pad l at_ _ (by omega))
  have HQ := Lib.hid (Dk.laid_put L at_ s.data.toList (by omega))
  have HL := Lib.hid hL
  have hm : Nat.min s.size 0 = 0 := Nat.min_zero _
  have HM := Lib.hid hm
  subst hLl
  clear hown hv hn hz hL hm
  go_enter Try.func48, Try.ntmps48
  go_wp2_with (first | (at_builtin; refine wpList_app_zeros (l := l) rfl (.tmp 12) (.tmp 16) rfl HV.out.symm HO.out _ _ z rfl (by omega) hzp hzl hb ?_; intro v1 w1 HO1 HG1 HS1; rw [HL.out] at HO1; obtain ⟨g1, cap1, rfl, hlc, hcm⟩ := far_row HO1.out (by omega)) | (at_builtin; refine wpList_app_str rfl (.tmp 23) (.tmp 26) rfl rfl HO3.out _ rfl (app_far L s hl hs) (Nat.le_trans hb (Nat.le_trans HG1.out.size HG3.out.size)) ?_; intro v2 w2 HO2 HG2 HS2) | (refine wpList_copy_into rfl (.tmp 20) (.tmp 21) rfl HO1.out L.length _ _ s _ rfl rfl (by omega) (by intro hp; exfalso; omega) (Nat.le_refl _) 0 HM.out ?_; intro w3 HO3 HG3 HZ3))
  all_goals
    go_ret
    refine ⟨v2, rfl, ?_, ?_, ?_⟩
    · rw [← HP.out, ← HQ.out]
      unfold Dk.laid
      have e : min s.data.toList.length (L.length - L.length) = 0 := by omega
      have h2 := HO2.out
      rw [e] at h2 ⊢
      exact h2
    · exact grown_two HG1.out (grown_two HG3.out HG2.out (.inl rfl)) HS1.out
    · exact SF.trans HS1.out (SF.trans (w' := w3) (SF.refl _ _) HS2.out HG3.out.size) HG1.out.size
/-- put, whatever the row. -/
theorem put_any (base : Nat) (v : Value) (l : List UInt8) (at_ : Nat) (s : ByteArray) (w : World) (hown : w.ownsRow base 5 1 v l.length (bv l)) (hb : base ≤ w.heap.size) (hl : l.length ≤ 100000000) (ha : at_ ≤ 100000000) (hs : s.size ≤ 100000000) :
    Calls Try.prog 48 #[v, .int .i64 at_, .string s] w fun e w' => ∃ v', e = .returned v' ∧ w'.ownsRow base 5 1 v' (Dk.put l at_ s.data.toList).length (bv (Dk.put l at_ s.data.toList)) ∧ w.grownBy w' v.ownBlock ∧ SF w v v' := by
  by_cases hat : l.length < at_
  · rcases row_of hown with ⟨rfl, rfl⟩ | ⟨g, cap, rfl, _⟩
    · exact put_far base _ _ 0 none 0 rfl rfl at_ s w hown hb hat ha hs
    · exact put_far base _ _ l.length _ _ rfl rfl at_ s w hown hb hat ha hs
  · rcases row_of hown with ⟨rfl, rfl⟩ | ⟨g, cap, rfl, _⟩
    · obtain rfl : at_ = 0 := by simp at hat; omega
      have e : Dk.put [] 0 s.data.toList = s.data.toList := by
        have := Dk.put_end [] s.data.toList
        simpa using this
      rw [e]
      exact put_nil base s w hb hs
    · exact put_in base g cap l at_ s w hown hb (by omega) hl hs
end Go.Proofs.Ytbpodclodflgfaa
