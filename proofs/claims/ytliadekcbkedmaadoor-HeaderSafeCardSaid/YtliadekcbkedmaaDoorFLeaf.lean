/-
  header.isVisible, isToken, isFieldName, isBlank, cutField, unbroken, quoted.
-/
import Derived.Test.YtliadekcbkedmaaDoorFKit
namespace Go.Proofs.YtliadekcbkedmaaDoor
open Go Go.RowKit Go.Shelf
theorem retB {a b : Bool} (h : a = b) : Ending.returned (.bool a) = .returned (.bool b) := by rw [h]
namespace Hd
theorem all_next {p : UInt8 → Bool} {S : List UInt8} {k : Nat} {c : UInt8} (h : S[k]? = some c) : (S.drop k).all p = (p c && (S.drop (k + 1)).all p) := by
  have hk : k < S.length := (List.getElem?_eq_some_iff.1 h).1
  have hc : S[k] = c := (List.getElem?_eq_some_iff.1 h).2
  rw [List.drop_eq_getElem_cons hk, hc]
  rfl
theorem visB_lo {ws : List UInt8} {c : UInt8} (h : c.toNat ≤ 32) : visB ws c = false := by
  unfold visB
  rw [show decide (33 ≤ c.toNat) = false by simp; omega]
  rfl
theorem visB_hi {ws : List UInt8} {c : UInt8} (h : 126 < c.toNat) : visB ws c = false := by
  unfold visB
  rw [show decide (c.toNat ≤ 126) = false by simp; omega]
  simp
theorem visB_in {ws : List UInt8} {c : UInt8} {o : Nat} (h : Lib.indexByte ws c = o) : visB ws c = false := by
  have hm := List.mem_of_getElem? (Lib.indexByte_some h).1
  unfold visB
  rw [show ws.contains c = true by simpa using hm]
  simp
theorem visB_ok {ws : List UInt8} {c : UInt8} (h1 : ¬ c.toNat ≤ 32) (h2 : ¬ 126 < c.toNat) (h : Lib.indexByte ws c = -1) : visB ws c = true := by
  have hm : ¬ c ∈ ws := fun hm => by
    obtain ⟨j, hj⟩ := List.mem_iff_getElem?.1 hm
    exact Lib.indexByte_none h j hj
  unfold visB
  rw [show decide (33 ≤ c.toNat) = true by simp; omega, show decide (c.toNat ≤ 126) = true by simp; omega, show ws.contains c = false by simpa using hm]
  rfl
end Hd
theorem toList_nil (s : ByteArray) : (s.toList == []) = s.data.toList.isEmpty := by
  rw [Lib.toList_data]
  cases s.data.toList <;> rfl
set_option maxHeartbeats 2000000 in
set_option maxRecDepth 100000 in
theorem vis_any (s ws : ByteArray) (w : World) (hs : s.size ≤ 9223372036854775807) :
    Calls Tryd.prog 66 #[.string s, .string ws] w fun e w' => e = .returned (.bool (Hd.vis ws.data.toList s.data.toList)) ∧ w = w' := by
  obtain ⟨R, hR⟩ : ∃ R, Hd.vis ws.data.toList s.data.toList = R := ⟨_, rfl⟩
  rw [hR]
  have HR := Lib.hid hR
  clear hR
  go_enter Tryd.func66, Tryd.ntmps66
  go_wp2
  go_loop [5, 8] (fun _ i => ∃ k : Nat, i = .int .i64 k ∧ k ≤ s.size ∧ Hid (((s.data.toList.drop k).all (Hd.visB ws.data.toList) && !s.data.toList.isEmpty) = R)) (fun _ i => s.size - (intOf i).toNat)
  case atStart => exact ⟨0, rfl, Nat.zero_le _, HR.out⟩
  case round =>
    obtain ⟨k, rfl, hk, hI⟩ := hrel
    by_cases hlt : k < s.size
    · have hg := Tx.get_of s k hlt
      obtain ⟨c, hc⟩ : ∃ c, s[k] = c := ⟨_, rfl⟩
      rw [hc] at hg
      have hA := hI.out
      rw [Hd.all_next hg] at hA
      by_cases h1 : c.toNat ≤ 32
      · rw [Hd.visB_lo h1] at hA
        have HF := Lib.hid hA
        clear hA hg hI
        have q1 : (c.toNat : Int) ≤ 32 := by omega
        go_wp2
        go_ret
        exact ⟨retB HF.out, rfl⟩
      · have q1 : ¬ ((c.toNat : Int) ≤ 32) := by omega
        by_cases h2 : 126 < c.toNat
        · rw [Hd.visB_hi h2] at hA
          have HF := Lib.hid hA
          clear hA hg hI
          have q2 : (126 : Int) < (c.toNat : Int) := by omega
          go_wp2
          go_ret
          exact ⟨retB HF.out, rfl⟩
        · have q2 : ¬ ((126 : Int) < (c.toNat : Int)) := by omega
          have hge := Lib.indexByte_ge ws.data.toList c
          have HX := Lib.hid (fun W => indexByte_any ws c W)
          by_cases h3 : Lib.indexByte ws.data.toList c = -1
          · rw [Hd.visB_ok h1 h2 h3] at hA
            rw [h3] at HX
            have HN := Lib.hid hA
            clear hA hg hI h3 hge h1 h2
            go_wp2_with (go_at_call 88; refine (HX.out _).mono ?_; rintro e w' ⟨rfl, rfl⟩)
            go_round
            case rel => exact ⟨k + 1, by go_num, by omega, HN.out⟩
            case measure => simp [intOf]; omega
          · obtain ⟨o, ho⟩ : ∃ o : Nat, Lib.indexByte ws.data.toList c = o := ⟨(Lib.indexByte ws.data.toList c).toNat, by omega⟩
            rw [Hd.visB_in ho] at hA
            rw [ho] at HX
            have HF := Lib.hid hA
            have ho0 : (0 : Int) ≤ (o : Int) := by omega
            clear hA hg hI h3 hge h1 h2 ho
            go_wp2_with (go_at_call 88; refine (HX.out _).mono ?_; rintro e w' ⟨rfl, rfl⟩)
            go_ret
            exact ⟨retB HF.out, rfl⟩
    · obtain rfl : k = s.size := by omega
      have hI2 := hI.out
      rw [Lib.size_eq, List.drop_length] at hI2
      have HN := Lib.hid hI2
      clear hI hI2
      go_wp2
      go_ret
      refine ⟨retB ?_, rfl⟩
      rw [← HN.out, Lib.toList_data]
      rfl
theorem token_any (s : ByteArray) (w : World) (hs : s.size ≤ 9223372036854775807) :
    Calls Tryd.prog 42 #[.string s] w fun e w' => e = .returned (.bool (Hd.token s.data.toList)) ∧ w = w' := by
  have H := Lib.hid (fun W => vis_any s ⟨#[40, 41, 60, 62, 64, 44, 59, 58, 92, 34, 47, 91, 93, 63, 61]⟩ W hs)
  go_enter Tryd.func42, Tryd.ntmps42
  go_wp2_with fail
  refine (H.out _).mono ?_
  rintro e w1 ⟨rfl, rfl⟩
  go_wp2
  go_ret
  exact ⟨rfl, rfl⟩
set_option maxHeartbeats 1000000 in
set_option maxRecDepth 100000 in
theorem named_any (s : ByteArray) (w : World) (hs : s.size ≤ 9223372036854775807) :
    Calls Tryd.prog 45 #[.string s] w fun e w' => e = .returned (.bool (Hd.named s.data.toList)) ∧ w = w' := by
  have H := Lib.hid (fun W => vis_any s ⟨#[58]⟩ W hs)
  have hl := Lib.size_eq s
  by_cases h : s.size ≤ 200
  · have hN : Hd.named s.data.toList = Hd.vis [58] s.data.toList := by
      unfold Hd.named
      rw [show decide (s.data.toList.length ≤ 200) = true by simp; omega]
      rfl
    have HN := Lib.hid hN
    clear hN hl
    have q : (s.size : Int) ≤ 200 := by omega
    go_enter Tryd.func45, Tryd.ntmps45
    go_wp2_with (go_at_call 66; refine (H.out _).mono ?_; rintro e w' ⟨rfl, rfl⟩)
    go_ret
    exact ⟨retB HN.out.symm, rfl⟩
  · have hN : Hd.named s.data.toList = false := by
      unfold Hd.named
      rw [show decide (s.data.toList.length ≤ 200) = false by simp; omega]
      rfl
    have HN := Lib.hid hN
    clear hN hl H
    have q : ¬ ((s.size : Int) ≤ 200) := by omega
    go_enter Tryd.func45, Tryd.ntmps45
    go_wp2
    go_ret
    exact ⟨retB HN.out.symm, rfl⟩
theorem byte_all {P : UInt8 → Prop} (h : ∀ n : Fin 256, P (UInt8.ofNat n.val)) (c : UInt8) : P c := by
  have := h ⟨c.toNat, UInt8.toNat_lt c⟩
  simpa using this
set_option maxHeartbeats 1000000 in
set_option maxRecDepth 100000 in
theorem blank_any (c : UInt8) (w : World) :
    Calls Tryd.prog 49 #[.int .u8 c.toNat] w fun e w' => e = .returned (.bool (Hd.blank c)) ∧ w = w' := by
  have key : Hd.blank c = (((c.toNat : Int) == 32) || ((c.toNat : Int) == 9)) :=
    byte_all (P := fun c => Hd.blank c = (((c.toNat : Int) == 32) || ((c.toNat : Int) == 9))) (by decide +kernel) c
  rw [key]
  clear key
  generalize (c.toNat : Int) = z
  cases h9 : z == 32 <;> cases h10 : z == 9 <;>
  · go_enter Tryd.func49, Tryd.ntmps49
    go_wp2
    go_ret
    exact ⟨rfl, rfl⟩
theorem mk_size_le {l : List UInt8} {n : Nat} (h : l.length ≤ n) : (⟨l.toArray⟩ : ByteArray).size ≤ n := by rw [mk_len]; exact h
set_option maxHeartbeats 1000000 in
set_option maxRecDepth 100000 in
theorem cutField_any (s : ByteArray) (w : World) (hs : s.size ≤ 1000000) (hm : MaxAt w) :
    Calls Tryd.prog 48 #[.string s] w fun e w' => e = .returned (.tuple #[.string ⟨(Lib.cut s.data.toList [58]).1.toArray⟩, .string ⟨(Lib.cut s.data.toList [58]).2.1.toArray⟩, .bool (Hd.field s.data.toList).isSome]) ∧ ∃ n, w' = w.drewN n := by
  have HC := Lib.hid (cut_any 58 s w hs hm)
  have hl := Hd.cut_len 58 s.data.toList
  rw [← Lib.size_eq] at hl
  obtain ⟨a, b, f, hcut⟩ : ∃ a b f, Lib.cut s.data.toList [58] = (a, b, f) := ⟨_, _, _, rfl⟩
  rw [hcut] at HC hl ⊢
  have hF : (Hd.field s.data.toList).isSome = (f && Hd.named a) := by
    unfold Hd.field
    rw [hcut]
    cases f
    · rfl
    · simp only [Bool.true_and]
      cases Hd.named a <;> rfl
  rw [hF]
  have HA := Lib.hid (fun W => named_any ⟨a.toArray⟩ W (mk_size_le (by simp at hl; omega)))
  clear hl hF hcut hm
  cases f with
  | true =>
    go_enter Tryd.func48, Tryd.ntmps48
    go_wp2_with (first
      | (go_at_call 51; refine HC.out.mono ?_; rintro e w1 ⟨rfl, n1, rfl⟩)
      | (go_at_call 45; refine (HA.out _).mono ?_; rintro e w2 ⟨rfl, rfl⟩))
    go_ret3
    exact ⟨rfl, n1, rfl⟩
  | false =>
    go_enter Tryd.func48, Tryd.ntmps48
    go_wp2_with (first
      | (go_at_call 51; refine HC.out.mono ?_; rintro e w1 ⟨rfl, n1, rfl⟩))
    go_ret3
    exact ⟨rfl, n1, rfl⟩
theorem unbroken_any (s : ByteArray) (w : World) (hs : s.size ≤ 400000) (hm : MaxAt w) :
    Calls Tryd.prog 68 #[.string s] w fun e w' => e = .returned (.string ⟨(Hd.unbroken s.data.toList).toArray⟩) ∧ Below w.heap.size w w' := by
  have H1 := Lib.hid (replace_any 13 ⟨#[32]⟩ s w (by omega) (by decide) (by decide) hm)
  have hl := Hd.repl_len 13 [32] (by decide) s.data.toList
  rw [← Lib.size_eq] at hl
  have H2 := Lib.hid (fun W h => replace_any 10 ⟨#[32]⟩ ⟨(Hd.repl 13 [32] s.data.toList).toArray⟩ W (mk_size_le (by omega)) (by decide) (by decide) h)
  have HM := Lib.hid hm
  have hp := hm.pos
  have HE := Lib.hid (Hd.unbroken_eq s.data.toList)
  clear hl hm
  go_enter Tryd.func68, Tryd.ntmps68
  go_wp2_with fail
  refine H1.out.mono ?_
  rintro e w1 ⟨rfl, hb1⟩
  have HM1 := HM.out.below hb1 hp
  go_wp2_with fail
  refine (H2.out _ HM1).mono ?_
  rintro e w2 ⟨rfl, hb2⟩
  go_wp2
  go_ret
  exact ⟨retS HE.out, hb1.trans (hb2.mono hb1.size)⟩
end Go.Proofs.YtliadekcbkedmaaDoor
