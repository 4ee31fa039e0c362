/-
  text.words: the iterator over the words of a string. text.Fields.
-/
import Derived.Test.YtdkocjdhekomoaaGreatDoorLines
import Derived.Test.YtdkocjdhekomoaaGreatDoorWordsP
import Derived.RangeFuncNested
import Derived.RangeFuncBound
import Derived.RangeFuncCalls
import Derived.RangeFuncLeaves
import Derived.RangeFuncStops
import Derived.Shelf.Abstract
import Derived.Shelf.RegionOpen
import Derived.OwnWalkIn
import Derived.TacticsInMore
import Derived.LoopNIn
import Derived.LoopIn
namespace Go.Proofs.YtdkocjdhekomoaaGreatDoor
open Go Go.RowKit Go.Shelf
attribute [local go_sem] Oper.semAt_some

theorem grown_below {a w : World} (h : Below a.heap.size a w) (row : Option Nat) : a.grownBy w row := ⟨h.os, h.tape, h.output, h.size, fun i hi _ => h.block i hi⟩
theorem abides_below {β : Type} {B : Nat} {J : β → World → Prop} (hJ : AbidesFrom B J) {x : β} {W W' : World} (h : J x W) (hb : Below W.heap.size W W') : J x W' :=
  hJ x W W' none h (grown_below hb none) (fun r e => by cases e)

set_option maxRecDepth 100000 in
set_option maxHeartbeats 2000000 in
theorem words1_in (s : ByteArray) (hs : s.size ≤ 1000000) (l Bs B : Nat) (J Jx : List (List UInt8) → World → Prop) (hJ : AbidesFrom B J)
    (hY : ∀ pre x W, J pre W → pre.length < (Tx.words s.data.toList).length → x ≠ [] ∧ x.length ≤ 1000000 → YieldAt Fence.wide 1 Tryz.prog l #[encStr x] W fun e W' =>
      (e = .returned (.bool true) ∧ J (pre ++ [x]) W' ∧ KeepsWalks W W') ∨ (e = .returned (.bool false) ∧ Jx (pre ++ [x]) W'))
    (W : World) (hBs : W.cell? ⟨Bs, 0, none⟩ = some (.string s)) (h0 : J [] W) :
    CallsIn Fence.wide 2 Tryz.prog 79 #[.func (.yield l) #[] #[], .pointer (some ⟨Bs, 0, none⟩)] W fun e W' => (∃ v, e = .returned v) ∧
      ((∃ ys, ys = Tx.words s.data.toList ∧ J ys W') ∨ (∃ pre, pre <+: Tx.words s.data.toList ∧ Jx pre W')) := by
  refine callsIn_of_wp Tryz.func79 rfl trivial ?_ rfl
  simp only [Tryz.ntmps79, List.size_toArray, List.length_cons, List.length_nil, Nat.reduceAdd, Nat.reduceSub, Array.replicate_succ, Array.replicate_zero, List.push_toArray, List.append_toArray, List.nil_append, List.cons_append]
  gi_wp2_with (refine ⟨trivial, ?_⟩; gi_at_call 80; refine (callsIn_wide.2 (trimLeft_any _ _)).mono ?_; rintro e w' ⟨rfl, hB⟩)
  gi_loopw [3, 4] (fun v _ wr => ∃ (pre : List (List UInt8)) (t : ByteArray), v = .string t ∧ Hid (pre ++ Tx.words t.data.toList = Tx.words s.data.toList) ∧ Hid (∀ c r, t.data.toList = c :: r → Tx.isW c = false) ∧ t.size ≤ s.size ∧ J pre wr)
    (fun v _ _ => Lib.strSize v)
  case atStart =>
    refine ⟨[], _, rfl, ?_, ?_, ?_, abides_below hJ h0 hB⟩
    · show _ = _; rw [List.nil_append]; exact Tx.words_trim _
    · exact Tx.trim_head _
    · rw [Tx.bs_len, Lib.size_eq]; exact Tx.trim_le _
  case round =>
    obtain ⟨pre, t, rfl, hw, hh, hts, hJs⟩ := hrel
    have hsz := Lib.size_eq t
    by_cases hne : t.data.toList = []
    · have hemp : t.toList.isEmpty = true := by rw [Lib.toList_data, hne]; rfl
      have hpre : pre = Tx.words s.data.toList := by rw [← hw.out, hne, Tx.words_nil, List.append_nil]
      have HP := Lib.hid hpre
      clear hpre hne hsz
      gi_wp2
      go_end0
      exact ⟨⟨_, rfl⟩, .inl ⟨pre, HP.out, hJs⟩⟩
    · have hemp : t.toList.isEmpty = false := by
        rw [Lib.toList_data]
        cases h : t.data.toList with
        | nil => exact absurd h hne
        | cons _ _ => rfl
      have hpos : 0 < t.size := by rw [hsz]; exact List.length_pos_iff.2 hne
      rcases Tx.index_white t.data.toList hne hh.out with ⟨hk, hl⟩ | ⟨k, hk, hk0, hkl, hl⟩
      · have hc := indexAny_any t wr (by omega)
        rw [hk] at hc
        have hlen : pre.length < (Tx.words s.data.toList).length := by rw [← hw.out, hl]; simp
        have HC := Lib.hid hc
        have HL := Lib.hid hl
        have HY := Lib.hid (fun W1 h => hY pre t.data.toList W1 h hlen ⟨hne, by omega⟩)
        rw [show encStr t.data.toList = .string t from by show Value.string _ = _; rw [Lib.mk_data]] at HY
        clear hc hk hl hne hsz hlen
        gi_wp2_with (refine ⟨trivial, ?_⟩; gi_at_call 81; refine (callsIn_wide.2 HC.out).mono ?_; rintro e W1 ⟨rfl, hB1⟩; obtain ⟨fn, tmps, assign, body, hy, hR⟩ := HY.out W1 (abides_below hJ hJs hB1))
        refine hR.mono ?_
        rintro e W3 (⟨rfl, hJ3, _⟩ | ⟨rfl, hJx3⟩)
        · gi_wp2_with (refine ⟨trivial, ?_⟩; gi_at_call 80; refine (callsIn_wide.2 (trimLeft_any _ _)).mono ?_; rintro e w' ⟨rfl, hB3⟩)
          go_roundw
          case rel =>
            refine ⟨pre ++ [t.data.toList], ⟨(Lib.trimLeftS [] [9, 10, 13, 32]).toArray⟩, rfl, ?_, ?_, ?_, abides_below hJ hJ3 hB3⟩
            · show _ = _; rw [← hw.out, HL.out]; simp [Lib.trimLeftS, Tx.words_nil]
            · exact Tx.trim_head _
            · rw [Tx.bs_len]; exact Nat.zero_le _
          case measure => exact hpos
        · gi_wp2
          refine bodyPost_ret (results_none rfl _ _ _) rfl ?_
          exact ⟨⟨_, rfl⟩, .inr ⟨pre ++ [t.data.toList], ⟨[], by rw [List.append_nil, ← hw.out, HL.out]⟩, hJx3⟩⟩
      · have hc := indexAny_any t wr (by omega)
        rw [hk] at hc
        have hlen : pre.length < (Tx.words s.data.toList).length := by rw [← hw.out, hl]; simp
        have HC := Lib.hid hc
        have HL := Lib.hid hl
        have HY := Lib.hid (fun W1 h => hY pre (t.data.toList.take k) W1 h hlen ⟨fun e => by have := congrArg List.length e; rw [List.length_take, List.length_nil] at this; omega, by rw [List.length_take]; omega⟩)
        rw [show encStr (t.data.toList.take k) = .string (t.extract 0 k) from by rw [Lib.extract_upto]] at HY
        rw [← hsz] at hkl
        have HZ := Lib.hid hsz
        clear hc hk hl hne hsz hlen
        gi_wp2_with (refine ⟨trivial, ?_⟩; gi_at_call 81; refine (callsIn_wide.2 HC.out).mono ?_; rintro e W1 ⟨rfl, hB1⟩; obtain ⟨fn, tmps, assign, body, hy, hR⟩ := HY.out W1 (abides_below hJ hJs hB1))
        refine hR.mono ?_
        rintro e W3 (⟨rfl, hJ3, _⟩ | ⟨rfl, hJx3⟩)
        · gi_wp2_with (refine ⟨trivial, ?_⟩; gi_at_call 80; refine (callsIn_wide.2 (trimLeft_any _ _)).mono ?_; rintro e w' ⟨rfl, hB3⟩)
          have hdt : (t.data.toList.drop k).take (t.size - k) = t.data.toList.drop k := List.take_of_length_le (by rw [List.length_drop, ← HZ.out]; omega)
          have hll := Tx.trim_le (t.data.toList.drop k)
          rw [List.length_drop, ← HZ.out] at hll
          go_roundw
          case rel =>
            refine ⟨pre ++ [t.data.toList.take k], ⟨(Lib.trimLeftS (t.data.toList.drop k) [9, 10, 13, 32]).toArray⟩, by rw [hdt], ?_, ?_, ?_, abides_below hJ hJ3 hB3⟩
            · show _ = _; rw [← hw.out, HL.out]; show _ ++ Tx.words (Lib.trimLeftS _ _) = _; rw [Tx.words_trim]; simp
            · exact Tx.trim_head _
            · rw [Tx.bs_len]; omega
          case measure =>
            rw [hdt]
            show (⟨(Lib.trimLeftS (t.data.toList.drop k) [9, 10, 13, 32]).toArray⟩ : ByteArray).size < t.size
            rw [Tx.bs_len]; omega
        · gi_wp2
          refine bodyPost_ret (results_none rfl _ _ _) rfl ?_
          exact ⟨⟨_, rfl⟩, .inr ⟨pre ++ [t.data.toList.take k], ⟨Tx.words (t.data.toList.drop k), by rw [← hw.out, HL.out]; simp⟩, hJx3⟩⟩

/-- text.words: the string is boxed, the function value captures the box. -/
theorem words_in (n : Nat) (s : ByteArray) (w : World) :
    CallsIn Fence.wide n Tryz.prog 52 #[.string s] w fun e w' => e = .returned (.func (.func 79) #[] #[.pointer (some ⟨w.heap.size, 0, none⟩)]) ∧ w' = w.alloc (.cells #[.string s] 9) := by
  refine callsIn_of_wp Tryz.func52 rfl trivial ?_ rfl
  simp only [Tryz.ntmps52, List.size_toArray, List.length_cons, List.length_nil, Nat.reduceAdd, Nat.reduceSub, Array.replicate_succ, Array.replicate_zero, List.push_toArray, List.append_toArray, List.nil_append, List.cons_append]
  gi_wp2
  go_ret
  exact ⟨rfl, rfl⟩

/-- The iterator's contract: all words in their order, or a part of them where a round has said 'no more'. -/
theorem words_stops (s : ByteArray) (hs : s.size ≤ 1000000) (Bs : Nat) (w : World) (hlt : Bs < w.heap.size) (hc : w.cell? ⟨Bs, 0, none⟩ = some (.string s)) :
    SeqStops Fence.wide 2 Tryz.prog 79 #[.pointer (some ⟨Bs, 0, none⟩)] encStr (fun ys => ys = Tx.words s.data.toList) (fun pre => pre <+: Tx.words s.data.toList) (Tx.words s.data.toList).length w :=
  fun l J Jx W hW hJ _ hY h0 => words1_in s hs l Bs W.heap.size J Jx hJ (fun pre x W h1 h2 _ => hY pre x W h1 h2) W ((hW.cell (p := ⟨Bs, 0, none⟩) hlt).trans hc) h0

/-- A word: not empty, of bounded length. -/
abbrev Word := { x : List UInt8 // x ≠ [] ∧ x.length ≤ 1000000 }
/-- The same contract, for a body that knows what a word is. -/
theorem words_stopsW (s : ByteArray) (hs : s.size ≤ 1000000) (Bs : Nat) (w : World) (hlt : Bs < w.heap.size) (hc : w.cell? ⟨Bs, 0, none⟩ = some (.string s)) :
    SeqStops Fence.wide 2 Tryz.prog 79 #[.pointer (some ⟨Bs, 0, none⟩)] (fun x : Word => encStr x.1) (fun ys => ys.map Subtype.val = Tx.words s.data.toList) (fun _ => True) (Tx.words s.data.toList).length w := by
  intro l J Jx W hW hJ _ hY h0
  refine (words1_in s hs l Bs W.heap.size (fun pre W => ∃ p : List Word, p.map Subtype.val = pre ∧ J p W) (fun pre W => ∃ p : List Word, p.map Subtype.val = pre ∧ Jx p W) ?_ ?_ W ((hW.cell (p := ⟨Bs, 0, none⟩) hlt).trans hc) ⟨[], rfl, h0⟩).mono ?_
  · rintro pre W1 W2 row ⟨p, hp, hj⟩ hg hr
    exact ⟨p, hp, hJ p W1 W2 row hj hg hr⟩
  · rintro pre x W1 ⟨p, rfl, hj⟩ hl hx
    obtain ⟨fn, tmps, assign, body, hy, hR⟩ := hY p ⟨x, hx⟩ W1 hj (by simpa using hl)
    refine ⟨fn, tmps, assign, body, hy, hR.mono ?_⟩
    rintro e W' (⟨h1, h2, h3⟩ | ⟨h1, h2⟩)
    · exact .inl ⟨h1, ⟨p ++ [⟨x, hx⟩], by simp, h2⟩, h3⟩
    · exact .inr ⟨h1, ⟨p ++ [⟨x, hx⟩], by simp, h2⟩⟩
  · rintro e W' ⟨hv, ⟨ys, rfl, p, hp, hj⟩ | ⟨pre, _, p, hp, hj⟩⟩
    · exact ⟨hv, .inl ⟨p, hp, hj⟩⟩
    · exact ⟨hv, .inr ⟨p, trivial, hj⟩⟩

end Go.Proofs.YtdkocjdhekomoaaGreatDoor
