/-
  The contract of text.Lines.
-/
import Derived.Test.YtpigplnnmhjbkaaDoorAny
import Derived.Sort.EncStr
import Derived.Lib.IndexMore
import Derived.Lib.IndexBytes
import Derived.LoopTactic
import Derived.Deep.DeepMust
namespace Go.Proofs.YtpigplnnmhjbkaaDoor
open Go Go.RowKit Go.Shelf
namespace Tx

theorem linesGo_no : ∀ (l acc : List UInt8), 10 ∉ l → linesGo acc l = if acc ++ l = [] then [] else [acc ++ l]
  | [], acc, _ => by simp [linesGo]
  | c :: r, acc, h => by
    have hc : c ≠ 10 := fun e => h (by simp [e])
    have hr : 10 ∉ r := fun e => h (by simp [e])
    rw [linesGo, if_neg hc, linesGo_no r _ hr]
    simp
theorem linesGo_at : ∀ (a b acc : List UInt8), 10 ∉ a → linesGo acc (a ++ 10 :: b) = chop (acc ++ a) :: linesGo [] b
  | [], b, acc, _ => by simp [linesGo]
  | c :: r, b, acc, h => by
    have hc : c ≠ 10 := fun e => h (by simp [e])
    have hr : 10 ∉ r := fun e => h (by simp [e])
    rw [List.cons_append, linesGo, if_neg hc, linesGo_at r b _ hr]
    simp
theorem lines_no (l : List UInt8) (h : 10 ∉ l) (hne : l ≠ []) : lines l = [l] := by
  unfold lines; rw [linesGo_no l [] h]; simp [hne]
theorem lines_at (a b : List UInt8) (h : 10 ∉ a) : lines (a ++ 10 :: b) = chop a :: lines b := by
  unfold lines; rw [linesGo_at a b [] h]; simp
theorem lines_nil : lines [] = [] := rfl
theorem indexByte_no : ∀ (l : List UInt8), 10 ∉ l → Lib.indexByte l 10 = -1
  | [], _ => rfl
  | c :: r, h => by
    have hc : c ≠ 10 := fun e => h (by simp [e])
    have hr : 10 ∉ r := fun e => h (by simp [e])
    simp [Lib.indexByte, hc, indexByte_no r hr]
theorem indexByte_at : ∀ (a b : List UInt8), 10 ∉ a → Lib.indexByte (a ++ 10 :: b) 10 = a.length
  | [], b, _ => by simp [Lib.indexByte]
  | c :: r, b, h => by
    have hc : c ≠ 10 := fun e => h (by simp [e])
    have hr : 10 ∉ r := fun e => h (by simp [e])
    have := indexByte_at r b hr
    simp [Lib.indexByte, hc, this]
/-- What Cut gives at a line feed, and what the lines are then. -/
theorem cut_lf (l : List UInt8) (hne : l ≠ []) : (∃ a b, Lib.cut l [10] = (a, b, true) ∧ lines l = chop a :: lines b ∧ a.length + b.length + 1 = l.length) ∨ (Lib.cut l [10] = (l, [], false) ∧ lines l = [l]) := by
  by_cases h : 10 ∈ l
  · obtain ⟨a, b, rfl, ha⟩ := List.eq_append_cons_of_mem h
    left
    refine ⟨a, b, ?_, lines_at a b ha, by simp; omega⟩
    unfold Lib.cut
    rw [Lib.index_one, indexByte_at a b ha]
    simp
  · right
    refine ⟨?_, lines_no l h hne⟩
    unfold Lib.cut
    rw [Lib.index_one, indexByte_no l h]
    simp
theorem bs_len (l : List UInt8) : (⟨l.toArray⟩ : ByteArray).size = l.length := by show l.toArray.size = _; simp
theorem chop_le (l : List UInt8) : (chop l).length ≤ l.length := Lib.trimSuffix_le _ _
end Tx

/-- The library's variable internal/bytealg.MaxLen holds some int. -/
def MaxAt (w : World) : Prop := ∃ m : Int, w.cell? ⟨0, 0, none⟩ = some (.int .i64 m)
theorem MaxAt.pos {w : World} (h : MaxAt w) : 0 < w.heap.size := by
  obtain ⟨m, h⟩ := h
  by_cases hz : 0 < w.heap.size
  · exact hz
  · have : w.heap[0]? = none := Array.getElem?_eq_none (by omega)
    simp [World.cell?, this] at h
theorem MaxAt.below {B : Nat} {w w' : World} (h : MaxAt w) (hB : Below B w w') (h0 : 0 < B) : MaxAt w' := by
  obtain ⟨m, h⟩ := h
  exact ⟨m, (hB.cell (p := ⟨0, 0, none⟩) h0).trans h⟩

theorem cut_calls (s : ByteArray) (w : World) (hs : s.size ≤ 1000000) (hm : MaxAt w) :
    Calls Tryd.prog 48 #[.string s, .string ⟨#[10]⟩] w fun e w' => e = .returned (.tuple #[.string ⟨(Lib.cut s.data.toList [10]).1.toArray⟩, .string ⟨(Lib.cut s.data.toList [10]).2.1.toArray⟩, .bool (Lib.cut s.data.toList [10]).2.2]) ∧ ∃ n, w' = w.drewN n := by
  obtain ⟨m, hm⟩ := hm
  exact Any.strings_Cut Tryd.lays145 s ⟨#[10]⟩ m w (by omega) hm
theorem trimSuffix_calls (s : ByteArray) (w : World) (hs : s.size ≤ 1000000) :
    Calls Tryd.prog 49 #[.string s, .string ⟨#[13]⟩] w fun e w' => e = .returned (.string ⟨(Tx.chop s.data.toList).toArray⟩) ∧ w = w' :=
  (Any.strings_TrimSuffix Tryd.lays102 s ⟨#[13]⟩ w (by omega)).mono fun _ _ ⟨h1, h2⟩ => ⟨h1, h2.symm⟩

theorem row_drews {w : World} {base : Nat} {e : TypeId} {size : Nat} {v : Value} {n : Nat} {xs : List Value} (h : w.ownsRow base e size v n xs) (k : Nat) : (w.drewN k).ownsRow base e size v n xs := h
theorem info9 : (Tryd.prog.info? 9).map (fun i => (i.zero, i.size, i.bytes)) = some (some (.string ⟨#[]⟩), 1, 16) := by kernel_rfl

set_option maxHeartbeats 2000000 in
set_option maxRecDepth 100000 in
theorem lines_any (s : ByteArray) (w : World) (hs : s.size ≤ 1000000) (hm : MaxAt w) :
    Calls Tryd.prog 29 #[.string s] w fun e w' => ∃ v, e = .returned v ∧ w'.ownsRow w.heap.size 9 1 v (Tx.lines s.data.toList).length ((Tx.lines s.data.toList).map encStr) ∧ Below w.heap.size w w' := by
  have h0 := hm.pos
  obtain ⟨i0, hi, hz0, hz1, hz2⟩ := info_parts info9
  have HM := Lib.hid hm
  clear hm
  go_enter Tryd.func29, Tryd.ntmps29
  go_wp2
  go_loopw [0, 3, 4, 5, 6] (fun i v _ _ _ wr => ∃ (t : ByteArray) (done : List (List UInt8)), i = .string t ∧ wr.ownsRow w.heap.size 9 1 v done.length (done.map encStr) ∧ Below w.heap.size w wr ∧ Hid (done ++ Tx.lines t.data.toList = Tx.lines s.data.toList) ∧ done.length + t.size ≤ s.size)
    (fun i _ _ _ _ _ => match i with | .string t => t.size | _ => 0)
  case atStart => exact ⟨s, [], rfl, World.ownsRow_nil _ _ _ _, Below.refl _ _, rfl, by simp⟩
  case round =>
    obtain ⟨t, done, rfl, hown, hbw, hdone, hlen⟩ := hrel
    have hsz := Lib.size_eq t
    by_cases hne : t.data.toList = []
    · have hemp : t.toList.isEmpty = true := by rw [Lib.toList_data, hne]; rfl
      have hd : done = Tx.lines s.data.toList := by rw [← hdone.out, hne, Tx.lines_nil, List.append_nil]
      have HD := Lib.hid hd
      clear hd hne hsz
      go_wp2
      go_ret
      exact ⟨_, rfl, by rw [← HD.out]; exact hown, hbw⟩
    · have hemp : t.toList.isEmpty = false := by
        rw [Lib.toList_data]
        cases h : t.data.toList with
        | nil => exact absurd h hne
        | cons _ _ => rfl
      have hmr : Hid (MaxAt wr) := HM.out.below hbw h0
      have hcc := Lib.hid (cut_calls t wr (by omega) hmr.out)
      rcases Tx.cut_lf t.data.toList hne with ⟨a, b, hcut, hl, hab⟩ | ⟨hcut, hl⟩
      · have hc2 := hcc.out
        rw [hcut] at hc2
        have HC := Lib.hid hc2
        have HT := fun W => trimSuffix_calls ⟨a.toArray⟩ W (by rw [Tx.bs_len]; omega)
        have HT2 := Lib.hid HT
        have HL := Lib.hid hl
        have hch := Tx.chop_le a
        clear hc2 hcc hcut HT hl hne
        go_wp2_with (first
          | (go_at_call 48; refine HC.out.mono ?_; rintro e w' ⟨rfl, n, rfl⟩)
          | (go_at_call 49; refine (HT2.out _).mono ?_; rintro e w' ⟨rfl, rfl⟩)
          | (at_builtin; go_must (refine wpList_append_own _ rfl _ _ 22 rfl w.heap.size 9 i0 (.string ⟨#[]⟩) 1 16 Tryd.underlying22 hi hz0 hz1 hz2 rfl (by decide) _ _ _ rfl ((row_drews hown _).alloc _) ⟨wr.heap.size, 0, none⟩ 1 1 [encStr (Tx.chop a)] rfl rfl ?c1 ?c2 ?c3 ?c4 ?c5 ?_)))
        case c1 => exact cell_one_new _ _ _
        case c2 => simp [Value.oneCell']
        case c3 => unfold maxLen; omega
        case c4 => omega
        case c5 => have := hbw.size; simp; omega
        intro v' w1 hown' hgrow _
        have hb1 : Below w.heap.size w w1 := ((below_drews hbw n).alloc (by have := hbw.size; simp; omega) _).grown hgrow (by have := hbw.size; simp; omega) (fun k e => (hown.lt k e).1)
        go_wp2
        go_roundw
        case rel => exact ⟨⟨b.toArray⟩, done ++ [Tx.chop a], rfl, by simpa using hown', hb1, by show _ = _; rw [← hdone.out, HL.out]; simp, by have := Tx.bs_len b; simp only [List.length_append, List.length_cons, List.length_nil]; omega⟩
        case measure => have := Tx.bs_len b; show (⟨b.toArray⟩ : ByteArray).size < t.size; omega
      · have hc2 := hcc.out
        rw [hcut] at hc2
        have HC := Lib.hid hc2
        have HL := Lib.hid hl
        have hpos : 0 < t.size := by rw [hsz]; exact List.length_pos_iff.2 hne
        clear hc2 hcc hcut hl hne
        go_wp2_with (first
          | (go_at_call 48; refine HC.out.mono ?_; rintro e w' ⟨rfl, n, rfl⟩)
          | (at_builtin; refine wpList_append_own _ rfl _ _ 22 rfl w.heap.size 9 i0 (.string ⟨#[]⟩) 1 16 Tryd.underlying22 hi hz0 hz1 hz2 rfl (by decide) _ _ _ rfl ((row_drews hown _).alloc _) ⟨wr.heap.size, 0, none⟩ 1 1 [encStr t.data.toList] rfl rfl ?d1 ?d2 ?d3 ?d4 ?d5 ?_))
        case d1 => exact cell_one_new _ _ _
        case d2 => simp [Value.oneCell']
        case d3 => unfold maxLen; omega
        case d4 => omega
        case d5 => have := hbw.size; simp; omega
        intro v' w1 hown' hgrow _
        have hb1 : Below w.heap.size w w1 := ((below_drews hbw n).alloc (by have := hbw.size; simp; omega) _).grown hgrow (by have := hbw.size; simp; omega) (fun k e => (hown.lt k e).1)
        go_wp2
        go_roundw
        case rel => exact ⟨⟨#[]⟩, done ++ [t.data.toList], rfl, by simpa using hown', hb1, by show _ = _; rw [← hdone.out, HL.out]; simp [Tx.lines_nil], by have := Tx.bs_len []; simp only [List.length_append, List.length_cons, List.length_nil] at this ⊢; show done.length + 1 + (⟨#[]⟩ : ByteArray).size ≤ _; have e : (⟨#[]⟩ : ByteArray).size = 0 := rfl; omega⟩
        case measure => show (⟨#[]⟩ : ByteArray).size < t.size; have e : (⟨#[]⟩ : ByteArray).size = 0 := rfl; omega
end Go.Proofs.YtpigplnnmhjbkaaDoor
