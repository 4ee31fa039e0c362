/-
  The reference's Unlines; text.Unlines for all sizes that fit.
-/
import Derived.Test.YtpigplnnmhjbkaaDoorRefLines
import Derived.Lib.AppendStr
import Derived.Laws.IdiomStrings
import Derived.Laws.BytesArg
namespace Go.Proofs.YtpigplnnmhjbkaaDoor
open Go Go.RowKit Go.Shelf
theorem infoB : (Tryd.prog.info? 5).map (fun i => (i.zero, i.size, i.bytes)) = some (some (.int .u8 0), 1, 1) := by kernel_rfl
/-- A value that holds just these bytes, the call's own. -/
def BytesOf (w : World) (base : Nat) (v : Value) (l : List UInt8) : Prop := w.ownsRow base 5 1 v l.length (Lib.byteCells l)
theorem BytesOf.back {w : World} {base : Nat} {v : Value} {l : List UInt8} (h : BytesOf w base v l) : (convert 38 9 v).run Tryd.prog w = .ok (.string ⟨l.toArray⟩) w := by
  by_cases hn : 0 < l.length
  · obtain ⟨g, cap, rfl, _, hg, hc⟩ := row_some h hn
    have := run_convert_bytes_back (P := Tryd.prog) w 38 9 5 ⟨g, 0, none⟩ cap l Tryd.underlying38 Tryd.underlying5 Tryd.underlying9 (fun j hj => by
      rw [Lib.add_plain, Nat.zero_add]
      exact hc j _ (by unfold Lib.byteCells; rw [List.getElem?_map, List.getElem?_eq_getElem hj]; rfl))
    exact this
  · have hl : l = [] := List.eq_nil_of_length_eq_zero (by omega)
    subst hl
    rcases h.2 with ⟨rfl, _⟩ | ⟨g, cap, cur, rfl, _⟩
    · exact run_convert_bytes_nil (P := Tryd.prog) w 38 5 Tryd.underlying38 Tryd.underlying5 0 0 9 Tryd.underlying9
    · exact run_convert_bytes_back (P := Tryd.prog) w 38 9 5 ⟨g, 0, none⟩ cap [] Tryd.underlying38 Tryd.underlying5 Tryd.underlying9 (fun j hj => absurd hj (Nat.not_lt_zero _))
namespace Tx
theorem unlines_take (X : List (List UInt8)) (k : Nat) : (unlines (X.take k)).length ≤ (unlines X).length := by
  have h : unlines X = unlines (X.take k) ++ unlines (X.drop k) := by
    conv => lhs; rw [← List.take_append_drop k X]
    simp only [unlines, List.map_append, List.flatten_append]
  rw [h, List.length_append]; omega
end Tx
set_option maxRecDepth 100000 in
set_option maxHeartbeats 4000000 in
theorem unlines_sum (xa : Option Addr) (b off cap : Nat) (X : List (List UInt8)) (w : World) (hr : RowOf w (.slice xa X.length cap) xa b off cap X) (hl : X.length ≤ 1000000) (hz : (Tx.unlines X).length ≤ 2000000) :
    Calls Tryd.prog 22 #[.slice xa X.length cap] w fun e w' => e = .returned (.string ⟨(Tx.unlines X).toArray⟩) ∧ Below w.heap.size w w' := by
  have hfr : UnI w [] (w.alloc (.cells #[.pointer none, .slice none 0 0] 42)) := ⟨Lib.IsBuilderF.of (Lib.fresh_isBuilder 42 5 w), (Below.refl _ w).alloc (Nat.le_refl _) _⟩
  have HR := Lib.hid hr
  have HZ := Lib.hid hz
  have HF := Lib.hid hfr
  clear hr hz hfr
  go_enter Tryd.func22, Tryd.ntmps22
  go_wp2
  go_loopw [8] (fun i wr => ∃ k : Nat, i = .int .i64 k ∧ k ≤ X.length ∧ Hid (UnI w (Tx.unlines (X.take k)) wr)) (fun i _ => X.length - (intOf i).toNat)
  case atStart => exact ⟨0, rfl, Nat.zero_le _, HF.out⟩
  case round =>
    obtain ⟨k, rfl, hk, hun⟩ := hrel
    by_cases hlt : k < X.length
    · obtain rfl := HR.out.at_ (by omega)
      obtain ⟨y, hy⟩ : ∃ y : ByteArray, encStr X[k] = .string y := ⟨_, rfl⟩
      have hyl : y.data.toList = X[k] := by
        have : (⟨X[k].toArray⟩ : ByteArray) = y := by injection hy
        rw [← this]
      have c0 : wr.cell? ⟨b, off + k, none⟩ = some (.string y) := by
        rw [← hy]
        exact (hun.out.2.cell (p := ⟨b, off + k, none⟩) (HR.out.lt (by omega))).trans (HR.out.cell k _ (List.getElem?_eq_getElem hlt))
      have htk : Hid (Tx.unlines (X.take (k + 1)) = Tx.unlines (X.take k) ++ (y.data.toList ++ [10])) := by
        show _ = _
        rw [List.take_succ_eq_append_getElem hlt, Tx.unlines_snoc, hyl]
      have hcl : (Tx.unlines (X.take k)).length + y.size + 1 ≤ 2000000 := by
        have h1 := Tx.unlines_take X (k + 1)
        have h2 := HZ.out
        rw [htk.out, List.length_append, List.length_append, ← Lib.size_eq] at h1
        simp only [List.length_cons, List.length_nil] at h1
        omega
      have hbl : (Lib.byteCells (Tx.unlines (X.take k))).length + y.size + 1 ≤ 2000000 := by rw [Lib.byteCells_length]; exact hcl
      obtain ⟨hI, hB⟩ := id hun.out
      have hsW := hB.size
      have HB := Lib.hid hB
      obtain ⟨bs, hbs⟩ : ∃ bs, Lib.byteCells (Tx.unlines (X.take k)) = bs := ⟨_, rfl⟩
      rw [hbs] at hI hbl
      have HI := Lib.hid hI
      have HBS := Lib.hid hbs
      clear hy hyl hcl hI hB hbs hun
      go_wp2_with fail
      refine (writeString_calls w.heap.size w.heap.size _ _ _ HI.out (by omega) hsW).mono ?_
      rintro e w1 ⟨rfl, hI1, hB1, _⟩
      have hsW1 := Nat.le_trans hsW hB1.size
      have hl1 : (bs ++ Lib.byteCells y.data.toList).length + 1 ≤ 2000000 := by rw [List.length_append, Lib.byteCells_length, ← Lib.size_eq]; omega
      go_wp2_with fail
      refine (writeByte_calls w.heap.size w.heap.size _ _ _ hI1 (by omega) hsW1).mono ?_
      rintro e w2 ⟨rfl, hI2, hB2, _⟩
      have HN : Hid (UnI w (Tx.unlines (X.take (k + 1))) w2) := by
        refine ⟨?_, (HB.out.trans hB1).trans hB2⟩
        rw [htk.out, Lib.byteCells_append, Lib.byteCells_append, HBS.out, ← List.append_assoc]
        exact hI2
      clear hI1 hI2 hB1 hB2 hsW1 hl1
      go_wp2
      go_roundw
      case rel => exact ⟨k + 1, by go_num, by omega, HN.out⟩
      case measure => simp [intOf]; omega
    · obtain ⟨hI, hB⟩ := id hun.out
      rw [show X.take k = X from List.take_of_length_le (by omega)] at hI
      have hsW := hB.size
      have HI := Lib.hid hI
      have HB := Lib.hid hB
      clear hI hB hun
      go_wp2_with fail
      refine (string_calls w.heap.size w.heap.size _ _ HI.out hsW).mono ?_
      rintro e w1 ⟨rfl, hB1, _⟩
      go_wp2
      go_ret
      exact ⟨rfl, HB.out.trans hB1⟩

set_option maxRecDepth 100000 in
set_option maxHeartbeats 4000000 in
theorem refUnlines_any (xa : Option Addr) (b off cap : Nat) (X : List (List UInt8)) (w : World) (hr : RowOf w (.slice xa X.length cap) xa b off cap X) (hl : X.length ≤ 1000000) (hz : (Tx.unlines X).length ≤ 2000000) :
    Calls Tryd.prog 23 #[.slice xa X.length cap] w fun e w' => e = .returned (.string ⟨(Tx.unlines X).toArray⟩) ∧ Below w.heap.size w w' := by
  obtain ⟨i0, hi, hz0, hz1, hz2⟩ := info_parts infoB
  have HR := Lib.hid hr
  have HZ := Lib.hid hz
  clear hr hz
  go_enter Tryd.func23, Tryd.ntmps23
  go_wp2
  go_loopw [3, 4] (fun bb i wr => ∃ k : Nat, i = .int .i64 k ∧ k ≤ X.length ∧ Hid (BytesOf wr w.heap.size bb (Tx.unlines (X.take k))) ∧ Below w.heap.size w wr) (fun _ i _ => X.length - (intOf i).toNat)
  case atStart => exact ⟨0, rfl, Nat.zero_le _, World.ownsRow_nil _ _ _ _, Below.refl _ _⟩
  case round =>
    obtain ⟨k, rfl, hk, hun, hb⟩ := hrel
    by_cases hlt : k < X.length
    · obtain rfl := HR.out.at_ (by omega)
      obtain ⟨y, hy⟩ : ∃ y : ByteArray, encStr X[k] = .string y := ⟨_, rfl⟩
      have hyl : y.data.toList = X[k] := by
        have : (⟨X[k].toArray⟩ : ByteArray) = y := by injection hy
        rw [← this]
      have c0 : wr.cell? ⟨b, off + k, none⟩ = some (.string y) := by
        rw [← hy]
        exact (hb.cell (p := ⟨b, off + k, none⟩) (HR.out.lt (by omega))).trans (HR.out.cell k _ (List.getElem?_eq_getElem hlt))
      have htk : Hid (Tx.unlines (X.take (k + 1)) = Tx.unlines (X.take k) ++ (y.data.toList ++ [10])) := by
        show _ = _
        rw [List.take_succ_eq_append_getElem hlt, Tx.unlines_snoc, hyl]
      have hcl : (Tx.unlines (X.take k)).length + y.size + 1 ≤ 2000000 := by
        have h1 := Tx.unlines_take X (k + 1)
        have h2 := HZ.out
        rw [htk.out, List.length_append, List.length_append, ← Lib.size_eq] at h1
        simp only [List.length_cons, List.length_nil] at h1
        omega
      have hown := hun.out
      have hsb := hb.size
      clear hy hyl hun
      have hbl : (Lib.byteCells (Tx.unlines (X.take k))).length = (Tx.unlines (X.take k)).length := Lib.byteCells_length _
      go_wp2_with (at_builtin; go_must (refine Lib.wpList_append_own_string _ rfl _ _ 38 9 rfl w.heap.size 5 i0 Tryd.underlying38 Tryd.underlying9 hi hz0 hz1 hz2 _ _ _ rfl hown y rfl ?a1 ?a2 hsb ?_))
      case a1 => unfold maxLen; omega
      case a2 => omega
      intro v1 z1 hown1 hg1 _
      have hb1 : Below w.heap.size w z1 := hb.grown hg1 hsb (fun k e => (hown.lt k e).1)
      have hsb1 := hb1.size
      clear hown hg1 hb
      go_wp2_with (at_builtin; go_must (refine wpList_append_own _ rfl _ _ 38 rfl w.heap.size 5 i0 (.int .u8 0) 1 1 Tryd.underlying38 hi hz0 hz1 hz2 rfl (by decide) _ _ _ rfl (hown1.alloc _) ⟨z1.heap.size, 0, none⟩ 1 1 [.int .u8 10] rfl rfl ?c1 ?c2 ?c3 ?c4 ?c5 ?_))
      case c1 => exact cell_one_new _ _ _
      case c2 => simp [Value.oneCell']
      case c3 => unfold maxLen; omega
      case c4 => omega
      case c5 => simp; omega
      intro v2 z2 hown2 hg2 _
      have hb2 : Below w.heap.size w z2 := (hb1.alloc hsb1 _).grown hg2 (by simp; omega) (fun k e => (hown1.lt k e).1)
      have HN : Hid (BytesOf z2 w.heap.size v2 (Tx.unlines (X.take (k + 1)))) := by
        show z2.ownsRow _ _ _ _ _ _
        rw [htk.out, Lib.byteCells_append, Lib.byteCells_append, List.length_append, List.length_append, ← Nat.add_assoc, ← Lib.size_eq]
        exact hown2
      clear hown1 hown2 hg2 hb1
      go_wp2
      go_roundw
      case rel => exact ⟨k + 1, by go_num, by omega, HN.out, hb2⟩
      case measure => simp [intOf]; omega
    · have hX := hun.out
      rw [show X.take k = X from List.take_of_length_le (by omega)] at hX
      have hback := hX.back
      clear hX hun
      go_wp2
      go_ret
      exact ⟨rfl, hb⟩
end Go.Proofs.YtpigplnnmhjbkaaDoor
