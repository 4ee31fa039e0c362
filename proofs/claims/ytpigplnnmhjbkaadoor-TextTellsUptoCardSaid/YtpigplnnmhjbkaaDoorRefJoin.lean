/-
  The reference's Join with a space, and Squeeze.
-/
import Derived.Test.YtpigplnnmhjbkaaDoorRefUnl
namespace Go.Proofs.YtpigplnnmhjbkaaDoor
open Go Go.RowKit Go.Shelf
set_option maxRecDepth 100000 in
set_option maxHeartbeats 4000000 in
theorem refJoin_any (xa : Option Addr) (b off cap : Nat) (X : List (List UInt8)) (w : World) (hr : RowOf w (.slice xa X.length cap) xa b off cap X) (hl : X.length ≤ 300) (hz : ∀ x ∈ X, x.length ≤ 300) :
    Calls Tryd.prog 45 #[.slice xa X.length cap, .string ⟨#[32]⟩] w fun e w' => e = .returned (.string ⟨(Tx.joinSp X).toArray⟩) ∧ Below w.heap.size w w' := by
  obtain ⟨i0, hi, hz0, hz1, hz2⟩ := info_parts infoB
  have HR := Lib.hid hr
  have HZ := Lib.hid hz
  clear hr hz
  obtain ⟨SP, hSP⟩ : ∃ SP : ByteArray, (⟨#[32]⟩ : ByteArray) = SP := ⟨_, rfl⟩
  have hSs : SP.size = 1 := by rw [← hSP]; rfl
  have hSl : Hid (Lib.strCells SP = [.int .u8 32]) := by show _ = _; rw [← hSP]; rfl
  rw [hSP]
  clear hSP
  go_enter Tryd.func45, Tryd.ntmps45
  go_wp2
  go_loopw [5, 6] (fun bb i wr => ∃ k : Nat, i = .int .i64 k ∧ k ≤ X.length ∧ Hid (BytesOf wr w.heap.size bb (Tx.joinSp (X.take k))) ∧ Below w.heap.size w wr) (fun _ i _ => X.length - (intOf i).toNat)
  case atStart => exact ⟨0, rfl, Nat.zero_le _, World.ownsRow_nil _ _ _ _, Below.refl _ _⟩
  case round =>
    obtain ⟨k, rfl, hk, hun, hb⟩ := hrel
    by_cases hlt : k < X.length
    · obtain rfl := HR.out.at_ (by omega)
      obtain ⟨y, hy⟩ : ∃ y : ByteArray, encStr X[k] = .string y := ⟨_, rfl⟩
      have hyl : y.data.toList = X[k] := by
        have : (⟨X[k].toArray⟩ : ByteArray) = y := by injection hy
        rw [← this]
      have hys : y.size ≤ 300 := by rw [Lib.size_eq, hyl]; exact HZ.out _ (List.getElem_mem hlt)
      have HC : Hid (∀ W, Below w.heap.size w W → W.cell? ⟨b, off + k, none⟩ = some (.string y)) := fun W hW => by
        rw [← hy]
        exact (hW.cell (p := ⟨b, off + k, none⟩) (HR.out.lt (by omega))).trans (HR.out.cell k _ (List.getElem?_eq_getElem hlt))
      have hcl : (Tx.joinSp (X.take k)).length ≤ 300 * 301 := by
        refine Nat.le_trans (Tx.joinSp_len _ 300 (fun x hx => HZ.out x (List.mem_of_mem_take hx))) ?_
        rw [List.length_take]
        exact Nat.mul_le_mul_right _ (by omega)
      have hown := hun.out
      have hsb := hb.size
      by_cases hk0 : k = 0
      · subst hk0
        have htk : Hid (Tx.joinSp (X.take (0 + 1)) = y.data.toList) := by
          show _ = _
          rw [List.take_succ_eq_append_getElem hlt, List.take_zero, List.nil_append, Tx.joinSp_one, hyl]
        have c0 := HC.out wr hb
        rw [Nat.add_zero] at c0
        have hown0 : wr.ownsRow w.heap.size 5 1 _ 0 [] := hown
        clear hy hyl hun hown
        go_wp2_with (at_builtin; go_must (refine Lib.wpList_append_own_string _ rfl _ _ 38 9 rfl w.heap.size 5 i0 Tryd.underlying38 Tryd.underlying9 hi hz0 hz1 hz2 _ _ _ rfl hown0 y rfl ?a1 ?a2 hsb ?_))
        case a1 => unfold maxLen; omega
        case a2 => omega
        intro v1 z1 hown1 hg1 _
        have hb1 : Below w.heap.size w z1 := hb.grown hg1 hsb (fun k e => (hown0.lt k e).1)
        have hsb1 := hb1.size
        have HN : Hid (BytesOf z1 w.heap.size v1 (Tx.joinSp (X.take (0 + 1)))) := by
          show z1.ownsRow _ _ _ _ _ _
          rw [htk.out, ← Lib.size_eq]
          have h2 := hown1
          exact h2
        clear hown1 hg1 hb
        go_wp2
        go_roundw
        case rel => exact ⟨0 + 1, by go_num, by omega, HN.out, hb1⟩
        case measure => simp [intOf]; omega
      · have htk : Hid (Tx.joinSp (X.take (k + 1)) = Tx.joinSp (X.take k) ++ (32 :: y.data.toList)) := by
          show _ = _
          rw [List.take_succ_eq_append_getElem hlt, Tx.joinSp_snoc _ _ (by intro e; have := congrArg List.length e; rw [List.length_take, List.length_nil] at this; omega), hyl]
        have hkp : decide ((0 : Int) < (k : Int)) = true := decide_eq_true (by omega)
        clear hy hyl hun
        go_wp2_with (at_builtin; go_must (refine Lib.wpList_append_own_string _ rfl _ _ 38 9 rfl w.heap.size 5 i0 Tryd.underlying38 Tryd.underlying9 hi hz0 hz1 hz2 _ _ _ rfl hown SP rfl ?a1 ?a2 hsb ?_))
        case a1 => unfold maxLen; omega
        case a2 => omega
        intro v1 z1 hown1 hg1 _
        have hb1 : Below w.heap.size w z1 := hb.grown hg1 hsb (fun k e => (hown.lt k e).1)
        have hsb1 := hb1.size
        have c0 := HC.out z1 hb1
        clear hown hg1 hb
        go_wp2_with (at_builtin; go_must (refine Lib.wpList_append_own_string _ rfl _ _ 38 9 rfl w.heap.size 5 i0 Tryd.underlying38 Tryd.underlying9 hi hz0 hz1 hz2 _ _ _ rfl hown1 y rfl ?a1 ?a2 hsb1 ?_))
        case a1 => unfold maxLen; omega
        case a2 => omega
        intro v2 z2 hown2 hg2 _
        have hb2 : Below w.heap.size w z2 := hb1.grown hg2 hsb1 (fun k e => (hown1.lt k e).1)
        have hsb2 := hb2.size
        have HN : Hid (BytesOf z2 w.heap.size v2 (Tx.joinSp (X.take (k + 1)))) := by
          show z2.ownsRow _ _ _ _ _ _
          rw [htk.out, Lib.byteCells_append, List.length_append, List.length_cons, ← Lib.size_eq]
          have h2 := hown2
          rw [hSl.out, Nat.add_assoc, Nat.add_comm 1 y.size] at h2
          exact h2
        clear hown1 hown2 hg2 hb1
        go_wp2
        go_roundw
        case rel => exact ⟨k + 1, by go_num, by omega, HN.out, hb2⟩
        case measure => simp [intOf]; omega
    · have hX := hun.out
      rw [show X.take k = X from List.take_of_length_le (by omega)] at hX
      have hback := hX.back
      clear hX hun
      go_wp2
      go_ret
      exact ⟨rfl, hb⟩

set_option maxRecDepth 100000 in
theorem refSqueeze_any (s : ByteArray) (w : World) (hs : s.size ≤ 300) :
    Calls Tryd.prog 21 #[.string s] w fun e w' => e = .returned (.string ⟨(Tx.squeeze s.data.toList).toArray⟩) ∧ Below w.heap.size w w' := by
  have hl : (Tx.words s.data.toList).length ≤ 300 := by have := Tx.words_len s.data.toList; rw [← Lib.size_eq] at this; omega
  have hz : ∀ x ∈ Tx.words s.data.toList, x.length ≤ 300 := fun x hx => by have := (Tx.words_all _ x hx).2; rw [← Lib.size_eq] at this; omega
  obtain ⟨L, hL⟩ : ∃ L, Tx.words s.data.toList = L := ⟨_, rfl⟩
  have hF := refFields_any s w (by omega)
  have hq : Tx.squeeze s.data.toList = Tx.joinSp L := by rw [← hL]; rfl
  rw [hL] at hl hz hF
  rw [hq]
  have HF := Lib.hid hF
  have HZ := Lib.hid hz
  clear hF hq hz hL
  go_enter Tryd.func21, Tryd.ntmps21
  go_wp2_with fail
  refine HF.out.mono ?_
  rintro e w1 ⟨v, rfl, hrow, hB1⟩
  obtain ⟨xa, b, cap, hr⟩ := rowOf_own hrow
  obtain rfl := hr.is
  have HJ := Lib.hid (refJoin_any xa b 0 cap L w1 hr hl HZ.out)
  clear hrow hr
  go_wp2_with fail
  refine HJ.out.mono ?_
  rintro e w2 ⟨rfl, hB2⟩
  go_wp2
  go_ret
  exact ⟨rfl, hB1.trans (hB2.mono hB1.size)⟩
end Go.Proofs.YtpigplnnmhjbkaaDoor
