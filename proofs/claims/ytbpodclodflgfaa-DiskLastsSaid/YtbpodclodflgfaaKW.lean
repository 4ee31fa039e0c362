/-
  What the laws need besides: how long the queue may grow; part; the arguments.
-/
import Derived.Test.YtbpodclodflgfaaKU
import Derived.Test.YtbpodclodflgfaaKReord
import Derived.Test.YtbpodclodflgfaaKArms
namespace Go.Proofs.Ytbpodclodflgfaa
open Go Go.RowKit
namespace Dk
theorem add_queue (D : Disk) (f at_ : Nat) (s : B) : (add D f at_ s).queue.length ≤ D.queue.length + s.length := by
  unfold add
  show (D.queue ++ pieces f s.length at_ s).length ≤ _
  rw [List.length_append]
  have := pieces_len f s.length at_ s
  omega
theorem crash_queue (D : Disk) (ks : List Int) : (crash D ks).queue.length ≤ D.queue.length := by
  unfold crash
  by_cases h : D.down = true
  · rw [if_pos h]; exact Nat.le_refl _
  · rw [if_neg h]; exact Nat.zero_le _
theorem tick_queue (D : Disk) : (tick D).queue = D.queue := rfl
theorem writeB_queue (D : Disk) (f at_ : Int) (s : B) : (writeB D f at_ s).2.queue.length ≤ D.queue.length + s.length := by
  unfold writeB
  split
  · split
    · simp
    · split
      · exact add_queue _ _ _ _
      · simp
  · simp
theorem write_queue (D : Disk) (h0 : 0 ≤ D.armed) (f at_ : Int) (s : B) : (write D f at_ s).2.queue.length ≤ D.queue.length + s.length := by
  rw [write_is D h0]
  split
  · simp
  · split
    · refine Nat.le_trans (crash_queue _ _) ?_
      exact writeB_queue (tick D) f at_ s
    · exact writeB_queue (tick D) f at_ s
theorem comes_queue (D : Disk) (h0 : 0 ≤ D.armed) : (comes D none).queue.length ≤ D.queue.length := by
  rw [comes_is D h0]
  split
  · exact Nat.le_refl _
  · split
    · exact crash_queue (tick D) _
    · exact Nat.le_refl _
theorem without_len (q : List Piece) (f : Nat) : (without q f).length ≤ q.length := List.length_filter_le _ _
theorem flush_queue (D : Disk) (h0 : 0 ≤ D.armed) (f : Int) : (flush D f).2.queue.length ≤ D.queue.length := by
  refine Nat.le_trans ?_ (comes_queue D h0)
  unfold flush flushB
  split
  · split
    · exact Nat.le_refl _
    · exact without_len _ _
  · exact Nat.le_refl _
theorem cut_queue (D : Disk) (h0 : 0 ≤ D.armed) (f n : Int) : (cut D f n).2.queue.length ≤ D.queue.length := by
  refine Nat.le_trans ?_ (comes_queue D h0)
  unfold cut cutB
  split
  · split
    · exact Nat.le_refl _
    · exact without_len _ _
  · exact Nat.le_refl _
theorem turn_queue (D : Disk) (h0 : 0 ≤ D.armed) (f g : Int) : (turn D f g).2.queue.length ≤ D.queue.length := by
  refine Nat.le_trans ?_ (comes_queue D h0)
  unfold turn turnB
  split
  · split
    · split
      · exact Nat.le_refl _
      · split
        · exact Nat.le_refl _
        · exact without_len _ _
    · exact Nat.le_refl _
  · exact Nat.le_refl _
end Dk
theorem Mine.armed0 {w0 w : World} {g : Nat} {D : Dk.Disk} (h : Mine w0 w g D) : 0 ≤ D.armed := by
  obtain ⟨vs, q, k, hv⟩ := h.at_
  exact hv.good.armed0
/-- make([]byte, n) behind a guard that says yes. -/
theorem wpList_make_want {w : World} {ops : Array Oper} {o : Oper} {a : Act} {Q : Exit → Act → World → Prop} {rest : List Oper} (hw : Region.wanted o (yielded ops a.tmps) = true) (l c : Operand) (ho : o.op = .makeSlice 46 l c)
    (kl kc : IntKind) (L C : Int) (n : Nat) (hl : a.eval l = .int kl L) (hc : a.eval c = .int kc C) (hL : L = (n : Int)) (hC : C = (n : Int)) (hn : n ≤ 1000000)
    (h : ∀ v' w', Hid (w'.ownsRow 0 5 1 v' (List.replicate n (0 : UInt8)).length (bv (List.replicate n 0))) → Hid (Below w.heap.size w w') → wpList Try.prog ops Q rest (a.put o.dst v') w') : wpList Try.prog ops Q (o :: rest) a w :=
  BigFrame.wpList_want hw fun K hK => by
    obtain ⟨i, hi, hz, hsize, hby⟩ := info_parts infoU
    obtain ⟨w', hr, h2, h3⟩ := run_make_full (P := Try.prog) w 0 46 5 i (.int .u8 0) 1 Try.underlying46 hi hz hsize kl kc n (by rw [hby]; omega) (by unfold maxLen; omega) (Nat.zero_le _)
    have e : (madeCells (Value.int .u8 0).cells (n * 1)).toList = bv (List.replicate n 0) := by
      rw [Nat.mul_one]
      have hz : (Value.int IntKind.u8 0).cells = #[Value.int IntKind.u8 0] := rfl
      rw [hz]
      refine List.ext_getElem (by simp [madeCells, bv]) fun i h1 h2 => ?_
      simp [madeCells, bv, Nat.mod_one]
    subst hL
    subst hC
    unfold Oper.wp
    simp [execOp, ho, hl, hc, hr, Result.andThen]
    refine hK _ _ (h _ w' ?_ ⟨h3.os, h3.tape, h3.output, h3.size, fun i hi => h3.block i hi (by simp)⟩)
    rw [e] at h2
    show World.ownsRow _ _ _ _ _ _ _
    rw [List.length_replicate]
    exact h2
theorem enc_data (s : ByteArray) : enc s.data.toList = s := rfl
set_option maxHeartbeats 1000000 in
set_option maxRecDepth 100000 in
theorem part_any (s : ByteArray) (k : Int) (w : World) : Calls Try.prog 28 #[.string s, .int .i64 k] w fun e w' => e = .returned (.string (enc (Dk.kept s.data.toList k))) ∧ w = w' := by
  by_cases h1 : k = 1
  · subst h1
    have HR := Lib.hid (show s = enc (Dk.kept s.data.toList 1) from rfl)
    go_enter Try.func28, Try.ntmps28
    go_wp2
    go_ret
    exact ⟨ret_str HR.out, rfl⟩
  · by_cases h2 : k = 2
    · subst h2
      by_cases hs : s.size ≤ 24
      · have HR := Lib.hid (show s = enc (Dk.kept s.data.toList 2) from by
          have : Dk.kept s.data.toList 2 = s.data.toList := by
            show s.data.toList.take 24 = _
            rw [List.take_of_length_le (by rw [← Lib.size_eq s]; exact hs)]
          rw [this]; rfl)
        go_enter Try.func28, Try.ntmps28
        go_wp2
        all_goals try (exfalso; omega)
        all_goals
          go_ret
          first
            | exact ⟨ret_str HR.out, rfl⟩
            | (have e : s.size = 24 := by omega
               exact ⟨ret_str (by rw [← HR.out, ← e]; simp), rfl⟩)
      · have hs' : 24 < s.size := by omega
        have HR := Lib.hid (show s.extract 0 24 = enc (Dk.kept s.data.toList 2) from by
          have e := ext_take s 24
          show _ = enc (s.data.toList.take 24)
          rw [← e]; rfl)
        go_enter Try.func28, Try.ntmps28
        go_wp2
        all_goals try (exfalso; omega)
        all_goals
          go_ret
          exact ⟨ret_str HR.out, rfl⟩
    · have HR := Lib.hid (show (⟨#[]⟩ : ByteArray) = enc (Dk.kept s.data.toList k) from by unfold Dk.kept; rw [if_neg h1, if_neg h2]; rfl)
      have e1 : (k == 1) = false := by simpa using h1
      have e2 : (k == 2) = false := by simpa using h2
      go_enter Try.func28, Try.ntmps28
      go_wp2
      go_ret
      exact ⟨ret_str HR.out, rfl⟩
end Go.Proofs.Ytbpodclodflgfaa
