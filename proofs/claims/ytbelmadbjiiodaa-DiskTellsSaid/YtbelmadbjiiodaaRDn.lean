/-
  The reference's New.
-/
import Derived.Test.YtbelmadbjiiodaaRDf
namespace Go.Proofs.Ytbelmadbjiiodaa
open Go Go.RowKit
theorem wpList_rmake {w : World} {ops : Array Oper} {o : Oper} {a : Act} {Q : Exit → Act → World → Prop} {rest : List Oper} (hw : Region.wanted o (yielded ops a.tmps) = true) (ho : o.op = .makeSlice 50 (.const (.int .i64 12)) (.const (.int .i64 12)))
    (h : ∀ w', Hid (w'.ownsRow w.heap.size 9 1 (.slice (some ⟨w.heap.size, 0, none⟩) 12 12) 12 (rs (lasts Dk.new))) → Hid (Below w.heap.size w w') → wpList Try.prog ops Q rest (a.put o.dst (.slice (some ⟨w.heap.size, 0, none⟩) 12 12)) w') : wpList Try.prog ops Q (o :: rest) a w :=
  BigFrame.wpList_want hw fun K hK => by
    obtain ⟨i, hi, hz, hsize, hby⟩ := info_parts infoS5
    obtain ⟨w', hr, h2, h3⟩ := run_make_full (P := Try.prog) w w.heap.size 50 9 i (.string ⟨#[]⟩) 1 Try.underlying50 hi hz hsize .i64 .i64 12 (by rw [hby]; omega) (by unfold maxLen; omega) (Nat.le_refl _)
    have e : (madeCells (Value.string ⟨#[]⟩).cells (12 * 1)).toList = rs (lasts Dk.new) := by
      refine List.ext_getElem (by simp [madeCells, rs, lasts]) fun i h1 h2 => ?_
      simp [madeCells, rs, lasts, Nat.mod_one, Value.cells]
      rfl
    rw [e] at h2
    unfold Oper.wp
    simp only [execOp, ho, Act.eval, Sem.run_bind, Sem.run_pure]
    rw [show (12 : Int) = ((12 : Nat) : Int) from rfl, hr]
    exact hK _ _ (h w' h2 ⟨h3.os, h3.tape, h3.output, h3.size, fun i hi => h3.block i hi (by simp)⟩)
theorem rnew_at {w w1 : World} {lb : Nat} (ho : w1.ownsRow w.heap.size 9 1 (.slice (some ⟨lb, 0, none⟩) 12 12) 12 (rs (lasts Dk.new))) :
    RV (w1.alloc (.cells #[.slice (some ⟨lb, 0, none⟩) 12 12, .slice none 0 0, .int .i64 0, .bool false, .int .i64 0, .slice none 0 0] 53)) w1.heap.size (.slice (some ⟨lb, 0, none⟩) 12 12) (.slice none 0 0) (.slice none 0 0) Dk.new :=
  ⟨Blk.made w1 #[.slice (some ⟨lb, 0, none⟩) 12 12, .slice none 0 0, .int .i64 0, .bool false, .int .i64 0, .slice none 0 0] 53, own_base (r_below ho (r_new w1 _)), ⟨rfl, .inl ⟨rfl, rfl⟩⟩, ⟨rfl, .inl ⟨rfl, rfl⟩⟩, new_good⟩
set_option maxHeartbeats 1000000 in
set_option maxRecDepth 100000 in
theorem rnew_any (w : World) : Calls Try.prog 7 #[] w fun e w' => ∃ g, e = .returned (.pointer (some ⟨g, 0, none⟩)) ∧ w.heap.size ≤ g ∧ RAt w' g Dk.new ∧ Below w.heap.size w w' ∧ (∀ b, RFoot w' g b → w.heap.size ≤ b) := by
  go_enter Try.func7, Try.ntmps7
  go_wp2_with (refine wpList_rmake (by rfl) (by rfl) ?_; intro w1 ho hb)
  go_ret
  have hr := rnew_at ho.out
  exact ⟨_, rfl, hb.out.size, ⟨_, _, _, hr⟩, below_alloc hb.out (Nat.le_refl _) _, fun b hf => by
    rcases hf with rfl | ⟨i, v, hi, hc, hv⟩
    · exact hb.out.size
    · have hcs := hr.cells
      have : i = 0 ∨ i = 1 := by omega
      rcases this with rfl | rfl
      · rw [hcs.1] at hc
        injection hc with hc
        subst hc
        injection hv with hv
        subst hv
        exact Nat.le_refl _
      · rw [hcs.2.1] at hc
        injection hc with hc
        subst hc
        cases hv⟩
end Go.Proofs.Ytbelmadbjiiodaa
