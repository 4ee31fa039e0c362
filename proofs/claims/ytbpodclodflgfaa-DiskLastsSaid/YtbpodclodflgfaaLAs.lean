/-
  A disk of the call's own, where a block of another kind is written.
-/
import Derived.Test.YtbpodclodflgfaaLWo
namespace Go.Proofs.Ytbpodclodflgfaa
open Go Go.RowKit
/-- A block, if any, that no disk is made of. -/
def Aside (w : World) (r : Option Nat) : Prop := ∀ b, r = some b → ∃ cs t z, w.heap[b]? = some (.cells cs t z) ∧ t ≠ 56 ∧ t ≠ 5 ∧ t ≠ 63 ∧ t ≠ 3
theorem aside_own {w : World} {base : Nat} {e : TypeId} {sz : Nat} {v : Value} {n : Nat} {xs : List Value} (h : w.ownsRow base e sz v n xs) (h1 : e ≠ 56) (h2 : e ≠ 5) (h3 : e ≠ 63) (h4 : e ≠ 3) : Aside w v.ownBlock := fun b hb => by
  obtain ⟨_, ⟨rfl, _⟩ | ⟨g, cap, cur, rfl, _, hg, _⟩⟩ := h
  · cases hb
  · injection hb with hb
    change g = b at hb
    subst hb
    exact ⟨cur, e, _, hg, h1, h2, h3, h4⟩
theorem DiskAt.aside {w w' : World} {g : Nat} {D : Dk.Disk} {r : Option Nat} (h : DiskAt w g D) (hg : w.grownBy w' r) (hr : Aside w r) : DiskAt w' g D ∧ ∀ b, Foot w' g b → Foot w g b := by
  obtain ⟨vs, q, k, hv⟩ := h
  have hs : ∀ b, Foot w g b → w'.heap[b]? = w.heap[b]? := fun b hb => hg.block b (hv.foot_lt hb) fun e => by
    obtain ⟨cs, t, z, hbk, h1, h2, h3, _⟩ := hr b e.symm
    exact hv.not_foot hbk h1 h2 h3 hb
  refine ⟨⟨vs, q, k, hv.frame hs fun b ha hk => hg.block b (hv.keep_lt ha hk) fun e => ?_⟩, fun b hb => foot_same (hs g (.inl rfl)) hb⟩
  obtain ⟨cs, t, z, hbk, _, _, _, h4⟩ := hr b e.symm
  rcases (hv.keep ha).2 with ⟨rfl, _⟩ | ⟨g', cap, cur, rfl, _, hg', _⟩
  · cases hk
  · injection hk with hk
    change g' = b at hk
    subst hk
    rw [hg'] at hbk
    injection hbk with hbk
    injection hbk with _ hbk _
    exact h4 hbk.symm
theorem Mine.aside {w0 w w' : World} {g : Nat} {D : Dk.Disk} {r : Option Nat} (h : Mine w0 w g D) (hg : w.grownBy w' r) (hr : Aside w r) (hb : ∀ b, r = some b → w0.heap.size ≤ b) : Mine w0 w' g D := by
  obtain ⟨x, y⟩ := h.at_.aside hg hr
  exact ⟨x, below_grown h.below (Nat.le_refl _) hg hb, fun b hx => h.foot b (y b hx)⟩
/-- A row of another kind is left alone by what a disk does. -/
theorem own_mv {w w' : World} {g base : Nat} {D : Dk.Disk} {e : TypeId} {sz : Nat} {v : Value} {n : Nat} {xs : List Value} (h : w.ownsRow base e sz v n xs) (hd : DiskAt w g D) (m : Mv g w w') (h1 : e ≠ 56) (h2 : e ≠ 5) (h3 : e ≠ 63) : w'.ownsRow base e sz v n xs := by
  obtain ⟨vs, q, k, hv⟩ := hd
  obtain ⟨y1, h | ⟨b, cap, cur, rfl, y2, hb, y3, y4, y5, y6⟩⟩ := h
  · exact ⟨y1, .inl h⟩
  · exact ⟨y1, .inr ⟨b, cap, cur, rfl, y2, (m.block b (Array.getElem?_eq_some_iff.1 hb).1 (hv.not_foot hb h1 h2 h3)).trans hb, y3, y4, y5, y6⟩⟩
/-- The twelve strings that the law keeps. -/
def sv (safe : Nat → List UInt8) : List Value := (List.range 12).map fun f => .string (enc (safe f))
theorem sv_at (safe : Nat → List UInt8) (f : Nat) (hf : f < 12) : (sv safe)[f]? = some (.string (enc (safe f))) := by
  unfold sv
  rw [List.getElem?_map, List.getElem?_range hf]
  rfl
theorem sv_set (safe : Nat → List UInt8) (f : Nat) (s : List UInt8) : (sv safe).set f (.string (enc s)) = sv (Dk.setLast safe f s) := by
  apply List.ext_getElem?
  intro j
  unfold sv
  by_cases hj : j < 12
  · rw [List.getElem?_set, List.getElem?_map, List.getElem?_map, List.getElem?_range hj]
    unfold Dk.setLast
    by_cases e : f = j
    · subst e
      simp [hj]
    · rw [if_neg e]
      simp [Ne.symm e]
  · rw [List.getElem?_eq_none (by simp; omega), List.getElem?_eq_none (by simp; omega)]
theorem blk_mv {w w' : World} {g b : Nat} {D : Dk.Disk} {t : TypeId} {L : List Value} (h : Blk w b t L) (hd : DiskAt w g D) (m : Mv g w w') (h1 : t ≠ 56) (h2 : t ≠ 5) (h3 : t ≠ 63) : Blk w' b t L := by
  obtain ⟨vs, q, k, hv⟩ := hd
  exact (m.block b h.lt (hv.not_foot h h1 h2 h3)).trans h
theorem blk_grown {w w' : World} {b : Nat} {r : Option Nat} {t : TypeId} {L : List Value} (h : Blk w b t L) (hg : w.grownBy w' r) (hr : r ≠ some b) : Blk w' b t L :=
  (hg.block b h.lt fun e => hr e.symm).trans h
theorem infoS : (Try.prog.info? 9).map (fun i => (i.zero, i.size, i.bytes)) = some (some (.string ⟨#[]⟩), 1, 16) := by kernel_rfl
/-- make([]string, 12). -/
theorem wpList_make12 {w : World} {ops : Array Oper} {o : Oper} {a : Act} {Q : Exit → Act → World → Prop} {rest : List Oper} (hw : Region.wanted o (yielded ops a.tmps) = true) (ho : o.op = .makeSlice 40 (.const (.int .i64 12)) (.const (.int .i64 12)))
    (h : ∀ w', Hid (Blk w' w.heap.size 9 (sv fun _ => [])) → Hid (Below w.heap.size w w') → wpList Try.prog ops Q rest (a.put o.dst (.slice (some ⟨w.heap.size, 0, none⟩) 12 12)) w') : wpList Try.prog ops Q (o :: rest) a w :=
  BigFrame.wpList_want hw fun K hK => by
    obtain ⟨i, hi, hz, hsize, hby⟩ := info_parts infoS
    obtain ⟨w', hr, h2, h3⟩ := run_make_full (P := Try.prog) w 0 40 9 i (.string ⟨#[]⟩) 1 Try.underlying40 hi hz hsize .i64 .i64 12 (by rw [hby]; omega) (by unfold maxLen; omega) (Nat.zero_le _)
    have hb : Blk w' w.heap.size 9 (sv fun _ => []) := by
      obtain ⟨_, ⟨h9, _⟩ | ⟨g, cap, cur, hv, _, hg, _, _, h5, h6⟩⟩ := h2
      · cases h9
      · injection hv with hv _ hc
        injection hv with hv
        injection hv with hv _ _
        subst hv hc
        have e : cur.toList = sv fun _ => [] := by
          rw [List.take_of_length_le (by rw [Array.length_toList]; omega)] at h6
          rw [h6, show (Value.string ⟨#[]⟩).cells = #[Value.string ⟨#[]⟩] from rfl]
          refine List.ext_getElem (by simp [madeCells, sv]) fun i h1 h2 => ?_
          simp [madeCells, sv, Nat.mod_one]
          rfl
        unfold Blk
        rw [hg, ← e]
    unfold Oper.wp
    simp only [execOp, ho, Act.eval, Sem.run_bind, Sem.run_pure]
    rw [show (12 : Int) = ((12 : Nat) : Int) from rfl, hr]
    exact hK _ _ (h w' hb ⟨h3.os, h3.tape, h3.output, h3.size, fun i hi => h3.block i hi (by simp)⟩)
end Go.Proofs.Ytbpodclodflgfaa
