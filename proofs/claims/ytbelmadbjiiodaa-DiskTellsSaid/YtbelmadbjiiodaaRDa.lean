/-
  The reference's disk in memory; its small functions.
-/
import Derived.Test.YtbelmadbjiiodaaKGg
namespace Go.Proofs.Ytbelmadbjiiodaa
open Go Go.RowKit
/-- Strings as cells. -/
def rs (l : List (List UInt8)) : List Value := l.map fun x => .string (enc x)
theorem rs_length (l : List (List UInt8)) : (rs l).length = l.length := by simp [rs]
theorem rs_cells (l : List (List UInt8)) : ∀ v ∈ rs l, v.oneCell' = true := fun v hv => by
  obtain ⟨x, _, rfl⟩ := List.mem_map.1 hv
  rfl
def lasts (D : Dk.Disk) : List (List UInt8) := (List.range 12).map D.last
theorem lasts_length (D : Dk.Disk) : (lasts D).length = 12 := by simp [lasts]
theorem lasts_at (D : Dk.Disk) (f : Nat) (h : f < 12) : (rs (lasts D))[f]? = some (.string (enc (D.last f))) := by simp [rs, lasts, h]
theorem lasts_set (D : Dk.Disk) (f : Nat) (_h : f < 12) (s : List UInt8) : (rs (lasts D)).set f (.string (enc s)) = rs (lasts { D with last := Dk.setLast D.last f s }) := by
  refine List.ext_getElem? fun i => ?_
  by_cases hi : i < 12
  · rw [lasts_at _ i hi, List.getElem?_set]
    by_cases hf : f = i
    · subst hf
      rw [if_pos rfl, if_pos (by simp [rs, lasts, hi])]
      show _ = some (Value.string (enc (Dk.setLast D.last f s f)))
      unfold Dk.setLast
      rw [if_pos rfl]
    · rw [if_neg hf, lasts_at _ i hi]
      show _ = some (Value.string (enc (Dk.setLast D.last f s i)))
      unfold Dk.setLast
      rw [if_neg (fun e => hf e.symm)]
  · rw [List.getElem?_eq_none (by simp [rs, lasts]; omega), List.getElem?_eq_none (by simp [rs, lasts]; omega)]
theorem infoS5 : (Try.prog.info? 9).map (fun i => (i.zero, i.size, i.bytes)) = some (some (.string ⟨#[]⟩), 1, 16) := by kernel_rfl
theorem infoQ5 : (Try.prog.info? 71).map (fun i => (i.zero, i.size, i.bytes)) = some (some (.agg #[.int .i64 0, .int .i64 0, .string ⟨#[]⟩]), 3, 32) := by kernel_rfl
def rcells (vl vq vk : Value) (D : Dk.Disk) : List Value := [vl, vq, .int .i64 D.lost, .bool D.down, .int .i64 D.armed, vk]
/-- Block g, the reference's disk. -/
structure RV (w : World) (g : Nat) (vl vq vk : Value) (D : Dk.Disk) : Prop where
  blk : Blk w g 53 (rcells vl vq vk D)
  last : w.ownsRow 0 9 1 vl 12 (rs (lasts D))
  pend : w.ownsRow 0 71 3 vq D.queue.length (pv D.queue)
  keep : w.ownsRow 0 3 1 vk D.keep.length (iv D.keep)
  good : Dk.Good D
/-- The blocks that it may write. -/
def RFoot (w : World) (g b : Nat) : Prop := b = g ∨ ∃ i v, i < 2 ∧ w.cell? ⟨g, i, none⟩ = some v ∧ v.ownBlock = some b
structure RMv (g : Nat) (w w' : World) : Prop where
  os : w'.os = w.os
  tape : w'.tape = w.tape
  output : w'.output = w.output
  size : w.heap.size ≤ w'.heap.size
  block : ∀ b, b < w.heap.size → ¬ RFoot w g b → w'.heap[b]? = w.heap[b]?
  foot : ∀ b, RFoot w' g b → RFoot w g b ∨ w.heap.size ≤ b
theorem RMv.refl (g : Nat) (w : World) : RMv g w w := ⟨rfl, rfl, rfl, Nat.le_refl _, fun _ _ _ => rfl, fun _ h => .inl h⟩
theorem RMv.trans {g : Nat} {a b c : World} (h : RMv g a b) (k : RMv g b c) : RMv g a c :=
  ⟨k.os.trans h.os, k.tape.trans h.tape, k.output.trans h.output, Nat.le_trans h.size k.size,
   fun x hx hn => (k.block x (Nat.lt_of_lt_of_le hx h.size) (fun hf => by
    rcases h.foot x hf with h1 | h1
    · exact hn h1
    · omega)).trans (h.block x hx hn),
   fun x hx => by
    rcases k.foot x hx with h1 | h1
    · exact h.foot x h1
    · have := h.size; exact .inr (by omega)⟩
theorem rfoot_same {w w' : World} {g b : Nat} (he : w'.heap[g]? = w.heap[g]?) (h : RFoot w' g b) : RFoot w g b := by
  rcases h with h | ⟨i, v, hi, hc, hv⟩
  · exact .inl h
  · exact .inr ⟨i, v, hi, by rw [← hc]; exact (World.cell?_of_block (a := ⟨g, i, none⟩) he).symm, hv⟩
theorem RMv.of_below {g : Nat} {w w' : World} (h : Below w.heap.size w w') (hg : g < w.heap.size) : RMv g w w' :=
  ⟨h.os, h.tape, h.output, h.size, fun b hb _ => h.block b hb, fun _ hf => .inl (rfoot_same (h.block g hg) hf)⟩
section
variable {w w' : World} {g : Nat} {vl vq vk : Value} {D : Dk.Disk}
theorem RV.lt (h : RV w g vl vq vk D) : g < w.heap.size := h.blk.lt
theorem RV.cells (h : RV w g vl vq vk D) : w.cell? ⟨g, 0, none⟩ = some vl ∧ w.cell? ⟨g, 1, none⟩ = some vq ∧ w.cell? ⟨g, 2, none⟩ = some (.int .i64 D.lost) ∧ w.cell? ⟨g, 3, none⟩ = some (.bool D.down) ∧ w.cell? ⟨g, 4, none⟩ = some (.int .i64 D.armed) ∧ w.cell? ⟨g, 5, none⟩ = some vk :=
  ⟨h.blk.cell (j := 0) rfl, h.blk.cell (j := 1) rfl, h.blk.cell (j := 2) rfl, h.blk.cell (j := 3) rfl, h.blk.cell (j := 4) rfl, h.blk.cell (j := 5) rfl⟩
theorem RV.below (h : RV w g vl vq vk D) (hb : Below w.heap.size w w') : RV w' g vl vq vk D :=
  ⟨(hb.block g h.lt).trans h.blk, own_same h.last fun b hv => hb.block b (own_lt h.last hv), own_same h.pend fun b hv => hb.block b (own_lt h.pend hv), own_same h.keep fun b hv => hb.block b (own_lt h.keep hv), h.good⟩
/-- Where the files lie. -/
theorem RV.lshape (h : RV w g vl vq vk D) : ∃ lb c, vl = .slice (some ⟨lb, 0, none⟩) 12 c ∧ 12 ≤ c ∧ ∀ f, f < 12 → w.cell? ⟨lb, f, none⟩ = some (.string (enc (D.last f))) := by
  rcases h.last.2 with ⟨_, h0⟩ | ⟨lb, cap, cur, e, _, _, h1, h2, _⟩
  · omega
  · refine ⟨lb, cap, e, h1, fun f hf => ?_⟩
    have h3 := h.last.cells (g := lb) (by rw [e]; rfl) f _ (lasts_at D f hf)
    have h4 : (⟨lb, 0, none⟩ : Addr).add f = ⟨lb, f, none⟩ := by unfold Addr.add; split <;> simp_all
    rw [h4] at h3
    exact h3
theorem RV.qshape (h : RV w g vl vq vk D) : ∃ qa gq cap, vq = .slice qa D.queue.length cap ∧ (0 < D.queue.length → qa = some ⟨gq, 0, none⟩) ∧ D.queue.length ≤ cap ∧ cap ≤ 9223372036854775807 ∧ ∀ j p, D.queue[j]? = some p → w.cell? ⟨gq, j * 3, none⟩ = some (.int .i64 (p.f : Int)) ∧ w.cell? ⟨gq, j * 3 + 1, none⟩ = some (.int .i64 (p.at_ : Int)) ∧ w.cell? ⟨gq, j * 3 + 2, none⟩ = some (.string (enc p.s)) := by
  rcases h.pend.2 with ⟨rfl, h0⟩ | ⟨gq, cap, cur, e, _, _, h1, h2, _⟩
  · refine ⟨none, 0, 0, by rw [h0], fun hp => by omega, by omega, by omega, fun j p hp => ?_⟩
    have := (List.getElem?_eq_some_iff.1 hp).1
    omega
  · refine ⟨_, gq, cap, e, fun _ => rfl, h1, by unfold maxLen at h2; omega, fun j p hp => ?_⟩
    have key : ∀ (i : Nat) (v : Value), (pc p)[i]? = some v → w.cell? ⟨gq, j * 3 + i, none⟩ = some v := fun i v hv => by
      have h1 := h.pend.cells (g := gq) (by rw [e]; rfl) (j * 3 + i) v (pv_at D.queue j i p v hp hv)
      have h2 : (⟨gq, 0, none⟩ : Addr).add (j * 3 + i) = ⟨gq, j * 3 + i, none⟩ := by unfold Addr.add; split <;> simp_all
      rw [h2] at h1
      exact h1
    exact ⟨key 0 _ rfl, key 1 _ rfl, key 2 _ rfl⟩
end
/-- The reference's disk, wherever its rows lie. -/
def RAt (w : World) (g : Nat) (D : Dk.Disk) : Prop := ∃ vl vq vk, RV w g vl vq vk D
theorem RAt.below {w w' : World} {g : Nat} {D : Dk.Disk} (h : RAt w g D) (hb : Below w.heap.size w w') : RAt w' g D ∧ RMv g w w' := by
  obtain ⟨vl, vq, vk, hv⟩ := h
  exact ⟨⟨vl, vq, vk, hv.below hb⟩, RMv.of_below hb hv.lt⟩
set_option maxHeartbeats 1000000 in
set_option maxRecDepth 100000 in
theorem rfits_any (at_ : Int) (h0 : -9223372036854775808 ≤ at_) (h1 : at_ ≤ 9223372036854775807) (s : ByteArray) (hs : s.size ≤ 100000000) (w : World) : Calls Try.prog 52 #[.int .i64 at_, .string s] w fun e w' => e = .returned (.bool (Dk.fits at_ s.data.toList)) ∧ w = w' := by
  have hz := Lib.size_eq s
  have HF : RowKit.Hid (Dk.fits at_ s.data.toList = (decide (0 ≤ at_) && decide (at_ + (s.size : Int) ≤ 16777216))) := Lib.hid (by unfold Dk.fits; rw [hz])
  clear hz
  by_cases a0 : 0 ≤ at_
  · have d0 : decide (0 ≤ at_) = true := by simpa using a0
    by_cases a1 : at_ ≤ 16777216
    · have d1 : decide (at_ ≤ 16777216) = true := by simpa using a1
      go_enter Try.func52, Try.ntmps52
      go_wp2
      go_ret
      exact ⟨ret_bool (by rw [HF.out, d0, Bool.true_and]), rfl⟩
    · have d1 : decide (at_ ≤ 16777216) = false := by simpa using a1
      have d2 : decide (at_ + (s.size : Int) ≤ 16777216) = false := by simp; omega
      go_enter Try.func52, Try.ntmps52
      go_wp2
      go_ret
      exact ⟨by rw [HF.out, d0, d2]; rfl, rfl⟩
  · have d0 : decide (0 ≤ at_) = false := by simpa using a0
    go_enter Try.func52, Try.ntmps52
    go_wp2
    go_ret
    exact ⟨by rw [HF.out, d0]; rfl, rfl⟩
section
variable {w : World} {g : Nat} {D : Dk.Disk}
set_option maxHeartbeats 1000000 in
set_option maxRecDepth 100000 in
theorem rdown_any (h : RAt w g D) : Calls Try.prog 16 #[.pointer (some ⟨g, 0, none⟩)] w fun e w' => e = .returned (.bool D.down) ∧ w = w' := by
  obtain ⟨vl, vq, vk, hv⟩ := h
  have c3 := hv.cells.2.2.2.1
  obtain ⟨dn, hdn⟩ : ∃ dn, D.down = dn := ⟨_, rfl⟩
  rw [hdn] at c3 ⊢
  clear hv hdn
  go_enter Try.func16, Try.ntmps16
  go_wp2
  go_ret
  exact ⟨rfl, rfl⟩
set_option maxHeartbeats 1000000 in
set_option maxRecDepth 100000 in
theorem rmay_any (h : RAt w g D) (f : Int) : Calls Try.prog 44 #[.pointer (some ⟨g, 0, none⟩), .int .i64 f] w fun e w' => e = .returned (.int .i64 (Dk.ec (Dk.may D f))) ∧ w = w' := by
  obtain ⟨vl, vq, vk, hv⟩ := h
  have c3 := hv.cells.2.2.2.1
  cases hdn : D.down with
  | true =>
    have HM := Lib.hid (Dk.may_down hdn (f := f))
    rw [hdn] at c3
    clear hv hdn
    go_enter Try.func44, Try.ntmps44
    go_wp2
    go_ret
    exact ⟨by rw [HM.out]; rfl, rfl⟩
  | false =>
    rw [hdn] at c3
    by_cases f0 : f < 0
    · have d0 : decide (f < 0) = true := by simpa using f0
      have HM := Lib.hid (Dk.may_arg hdn (f := f) (.inl f0))
      clear hv hdn
      go_enter Try.func44, Try.ntmps44
      go_wp2
      go_ret
      exact ⟨by rw [HM.out]; rfl, rfl⟩
    · have d0 : decide (f < 0) = false := by simpa using f0
      by_cases f1 : 11 < f
      · have d1 : decide (11 < f) = true := by simpa using f1
        have HM := Lib.hid (Dk.may_arg hdn (f := f) (.inr f1))
        clear hv hdn
        go_enter Try.func44, Try.ntmps44
        go_wp2
        go_ret
        exact ⟨by rw [HM.out]; rfl, rfl⟩
      · have d1 : decide (11 < f) = false := by simpa using f1
        have HM := Lib.hid (Dk.may_file hdn (f := f) (by omega) (by omega))
        clear hv hdn
        go_enter Try.func44, Try.ntmps44
        go_wp2
        go_ret
        exact ⟨by rw [HM.out]; rfl, rfl⟩
end
end Go.Proofs.Ytbelmadbjiiodaa
