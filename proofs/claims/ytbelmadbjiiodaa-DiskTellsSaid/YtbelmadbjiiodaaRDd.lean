/-
  The reference's disk: a field is written; Lose, Start, Read.
-/
import Derived.Test.YtbelmadbjiiodaaRDc
namespace Go.Proofs.Ytbelmadbjiiodaa
open Go Go.RowKit
theorem RMv.store {g : Nat} {w w' : World} (h : RMv g w w') {t : TypeId} {L : List Value} (hb : Blk w' g t L) (i : Nat) (v : Value) (hv : ∀ x, v.ownBlock = some x → 2 ≤ i ∨ RFoot w g x ∨ w.heap.size ≤ x) : RMv g w (w'.setCell ⟨g, i, none⟩ v) := by
  refine ⟨h.os, h.tape, h.output, by rw [set_size]; exact h.size, fun b hbs hn => (set_other w' g i b v (fun e => hn (.inl e))).trans (h.block b hbs hn), fun x hx => ?_⟩
  rcases hx with rfl | ⟨j, u, hj, hc, hu⟩
  · exact .inl (.inl rfl)
  · have hB := hb.set i v
    by_cases hij : i = j
    · subst hij
      by_cases hl : i < L.length
      · have h2 := hB.cell (j := i) (v := v) (by simp [hl])
        rw [h2] at hc
        injection hc with hc
        subst hc
        rcases hv x hu with h | h | h
        · omega
        · exact .inl h
        · exact .inr h
      · exfalso
        unfold Blk at hB
        simp [World.cell?, hB, hl] at hc
    · refine h.foot x (.inr ⟨j, u, hj, ?_, hu⟩)
      unfold Blk at hB hb
      simp [World.cell?, hB, hij] at hc
      simp [World.cell?, hb, hc]
theorem RMv.drew {g : Nat} {w w' : World} (h : RMv g w w') : RMv g w w'.drew := ⟨h.os, h.tape, h.output, h.size, h.block, h.foot⟩
section
variable {w w' : World} {g : Nat} {vl vq vk : Value} {D : Dk.Disk}
theorem RV.lfoot (h : RV w g vl vq vk D) {x : Nat} (hx : vl.ownBlock = some x) : RFoot w g x := .inr ⟨0, _, by omega, h.cells.1, hx⟩
theorem RV.qfoot (h : RV w g vl vq vk D) {x : Nat} (hx : vq.ownBlock = some x) : RFoot w g x := .inr ⟨1, _, by omega, h.cells.2.1, hx⟩
/-- A field is written: the rows of the new fields lie there already. -/
theorem RV.put {vl' vq' vk' : Value} {D' : Dk.Disk} (h : RV w g vl vq vk D) (i : Nat) (v : Value) (hc : (rcells vl vq vk D).set i v = rcells vl' vq' vk' D')
    (h0 : w.ownsRow 0 9 1 vl' 12 (rs (lasts D'))) (h1 : w.ownsRow 0 71 3 vq' D'.queue.length (pv D'.queue)) (h2 : w.ownsRow 0 3 1 vk' D'.keep.length (iv D'.keep)) (hg : Dk.Good D') : RV (w.setCell ⟨g, i, none⟩ v) g vl' vq' vk' D' :=
  ⟨hc ▸ h.blk.set i v, own_same h0 fun b hb => set_other w g i b v (fun e => own_ne h0 h.blk (by decide) (e ▸ hb)), own_same h1 fun b hb => set_other w g i b v (fun e => own_ne h1 h.blk (by decide) (e ▸ hb)),
   own_same h2 fun b hb => set_other w g i b v (fun e => own_ne h2 h.blk (by decide) (e ▸ hb)), hg⟩
theorem RV.scalar {D' : Dk.Disk} (h : RV w g vl vq vk D) (i : Nat) (v : Value) (hv : v.ownBlock = none) (hc : (rcells vl vq vk D).set i v = rcells vl vq vk D') (hl : D'.last = D.last) (hq : D'.queue = D.queue) (hk : D'.keep = D.keep) (hg : Dk.Good D') :
    RAt (w.setCell ⟨g, i, none⟩ v) g D' ∧ RMv g w (w.setCell ⟨g, i, none⟩ v) :=
  ⟨⟨_, _, _, h.put i v hc (by have : lasts D' = lasts D := by unfold lasts; rw [hl]
                              rw [this]; exact h.last) (by rw [hq]; exact h.pend) (by rw [hk]; exact h.keep) hg⟩, (RMv.refl g w).store h.blk i v (fun x hx => by rw [hv] at hx; cases hx)⟩
end
section
variable {w : World} {g : Nat} {D : Dk.Disk}
set_option maxHeartbeats 1000000 in
set_option maxRecDepth 100000 in
theorem rlose_any (h : RAt w g D) (n : Int) (hn : -9223372036854775808 ≤ n) (hm : n ≤ 9223372036854775807) : Calls Try.prog 39 #[.pointer (some ⟨g, 0, none⟩), .int .i64 n] w fun e w' => (∃ v, e = .returned v) ∧ RAt w' g (Dk.lose D n) ∧ RMv g w w' := by
  obtain ⟨vl, vq, vk, hv⟩ := h
  have c2 := hv.cells.2.2.1
  have f2 := hv.blk.free 2
  have HG := Lib.hid hv.good
  have H0 := Lib.hid (fun (m : Int) (h0 : 0 ≤ m) (h1 : m ≤ 9223372036854775807) => hv.scalar (D' := { D with lost := m }) 2 (.int .i64 m) rfl rfl rfl rfl rfl ⟨hv.good.len, hv.good.pcs, hv.good.q, h0, h1, hv.good.armed0, hv.good.armed1⟩)
  clear hv
  by_cases h0 : 0 ≤ n
  · have HM := Lib.hid (show Dk.lose D n = { D with lost := n } from by unfold Dk.lose; rw [Int.max_eq_left h0])
    have H := Lib.hid (H0.out n h0 hm)
    clear H0
    go_enter Try.func39, Try.ntmps39
    go_wp2
    all_goals go_end0
    all_goals rw [HM.out]
    all_goals first | (exfalso; omega) | exact ⟨⟨_, rfl⟩, H.out⟩
  · have HM := Lib.hid (show Dk.lose D n = { D with lost := 0 } from by unfold Dk.lose; rw [Int.max_eq_right (by omega)])
    have H := Lib.hid (H0.out 0 (by decide) (by decide))
    clear H0
    go_enter Try.func39, Try.ntmps39
    go_wp2
    all_goals go_end0
    all_goals rw [HM.out]
    all_goals first | (exfalso; omega) | exact ⟨⟨_, rfl⟩, H.out⟩
set_option maxHeartbeats 1000000 in
set_option maxRecDepth 100000 in
theorem rstart_any (h : RAt w g D) : Calls Try.prog 20 #[.pointer (some ⟨g, 0, none⟩)] w fun e w' => (∃ v, e = .returned v) ∧ RAt w' g (Dk.start D) ∧ RMv g w w' := by
  obtain ⟨vl, vq, vk, hv⟩ := h
  have c2 := hv.cells.2.2.2.1
  have f2 := hv.blk.free 3
  have H := Lib.hid (hv.scalar (D' := Dk.start D) 3 (.bool false) rfl rfl rfl rfl rfl ⟨hv.good.len, hv.good.pcs, hv.good.q, hv.good.lost0, hv.good.lost1, hv.good.armed0, hv.good.armed1⟩)
  clear hv
  go_enter Try.func20, Try.ntmps20
  go_wp2
  go_end0
  exact ⟨⟨_, rfl⟩, H.out⟩
set_option maxHeartbeats 1000000 in
set_option maxRecDepth 100000 in
theorem rreadE_any (h : RAt w g D) (f : Int) : Calls Try.prog 22 #[.pointer (some ⟨g, 0, none⟩), .int .i64 f] w fun e w' => e = .returned (.tuple #[.string (enc (Dk.readE D f).1), .int .i64 (Dk.ec (Dk.readE D f).2)]) ∧ Below w.heap.size w w' := by
  have C := Lib.hid (rmay_any h f)
  by_cases hm : Dk.may D f = .ok
  · have hf : 0 ≤ f ∧ f ≤ 11 := by
      by_cases hd : D.down = true
      · rw [Dk.may_down hd] at hm; cases hm
      · by_cases hf : f < 0 ∨ 11 < f
        · rw [Dk.may_arg (by simpa using hd) hf] at hm; cases hm
        · omega
    obtain ⟨fn, rfl⟩ : ∃ n : Nat, f = (n : Int) := ⟨f.toNat, by omega⟩
    have e : Dk.readE D (fn : Int) = (Dk.read D fn, .ok) := by unfold Dk.readE; rw [hm]; rfl
    rw [e]
    rw [hm] at C
    have CR := Lib.hid (rread_any h fn (by omega))
    clear h hm e hf
    go_enter Try.func22, Try.ntmps22
    go_wp2_with (first | (go_at_call 44; with_reducible refine C.out.mono ?_; rintro _ w1 ⟨rfl, rfl⟩) | (go_at_call 42; with_reducible refine CR.out.mono ?_; rintro _ w2 ⟨rfl, hb⟩))
    go_ret2
    exact ⟨rfl, hb⟩
  · have e : Dk.readE D f = ([], Dk.may D f) := by
      unfold Dk.readE
      split <;> simp_all
    have hx0 : Dk.ec (Dk.may D f) ≠ 0 := by
      cases hq : Dk.may D f <;> simp_all [Dk.ec]
    obtain ⟨x, hx⟩ : ∃ x, Dk.ec (Dk.may D f) = x := ⟨_, rfl⟩
    rw [hx] at hx0
    rw [hx] at C
    rw [e, hx]
    have e1 : (x == 0) = false := by simpa using hx0
    clear h hm hx e
    go_enter Try.func22, Try.ntmps22
    go_wp2_with (go_at_call 44; with_reducible refine C.out.mono ?_; rintro _ w1 ⟨rfl, rfl⟩)
    go_ret2
    exact ⟨rfl, Below.refl _ _⟩
end
end Go.Proofs.Ytbelmadbjiiodaa
