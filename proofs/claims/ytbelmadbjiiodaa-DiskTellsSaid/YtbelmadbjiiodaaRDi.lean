/-
  The reference's comes.
-/
import Derived.Test.YtbelmadbjiiodaaRDh
namespace Go.Proofs.Ytbelmadbjiiodaa
open Go Go.RowKit
namespace Dk
theorem add_none (D : Disk) (f at_ : Nat) : add D f at_ [] = D := by
  unfold add
  rw [pieces_nil, List.append_nil]
theorem comes_zero (D : Disk) : comes D (some (0, 0, [])) = comes D none := by
  unfold comes
  by_cases h : D.down = true ∨ D.armed = 0
  · rw [if_pos h, if_pos h]
  · rw [if_neg h, if_neg h]
    by_cases h2 : 1 < D.armed
    · rw [if_pos h2, if_pos h2]
    · rw [if_neg h2, if_neg h2]
      show crash (if _ then _ else _) D.keep = crash { D with armed := 0 } D.keep
      have : (isFile 0 && fits 0 ([] : B)) = true := by decide
      rw [if_pos this]
      show crash (add { D with armed := 0 } 0 0 []) D.keep = _
      rw [add_none]
end Dk
theorem RV.keepIR {w : World} {g : Nat} {vl vq vk : Value} {D : Dk.Disk} (h : RV w g vl vq vk D) : ∃ ka kb kc, vk = .slice ka D.keep.length kc ∧ IR w ka kb 0 D.keep ∧ (0 < D.keep.length → ¬ RFoot w g kb) := by
  rcases h.keep.2 with ⟨rfl, h0⟩ | ⟨kb, cap, cur, e, _, hg, h1, h2, _⟩
  · exact ⟨none, 0, 0, by rw [h0], ⟨fun hp => by omega, fun j hj => by omega, fun hp => by omega, by omega⟩, fun hp => by omega⟩
  · have hc : ∀ j, j < D.keep.length → w.cell? ⟨kb, 0 + j, none⟩ = some (.int .i64 (D.keep.getD j 0)) := fun j hj => by
      have h3 := h.keep.cells (g := kb) (by rw [e]; rfl) j (.int .i64 (D.keep.getD j 0)) (by simp [iv, hj])
      have h4 : (⟨kb, 0, none⟩ : Addr).add j = ⟨kb, 0 + j, none⟩ := by unfold Addr.add; split <;> simp_all
      rw [h4] at h3
      exact h3
    refine ⟨_, kb, cap, e, ⟨fun _ => rfl, hc, fun _ => (Array.getElem?_eq_some_iff.1 hg).1, by unfold maxLen at h2; omega⟩, fun _ hf => ?_⟩
    have hvk : vk.ownBlock = some kb := by rw [e]; rfl
    rcases hf with rfl | ⟨i, v, hi, hc, hv⟩
    · exact own_ne h.keep h.blk (by decide) hvk
    · have hcs := h.cells
      have : i = 0 ∨ i = 1 := by omega
      rcases this with rfl | rfl
      · rw [hcs.1] at hc
        injection hc with hc
        subst hc
        rcases own_apart h.keep h.last (by decide) with h5 | h5
        · rw [hvk] at h5; cases h5
        · exact h5 (hvk.trans hv.symm)
      · rw [hcs.2.1] at hc
        injection hc with hc
        subst hc
        rcases own_apart h.keep h.pend (by decide) with h5 | h5
        · rw [hvk] at h5; cases h5
        · exact h5 (hvk.trans hv.symm)
theorem rcrash_self {w : World} {g : Nat} {D : Dk.Disk} (h : RAt w g D) : ∃ ka n kc, w.cell? ⟨g, 5, none⟩ = some (.slice ka n kc) ∧ Calls Try.prog 38 #[.pointer (some ⟨g, 0, none⟩), .slice ka n kc] w fun e w' => (∃ v, e = .returned v) ∧ RAt w' g (Dk.crash D D.keep) ∧ RMv g w w' := by
  obtain ⟨vl, vq, vk, hv⟩ := h
  obtain ⟨ka, kb, kc, rfl, hI, hnf⟩ := hv.keepIR
  exact ⟨ka, _, kc, hv.cells.2.2.2.2.2, rcrash_any ⟨_, _, _, hv⟩ ka kb 0 _ kc D.keep hI rfl hnf⟩
set_option maxHeartbeats 8000000 in
set_option maxRecDepth 100000 in
theorem rcomes_any {w : World} {g : Nat} {D : Dk.Disk} (h : RAt w g D) (f at_ : Int) (s : ByteArray) (h0 : -9223372036854775808 ≤ at_) (h1 : at_ ≤ 9223372036854775807) (hs : s.size ≤ 100000000) (hq : D.queue.length + s.size ≤ 1000000) : Calls Try.prog 51 #[.pointer (some ⟨g, 0, none⟩), .int .i64 f, .int .i64 at_, .string s] w fun e w' => (∃ v, e = .returned v) ∧ RAt w' g (Dk.comes D (some (f, at_, s.data.toList))) ∧ RMv g w w' := by
  by_cases hc : D.down = true ∨ D.armed = 0
  · have he : Dk.comes D (some (f, at_, s.data.toList)) = D := by unfold Dk.comes; rw [if_pos hc]
    rw [he]
    have H := Lib.hid h
    obtain ⟨vl, vq, vk, hv⟩ := h
    have c3 := hv.cells.2.2.2.1
    have c4 := hv.cells.2.2.2.2.1
    clear hv he
    by_cases hd : D.down = true
    · rw [hd] at c3
      go_enter Try.func51, Try.ntmps51
      go_wp2
      (try simp only [Exit.inBlock, Exit.then]); refine bodyPost_ret (results_none rfl _ _ _) rfl ?_
      exact ⟨⟨_, rfl⟩, H.out, RMv.refl _ _⟩
    · have hd' : D.down = false := by simpa using hd
      have ha : D.armed = 0 := by simpa [hd'] using hc
      rw [hd'] at c3
      rw [ha] at c4
      go_enter Try.func51, Try.ntmps51
      go_wp2
      (try simp only [Exit.inBlock, Exit.then]); refine bodyPost_ret (results_none rfl _ _ _) rfl ?_
      exact ⟨⟨_, rfl⟩, H.out, RMv.refl _ _⟩
  have hd : D.down = false := by cases hd : D.down <;> simp_all
  have ha : D.armed ≠ 0 := fun e => hc (.inr e)
  obtain ⟨vl, vq, vk, hv⟩ := h
  have hg0 := hv.good.armed0
  have hg1 := hv.good.armed1
  have c3 := hv.cells.2.2.2.1
  rw [hd] at c3
  have c4 := hv.cells.2.2.2.2.1
  have f4 := hv.blk.free 4
  have HG := Lib.hid hv.good
  have HV := Lib.hid hv
  obtain ⟨n, hn⟩ : ∃ n, D.armed = n := ⟨_, rfl⟩
  rw [hn] at c4 ha hg0 hg1
  have b0 : (n == 0) = false := by rw [beq_eq_false_iff_ne]; exact ha
  have hs1 := Lib.hid (hv.scalar (D' := { D with armed := n - 1 }) 4 (.int .i64 (n - 1)) rfl rfl rfl rfl rfl ⟨HG.out.len, HG.out.pcs, HG.out.q, HG.out.lost0, HG.out.lost1, by show 0 ≤ n - 1; omega, by show n - 1 ≤ _; omega⟩)
  by_cases h1n : 1 < n
  · have he : Dk.comes D (some (f, at_, s.data.toList)) = { D with armed := n - 1 } := by unfold Dk.comes; rw [if_neg hc, hn, if_pos h1n]
    rw [he]
    have g0 : 0 < n - 1 := by omega
    clear hv he hc
    go_enter Try.func51, Try.ntmps51
    go_wp2
    (try simp only [Exit.inBlock, Exit.then]); refine bodyPost_ret (results_none rfl _ _ _) rfl ?_
    exact ⟨⟨_, rfl⟩, hs1.out⟩
  · obtain rfl : n = 1 := by omega
    obtain ⟨W1, hW1⟩ : ∃ x, w.setCell ⟨g, 4, none⟩ (.int .i64 0) = x := ⟨_, rfl⟩
    have hA : RAt W1 g { D with armed := 0 } ∧ RMv g w W1 := by rw [← hW1]; exact hs1.out
    obtain ⟨hA, hM⟩ := hA
    have c4' : W1.cell? ⟨g, 4, none⟩ = some (.int .i64 0) := by rw [← hW1]; exact World.cell?_setCell_same _ _ _ c4
    have M1 := Lib.hid hM
    have A1 := Lib.hid hA
    have CF := Lib.hid (rfits_any at_ h0 h1 s hs)
    have hdf : Dk.comes D (some (f, at_, s.data.toList)) = Dk.crash (if Dk.isFile f && Dk.fits at_ s.data.toList then Dk.add { D with armed := 0 } f.toNat at_.toNat s.data.toList else { D with armed := 0 }) D.keep := by
      unfold Dk.comes
      rw [if_neg hc, if_neg (by rw [hn]; omega)]
    obtain ⟨ka, kn, kc, c5, CC⟩ := rcrash_self hA
    have CCH := Lib.hid CC
    clear hv hc HV hs1 hA hM CC h1n
    by_cases hfl : 0 ≤ f ∧ f ≤ 11
    · obtain ⟨hfl0, hfl1⟩ := hfl
      have hif : Dk.isFile f = true := by unfold Dk.isFile; simp; omega
      rw [hif, Bool.true_and] at hdf
      cases hfit : Dk.fits at_ s.data.toList with
      | false =>
        rw [hfit] at CF hdf
        rw [if_neg (by decide)] at hdf
        have HE := Lib.hid hdf
        clear hdf hif hfit
        go_enter Try.func51, Try.ntmps51
        go_wp2_with (first | (go_at_call 52; with_reducible refine (CF.out _).mono ?_; rintro _ w1 ⟨rfl, rfl⟩) | (go_at_call 38; with_reducible refine CCH.out.mono ?_; rintro _ w2 ⟨⟨v, rfl⟩, hA2, hM2⟩))
        go_end0
        exact ⟨⟨_, rfl⟩, by rw [HE.out]; exact hA2, M1.out.trans hM2⟩
      | true =>
        have hb : 0 ≤ at_ ∧ at_ + (s.data.toList.length : Int) ≤ 16777216 := by simpa [Dk.fits] using hfit
        obtain ⟨an, rfl⟩ : ∃ n : Nat, at_ = (n : Int) := ⟨at_.toNat, by omega⟩
        obtain ⟨fn, rfl⟩ : ∃ n : Nat, f = (n : Int) := ⟨f.toNat, by omega⟩
        rw [hfit] at CF hdf
        rw [if_pos rfl, Int.toNat_natCast, Int.toNat_natCast] at hdf
        have CAD := Lib.hid (radd_any A1.out fn an (by omega) s (by rw [Lib.size_eq]; omega) hq)
        have HE := Lib.hid hdf
        have SELF := Lib.hid (fun (w2 : World) (hA2 : RAt w2 g (Dk.add { D with armed := 0 } fn an s.data.toList)) => rcrash_self hA2)
        clear hdf hif hfit hb CCH
        go_enter Try.func51, Try.ntmps51
        go_wp2_with (first | (go_at_call 52; with_reducible refine (CF.out _).mono ?_; rintro _ w1 ⟨rfl, rfl⟩) | (go_at_call 53; with_reducible refine CAD.out.mono ?_; rintro _ w1 ⟨⟨v1, rfl⟩, hA1, hM1⟩; obtain ⟨ka1, kn1, kc1, c51, CC1⟩ := SELF.out _ hA1; have CC2 := Lib.hid CC1; clear CC1) | (go_at_call 38; with_reducible refine CC2.out.mono ?_; rintro _ w2 ⟨⟨v, rfl⟩, hA2, hM2⟩))
        go_end0
        exact ⟨⟨_, rfl⟩, by rw [HE.out]; exact hA2, (M1.out.trans hM1).trans hM2⟩
    · have hif : Dk.isFile f = false := by unfold Dk.isFile; simp; omega
      rw [hif, Bool.false_and, if_neg (by decide)] at hdf
      have HE := Lib.hid hdf
      clear hdf hif
      by_cases hf2 : f < 0
      · have hf3 : ¬ f ≥ 0 := by omega
        go_enter Try.func51, Try.ntmps51
        go_wp2_with (go_at_call 38; with_reducible refine CCH.out.mono ?_; rintro _ w2 ⟨⟨v, rfl⟩, hA2, hM2⟩)
        go_end0
        exact ⟨⟨_, rfl⟩, by rw [HE.out]; exact hA2, M1.out.trans hM2⟩
      · have hf3 : f ≥ 0 := by omega
        have hf4 : ¬ f ≤ 11 := by omega
        go_enter Try.func51, Try.ntmps51
        go_wp2_with (go_at_call 38; with_reducible refine CCH.out.mono ?_; rintro _ w2 ⟨⟨v, rfl⟩, hA2, hM2⟩)
        go_end0
        exact ⟨⟨_, rfl⟩, by rw [HE.out]; exact hA2, M1.out.trans hM2⟩
end Go.Proofs.Ytbelmadbjiiodaa
