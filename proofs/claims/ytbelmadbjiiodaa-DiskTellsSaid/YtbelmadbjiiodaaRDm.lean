/-
  The reference's Turn.
-/
import Derived.Test.YtbelmadbjiiodaaRDl
namespace Go.Proofs.Ytbelmadbjiiodaa
open Go Go.RowKit
theorem own_len {w : World} {base : Nat} {e : TypeId} {size : Nat} {v : Value} {n : Nat} {xs : List Value} (h : w.ownsRow base e size v n xs) : ∃ pa c, v = .slice pa n c := by
  rcases h.2 with ⟨rfl, rfl⟩ | ⟨g, cap, cur, rfl, _⟩
  · exact ⟨_, _, rfl⟩
  · exact ⟨_, _, rfl⟩
theorem Dk.pending_len (q : List Dk.Piece) (f : Nat) : ((Dk.without q f).length = q.length) ↔ Dk.pending q f = false := by
  unfold Dk.without Dk.pending
  rw [List.length_filter_eq_length_iff, List.any_eq_false]
  constructor
  · intro h x hx
    have := h x hx
    simpa using this
  · intro h x hx
    have := h x hx
    simpa using this
set_option maxHeartbeats 8000000 in
set_option maxRecDepth 100000 in
theorem rturn_any {w : World} {g : Nat} {D : Dk.Disk} (h : RAt w g D) (f t : Int) (hq : D.queue.length ≤ 1000000) : Calls Try.prog 37 #[.pointer (some ⟨g, 0, none⟩), .int .i64 f, .int .i64 t] w fun e w' => e = .returned (.int .i64 (Dk.ec (Dk.turn D f t).1)) ∧ RAt w' g (Dk.turn D f t).2 ∧ RMv g w w' := by
  have CC := Lib.hid (rcomes_any h 0 0 ⟨#[]⟩ (by decide) (by decide) (by decide) (by show D.queue.length + 0 ≤ _; omega))
  have e0 : Dk.comes D (some (0, 0, (⟨#[]⟩ : ByteArray).data.toList)) = Dk.comes D none := Dk.comes_zero D
  rw [e0] at CC
  clear e0
  obtain ⟨R, hR⟩ : ∃ R, Dk.turn D f t = R := ⟨_, rfl⟩
  rw [hR]
  unfold Dk.turn at hR
  obtain ⟨D1, hD1⟩ : ∃ x, Dk.comes D none = x := ⟨_, rfl⟩
  rw [hD1] at hR CC
  have CM := Lib.hid (fun (w1 : World) (hA : RAt w1 g D1) => rmay_any hA f)
  have CT := Lib.hid (fun (w1 : World) (hA : RAt w1 g D1) => rmay_any hA t)
  clear hD1 h
  unfold Dk.turnB at hR
  by_cases hm : Dk.may D1 f = .ok
  · rw [if_pos hm] at hR
    rw [hm] at CM
    obtain ⟨hfl0, hfl1⟩ := Dk.may_file_of hm
    by_cases hmt : Dk.may D1 t = .ok
    · rw [if_pos hmt] at hR
      rw [hmt] at CT
      obtain ⟨htl0, htl1⟩ := Dk.may_file_of hmt
      by_cases hft : f = t
      · rw [if_pos hft] at hR
        subst hR
        subst hft
        clear hm hmt
        go_enter Try.func37, Try.ntmps37
        go_wp2_with (first | (go_at_call 51; with_reducible refine CC.out.mono ?_; rintro _ w1 ⟨⟨v1, rfl⟩, hA1, hM1⟩) | (go_at_call 44; with_reducible refine (CM.out _ hA1).mono ?_; rintro _ w2 ⟨rfl, rfl⟩))
        go_ret
        exact ⟨rfl, hA1, hM1⟩
      · rw [if_neg hft] at hR
        obtain ⟨fn, rfl⟩ : ∃ n : Nat, f = (n : Int) := ⟨f.toNat, by omega⟩
        obtain ⟨tn, rfl⟩ : ∃ n : Nat, t = (n : Int) := ⟨t.toNat, by omega⟩
        rw [Int.toNat_natCast, Int.toNat_natCast] at hR
        have hfn : fn < 12 := by omega
        have htn : tn < 12 := by omega
        have bft : ((fn : Int) == (tn : Int)) = false := by rw [beq_eq_false_iff_ne]; exact hft
        have HPL := Dk.pending_len D1.queue tn
        clear hm hmt
        by_cases hp : Dk.pending D1.queue tn = true
        · rw [if_pos hp] at hR
          subst hR
          go_enter Try.func37, Try.ntmps37
          go_wp2_with (first | (go_at_call 51; with_reducible refine CC.out.mono ?_; rintro _ w1 ⟨⟨v1, rfl⟩, hA1, hM1⟩) | (go_at_call 44; first | (with_reducible refine (CM.out _ hA1).mono ?_; rintro _ w2 ⟨rfl, rfl⟩) | (with_reducible refine (CT.out _ hA1).mono ?_; rintro _ w2 ⟨rfl, rfl⟩)))
          obtain ⟨vl, vq, vk, hv⟩ := hA1
          obtain ⟨qa, gq, qc, rfl, _, _, _, _⟩ := hv.qshape
          obtain ⟨lb, lc, rfl, _, _⟩ := hv.lshape
          have c1 := hv.drew.cells.2.1
          have CWO := Lib.hid (rwithout_any ⟨_, _, _, hv.drew⟩ tn)
          have KEY := Lib.hid (fun (w4 : World) (hb : Below w1.drew.heap.size w1.drew w4) => hv.drew.below hb)
          have MM := Lib.hid (fun (w4 : World) (hb : Below w1.drew.heap.size w1.drew w4) => hM1.trans (RMv.of_below (below_behind hb) hv.lt))
          obtain ⟨m, hmq⟩ : ∃ m, D1.queue.length = m := ⟨_, rfl⟩
          obtain ⟨m2, hmq2⟩ : ∃ m, (Dk.without D1.queue tn).length = m := ⟨_, rfl⟩
          rw [hmq] at c1 HPL KEY
          rw [hmq2] at CWO HPL
          clear hv CC CM CT hM1
          have hne : m2 ≠ m := fun e => by rw [HPL.1 e] at hp; cases hp
          have bne : ((m2 : Int) != (m : Int)) = true := by simp; omega
          go_region_with (go_at_call 54; with_reducible refine CWO.out.mono ?_; rintro _ w4 ⟨v4, rfl, hb4, ho4⟩; obtain ⟨pa, pcap, rfl⟩ := own_len ho4; have H4 := Lib.hid (KEY.out _ hb4); have c14 := H4.out.cells.2.1; have M4 := Lib.hid (MM.out _ hb4))
          all_goals go_wp2
          all_goals go_ret
          all_goals exact ⟨rfl, ⟨_, _, _, H4.out⟩, M4.out⟩
        · rw [if_neg hp] at hR
          subst hR
          go_enter Try.func37, Try.ntmps37
          go_wp2_with (first | (go_at_call 51; with_reducible refine CC.out.mono ?_; rintro _ w1 ⟨⟨v1, rfl⟩, hA1, hM1⟩) | (go_at_call 44; first | (with_reducible refine (CM.out _ hA1).mono ?_; rintro _ w2 ⟨rfl, rfl⟩) | (with_reducible refine (CT.out _ hA1).mono ?_; rintro _ w2 ⟨rfl, rfl⟩)))
          obtain ⟨vl, vq, vk, hv⟩ := hA1
          obtain ⟨qa, gq, qc, rfl, _, _, _, _⟩ := hv.qshape
          obtain ⟨lb, lc, rfl, _, _⟩ := hv.lshape
          have c1 := hv.drew.cells.2.1
          have CWO := Lib.hid (rwithout_any ⟨_, _, _, hv.drew⟩ tn)
          have KEY := Lib.hid (fun (w4 : World) (hb : Below w1.drew.heap.size w1.drew w4) => hv.drew.below hb)
          have MM := Lib.hid (fun (w4 : World) (hb : Below w1.drew.heap.size w1.drew w4) => hM1.trans (RMv.of_below (below_behind hb) hv.lt))
          obtain ⟨m, hmq⟩ : ∃ m, D1.queue.length = m := ⟨_, rfl⟩
          obtain ⟨m2, hmq2⟩ : ∃ m, (Dk.without D1.queue tn).length = m := ⟨_, rfl⟩
          rw [hmq] at c1 HPL KEY
          rw [hmq2] at CWO HPL
          clear hv CC CM CT hM1
          have hee : m2 = m := HPL.2 (by simpa using hp)
          subst hee
          clear hmq hmq2 HPL hp
          go_region_with (go_at_call 54; with_reducible refine CWO.out.mono ?_; rintro _ w4 ⟨v4, rfl, hb4, ho4⟩; obtain ⟨pa, pcap, rfl⟩ := own_len ho4; have H4 := Lib.hid (KEY.out _ hb4); have c14 := H4.out.cells.2.1; have M4 := Lib.hid (MM.out _ hb4))
          all_goals (have hlt := H4.out.good.len tn htn; have qt := (H4.out.drew.lastset tn htn [] (by decide)).2.1; have Z1 := H4.out.drew.lastset fn hfn (D1.last tn) hlt; have q0 := Z1.1; have q1 := Z1.2.1; have q2 := Z1.2.2.1; have Z2 := (H4.out.lastset fn hfn (D1.last tn) hlt).2.2.2; clear Z1; obtain ⟨U, hU⟩ : ∃ U, enc (D1.last tn) = U := ⟨_, rfl⟩; rw [hU] at Z2 qt; obtain ⟨s0, s1, s2, _, _⟩ := Z2.1.drew.lastset tn htn [] (by decide); have Z3 := (Z2.1.lastset tn htn [] (by decide)).2.2.2; have e0 : enc [] = (⟨#[]⟩ : ByteArray) := rfl; rw [e0] at Z3; have q5 := Z3.1.drew; have M6 := Lib.hid ((M4.out.trans Z2.2).trans Z3.2).drew; have CWO2 := Lib.hid (rwithout_any ⟨_, _, _, q5⟩ fn); have SQ := Lib.hid (fun (w5 : World) (v5 : Value) hb ho => q5.setq (w' := w5) (vq' := v5) (Q := Dk.without D1.queue fn) hb ho (q5.good.less fn)); clear hU e0 Z2 Z3 q5 hlt H4 M4 KEY MM CWO hb4 ho4)
          all_goals (go_wp2_with fail)
          all_goals go_region
          all_goals go_wp2_with (go_at_call 54; with_reducible refine CWO2.out.mono ?_; rintro _ w5 ⟨v5, rfl, hb5, ho5⟩; obtain ⟨r1, r2, r3, r4⟩ := SQ.out w5 v5 hb5 ho5; obtain ⟨pa5, pc5, rfl⟩ := own_len ho5; clear hb5 ho5)
          all_goals go_ret
          all_goals exact ⟨rfl, r3, M6.out.trans r4⟩
    · rw [if_neg hmt] at hR
      obtain ⟨x, hx⟩ : ∃ x, Dk.ec (Dk.may D1 t) = x := ⟨_, rfl⟩
      have hne := Dk.ec_ne hmt
      rw [hx] at CT hne
      obtain ⟨e1, e2⟩ := hne
      have HX : RowKit.Hid (x = Dk.ec R.1) := Lib.hid (by rw [← hx, ← hR])
      have HRR : RowKit.Hid (D1 = R.2) := Lib.hid (by rw [← hR])
      have hft : f ≠ t := fun e => hmt (e ▸ hm)
      clear hm hx hR hmt
      go_enter Try.func37, Try.ntmps37
      go_wp2_with (first | (go_at_call 51; with_reducible refine CC.out.mono ?_; rintro _ w1 ⟨⟨v1, rfl⟩, hA1, hM1⟩) | (go_at_call 44; first | (with_reducible refine (CM.out _ hA1).mono ?_; rintro _ w2 ⟨rfl, rfl⟩) | (with_reducible refine (CT.out _ hA1).mono ?_; rintro _ w2 ⟨rfl, rfl⟩)))
      go_ret
      exact ⟨ret_int HX.out, by rw [← HRR.out]; exact hA1, hM1⟩
  · rw [if_neg hm] at hR
    obtain ⟨x, hx⟩ : ∃ x, Dk.ec (Dk.may D1 f) = x := ⟨_, rfl⟩
    have hne := Dk.ec_ne hm
    rw [hx] at CM hne
    obtain ⟨e1, e2⟩ := hne
    have HX : RowKit.Hid (x = Dk.ec R.1) := Lib.hid (by rw [← hx, ← hR])
    have HRR : RowKit.Hid (D1 = R.2) := Lib.hid (by rw [← hR])
    clear hm hx hR
    go_enter Try.func37, Try.ntmps37
    go_wp2_with (first | (go_at_call 51; with_reducible refine CC.out.mono ?_; rintro _ w1 ⟨⟨v1, rfl⟩, hA1, hM1⟩) | (go_at_call 44; with_reducible refine (CM.out _ hA1).mono ?_; rintro _ w2 ⟨rfl, rfl⟩))
    go_ret
    exact ⟨ret_int HX.out, by rw [← HRR.out]; exact hA1, hM1⟩
end Go.Proofs.Ytbelmadbjiiodaa
