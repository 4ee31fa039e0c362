/-
  Turn.
-/
import Derived.Test.YtbpodclodflgfaaKQ
namespace Go.Proofs.Ytbpodclodflgfaa
open Go Go.RowKit
namespace Dk
def turned (D : Disk) (f h : Nat) : Disk := { D with last := setLast (setLast D.last f (D.last h)) h [], queue := without D.queue f }
theorem turnB_is (D : Disk) (hd : D.down = false) (f h : Int) : turnB D f h = if isFile f = true ∧ isFile h = true ∧ f ≠ h then (if pending D.queue h.toNat = true then (.state, D) else (.ok, turned D f.toNat h.toNat)) else (.arg, D) := by
  unfold turnB
  rw [may_is hd, may_is hd]
  by_cases h1 : isFile f = true
  · by_cases h2 : isFile h = true
    · by_cases h3 : f = h
      · rw [if_pos h1, if_pos h2, if_pos rfl, if_pos rfl, if_pos h3, if_neg (fun x => x.2.2 h3)]
      · rw [if_pos (⟨h1, h2, h3⟩ : isFile f = true ∧ isFile h = true ∧ f ≠ h), if_pos h1, if_pos h2, if_pos rfl, if_pos rfl, if_neg h3]; rfl
    · rw [if_pos h1, if_neg h2, if_pos rfl, if_neg (by decide), if_neg (fun x => h2 x.2.1)]
  · rw [if_neg h1, if_neg (by decide), if_neg (fun x => h1 x.1)]
theorem pending_idx {Q : List Piece} {f : Nat} {r : Int} (h : IsIdx Q f r) : pending Q f = decide (0 ≤ r) := by
  unfold pending
  rcases h with ⟨rfl, h⟩ | ⟨j, p, rfl, hp, hf, _⟩
  · rw [List.any_eq_false.2 (fun p hp => by simpa using h p hp)]; rfl
  · rw [List.any_eq_true.2 ⟨p, List.mem_of_getElem? hp, by simpa using hf⟩]
    simp
end Dk
set_option maxHeartbeats 1000000 in
set_option maxRecDepth 100000 in
theorem contains_any (Q : List Dk.Piece) (f cb gq n cap : Nat) (qa : Option Addr) (w : World) (hQ : PR w qa gq Q) (hn : Q.length = n) (hN : n ≤ 1000000) (hc : w.cell? ⟨cb, 0, none⟩ = some (.int .i64 (f : Int))) (hb : cb < w.heap.size) :
    Calls Try.prog 53 #[.slice qa n cap, .func (.func 54) #[] #[.pointer (some ⟨cb, 0, none⟩)]] w fun e w' => e = .returned (.bool (Dk.pending Q f)) ∧ Below w.heap.size w w' := by
  have C := Lib.hid (idx_turn Q f cb gq n cap qa w hQ hn hN hc hb)
  clear hQ hn hc
  go_enter Try.func53, Try.ntmps53
  go_wp2_with (go_at_call 62; with_reducible refine C.out.mono ?_; rintro _ w1 ⟨r, rfl, hI, hb1⟩; have HI := Lib.hid hI; have HB := Lib.hid hb1; clear hI hb1)
  go_ret
  exact ⟨ret_bool (by rw [Dk.pending_idx HI.out]), HB.out⟩
/-- The exchange of two files. -/
theorem DiskV.turned {w : World} {g : Nat} {vs : Nat → Value} {q k : Value} {D : Dk.Disk} (h : DiskV w g vs q k D) {a b : Nat} (ha : a < 12) (hb : b < 12) (D' : Dk.Disk) (hD' : D' = { D with last := Dk.setLast (Dk.setLast D.last a (D.last b)) b [] }) :
    DiskV ((w.setCell ⟨g, a, none⟩ (vs b)).setCell ⟨g, b, none⟩ (.slice none 0 0)) g (upd (upd vs a (vs b)) b (.slice none 0 0)) q k D' ∧ Mv g w ((w.setCell ⟨g, a, none⟩ (vs b)).setCell ⟨g, b, none⟩ (.slice none 0 0)) := by
  subst hD'
  have hs : ∀ x, x ≠ g → ((w.setCell ⟨g, a, none⟩ (vs b)).setCell ⟨g, b, none⟩ (.slice none 0 0)).heap[x]? = w.heap[x]? := fun x hx => (set_other _ g b x _ hx).trans (set_other w g a x _ hx)
  refine ⟨⟨?_, fun i hi => ?_, own_same h.pend fun x hx => hs x (h.fq hx).2, fun hh => own_same (h.keep hh) fun x hx => hs x (fun e => h.not_keep hh hx (.inl e)), fun i j hi hj hij => ?_, ⟨fun i hi => ?_, h.good.pcs, h.good.q, h.good.lost0, h.good.lost1, h.good.armed0, h.good.armed1⟩, h.kone⟩, ?_⟩
  · have := (h.blk.set a (vs b)).set b (.slice none 0 0)
    rw [dcells_upd vs q k D a ha (vs b) D.last, dcells_upd _ q k _ b hb _ (Dk.setLast (Dk.setLast D.last a (D.last b)) b [])] at this
    exact this
  · show World.ownsRow _ _ _ _ (upd (upd vs a (vs b)) b (.slice none 0 0) i) (Dk.setLast (Dk.setLast D.last a (D.last b)) b [] i).length (bv (Dk.setLast (Dk.setLast D.last a (D.last b)) b [] i))
    unfold upd Dk.setLast
    by_cases h1 : i = b
    · rw [if_pos h1, if_pos h1]; exact World.ownsRow_nil _ _ _ _
    · rw [if_neg h1, if_neg h1]
      by_cases h2 : i = a
      · rw [if_pos h2, if_pos h2]
        exact own_same (h.file b hb) fun x hx => hs x (h.ffile hb hx).2
      · rw [if_neg h2, if_neg h2]
        exact own_same (h.file i hi) fun x hx => hs x (h.ffile hi hx).2
  · unfold upd
    by_cases h1 : i = b
    · rw [if_pos h1]; exact .inl rfl
    · rw [if_neg h1]
      by_cases h2 : j = b
      · rw [if_pos h2]
        by_cases h3 : (if i = a then vs b else vs i).ownBlock = none
        · exact .inl h3
        · exact .inr h3
      · rw [if_neg h2]
        by_cases h3 : i = a
        · rw [if_pos h3, if_neg (by omega)]
          exact h.apart b j hb hj (by omega)
        · rw [if_neg h3]
          by_cases h4 : j = a
          · rw [if_pos h4]; exact h.apart i b hi hb h1
          · rw [if_neg h4]; exact h.apart i j hi hj hij
  · show (Dk.setLast (Dk.setLast D.last a (D.last b)) b [] i).length ≤ _
    unfold Dk.setLast
    by_cases h1 : i = b
    · rw [if_pos h1]; exact Nat.zero_le _
    · rw [if_neg h1]
      by_cases h2 : i = a
      · rw [if_pos h2]; exact h.good.len b hb
      · rw [if_neg h2]; exact h.good.len i hi
  · exact (Mv.set h.blk a (vs b) (fun x hx => .inr (.inl (h.ffile hb hx).1))).store (h.blk.set a (vs b)) b (.slice none 0 0) (fun x hx => by cases hx)
/-- The box of the number that the closure takes: nothing that a disk does writes it. -/
theorem box_kept {w w' : World} {g : Nat} {D : Dk.Disk} (h : Int) (hD : DiskAt (w.alloc (.cells #[.int .i64 h] 3)) g D) (hm : Mv g (w.alloc (.cells #[.int .i64 h] 3)) w') : w'.cell? ⟨w.heap.size, 0, none⟩ = some (.int .i64 h) ∧ w.heap.size < w'.heap.size := by
  obtain ⟨vs, q, k, hD⟩ := hD
  have hb := Blk.made w #[.int .i64 h] 3
  have hn : ¬ Foot (w.alloc (.cells #[.int .i64 h] 3)) g w.heap.size := hD.not_foot hb (by decide) (by decide) (by decide)
  have hl : w.heap.size < (w.alloc (.cells #[.int .i64 h] 3)).heap.size := by rw [alloc_size]; omega
  have hb' : Blk w' w.heap.size 3 [.int .i64 h] := (hm.block _ hl hn).trans hb
  exact ⟨hb'.cell rfl, hb'.lt⟩
set_option maxHeartbeats 4000000 in
set_option maxRecDepth 100000 in
theorem turn_ok (g : Nat) (D1 : Dk.Disk) (f h : Nat) (hf : f < 12) (hh : h < 12) (hfh : f ≠ h) (w : World) (D : Dk.Disk) (hD : DiskAt (w.alloc (.cells #[.int .i64 (h : Int)] 3)) g D)
    (C1' : Calls Try.prog 51 #[.pointer (some ⟨g, 0, none⟩)] (w.alloc (.cells #[.int .i64 (h : Int)] 3)) fun e w' => e = .returned (.bool D1.down) ∧ DiskAt w' g D1 ∧ Mv g (w.alloc (.cells #[.int .i64 (h : Int)] 3)) w') (hd : D1.down = false) (hgl : g < w.heap.size) :
    Calls Try.prog 31 #[.pointer (some ⟨g, 0, none⟩), .int .i64 (f : Int), .int .i64 (h : Int)] w fun e w' => if Dk.pending D1.queue h = true then e = .returned (.int .i64 7) ∧ DiskAt w' g D1 ∧ Mv g w w' else e = .returned (.int .i64 0) ∧ DiskAt w' g (Dk.turned D1 f h) ∧ Mv g w w' := by
  rw [hd] at C1'
  have C1 := Lib.hid C1'
  have HB := Lib.hid (fun (w' : World) (hm : Mv g (w.alloc (.cells #[.int .i64 (h : Int)] 3)) w') => box_kept (h : Int) hD hm)
  have HM0 := Lib.hid (Mv.of_below (below_new w (.cells #[.int .i64 (h : Int)] 3)) hgl)
  have hif : Dk.isFile (f : Int) = true := by unfold Dk.isFile; simp; omega
  have hih : Dk.isFile (h : Int) = true := by unfold Dk.isFile; simp; omega
  have C2 := Lib.hid (fun w1 : World => isFile_any (f : Int) w1)
  have C3 := Lib.hid (fun w1 : World => isFile_any (h : Int) w1)
  rw [hif] at C2
  rw [hih] at C3
  have hne : ((f : Int) == (h : Int)) = false := by rw [beq_eq_false_iff_ne]; omega
  have hne2 : ¬ ((f : Int) = (h : Int)) := by omega
  obtain ⟨pd, hpd⟩ : ∃ b, Dk.pending D1.queue h = b := ⟨_, rfl⟩
  rw [hpd]
  obtain ⟨m, hm⟩ : ∃ m, D1.queue.length = m := ⟨_, rfl⟩
  have Q1 := Lib.hid (fun (w1 : World) (hv : DiskAt w1 g D1) => show ∃ qa gq qc, w1.cell? ⟨g, 12, none⟩ = some (.slice qa m qc) ∧ Hid (PR w1 qa gq D1.queue) ∧ m ≤ 1000000 from by
    obtain ⟨vs, q, k, hv⟩ := hv
    obtain ⟨qa, gq, cap, hq, hP, _, _, _⟩ := PR.of_own hv.pend
    rw [hm] at hq
    exact ⟨qa, gq, cap, by rw [← hq]; exact hv.cq, hP, by rw [← hm]; exact hv.good.q⟩)
  have C4 := Lib.hid (fun (w1 : World) (qa : Option Addr) (gq qc : Nat) (hv : DiskAt w1 g D1) (hP : PR w1 qa gq D1.queue) (hN : m ≤ 1000000) (hc : w1.cell? ⟨w.heap.size, 0, none⟩ = some (.int .i64 (h : Int))) (hb : w.heap.size < w1.heap.size) =>
    show Calls Try.prog 53 #[.slice qa m qc, .func (.func 54) #[] #[.pointer (some ⟨w.heap.size, 0, none⟩)]] w1 fun e w' => e = .returned (.bool pd) ∧ DiskAt w' g D1 ∧ Mv g w1 w' from by
      refine (contains_any D1.queue h w.heap.size gq m qc qa w1 hP hm hN hc hb).mono ?_
      rintro e w' ⟨h1, h2⟩
      obtain ⟨vs, q, k, hv⟩ := hv
      exact ⟨by rw [h1, hpd], ⟨_, _, _, hv.below h2⟩, Mv.of_below h2 hv.lt⟩)
  have C5 := Lib.hid (fun (w1 : World) (hv : DiskAt w1 g D1) => show Calls Try.prog 55 #[.pointer (some ⟨g, 0, none⟩), .int .i64 (f : Int)] w1 fun e w' => (∃ v, e = .returned v) ∧ Mv g w1 w' ∧
      ∃ pa n cap v0, w'.cell? ⟨g, h, none⟩ = some (.slice pa n cap) ∧ w'.cell? ⟨g, f, none⟩ = some v0 ∧ w'.frozen? ⟨g, h, none⟩ = false ∧ w'.frozen? ⟨g, f, none⟩ = false ∧
        Hid (DiskAt ((w'.setCell ⟨g, f, none⟩ (.slice pa n cap)).setCell ⟨g, h, none⟩ (.slice none 0 0)) g (Dk.turned D1 f h) ∧ Mv g w' ((w'.setCell ⟨g, f, none⟩ (.slice pa n cap)).setCell ⟨g, h, none⟩ (.slice none 0 0))) from by
    obtain ⟨vs, q, k, hv⟩ := hv
    refine (forget_any g vs q k D1 f w1 hv).mono ?_
    rintro e w' ⟨h1, ⟨q', h2⟩, h3⟩
    obtain ⟨pa, n, cap, hs⟩ := own_slice (h2.file h hh)
    obtain ⟨x, y⟩ := h2.turned hf hh (Dk.turned D1 f h) rfl
    rw [hs] at x y
    exact ⟨h1, h3, pa, n, cap, _, by rw [← hs]; exact h2.cfile h hh, h2.cfile f hf, h2.blk.free h, h2.blk.free f, ⟨⟨_, _, _, x⟩, y⟩⟩)
  have hfhN : f ≠ h := hfh
  have hhfN : h ≠ f := fun e => hfh e.symm
  have hg1 : g ≠ w.heap.size := by omega
  have hg2 : w.heap.size ≠ g := by omega
  clear hd hif hih hpd hm C1' hD hfh
  cases pd
  · change Calls Try.prog 31 #[.pointer (some ⟨g, 0, none⟩), .int .i64 (f : Int), .int .i64 (h : Int)] w fun e w' => e = .returned (.int .i64 0) ∧ DiskAt w' g (Dk.turned D1 f h) ∧ Mv g w w'
    go_enter Try.func31, Try.ntmps31
    go_wp2_with (first | (go_at_call 51; with_reducible refine C1.out.mono ?_; rintro _ w1 ⟨rfl, hv1, hm1⟩; obtain ⟨cb1, cl1⟩ := HB.out w1 hm1; obtain ⟨qa, gq, qc, cq1, HP1, hN1⟩ := Q1.out w1 hv1; have HV1 := Lib.hid hv1; have HM1 := Lib.hid hm1; clear hv1 hm1) | (go_at_call 46; with_reducible refine (C2.out _).mono ?_; rintro _ w2 ⟨rfl, rfl⟩) | (go_at_call 46; with_reducible refine (C3.out _).mono ?_; rintro _ w2 ⟨rfl, rfl⟩) | (go_at_call 53; with_reducible refine (C4.out _ _ _ _ HV1.out HP1.out hN1 cb1 cl1).mono ?_; rintro _ w3 ⟨rfl, hv3, hm3⟩; have HV3 := Lib.hid hv3; have HM3 := Lib.hid (HM1.out.trans hm3); clear hv3 hm3) | (go_at_call 55; with_reducible refine (C5.out _ HV3.out).mono ?_; rintro _ w4 ⟨⟨v4, rfl⟩, hm4, pa, n4, cap4, v0, e1, e2, e3, e4, HK⟩; have HM4 := Lib.hid (HM3.out.trans hm4); obtain ⟨cb4, cl4⟩ := HB.out w4 HM4.out; clear hm4))
    go_region
    all_goals
      go_wp2
      go_ret
      exact ⟨rfl, HK.out.1.drews 1, (((HM0.out.trans HM4.out).trans HK.out.2)).drews 1⟩
  · change Calls Try.prog 31 #[.pointer (some ⟨g, 0, none⟩), .int .i64 (f : Int), .int .i64 (h : Int)] w fun e w' => e = .returned (.int .i64 7) ∧ DiskAt w' g D1 ∧ Mv g w w'
    go_enter Try.func31, Try.ntmps31
    go_wp2_with (first | (go_at_call 51; with_reducible refine C1.out.mono ?_; rintro _ w1 ⟨rfl, hv1, hm1⟩; obtain ⟨cb1, cl1⟩ := HB.out w1 hm1; obtain ⟨qa, gq, qc, cq1, HP1, hN1⟩ := Q1.out w1 hv1; have HV1 := Lib.hid hv1; have HM1 := Lib.hid hm1; clear hv1 hm1) | (go_at_call 46; with_reducible refine (C2.out _).mono ?_; rintro _ w2 ⟨rfl, rfl⟩) | (go_at_call 46; with_reducible refine (C3.out _).mono ?_; rintro _ w2 ⟨rfl, rfl⟩) | (go_at_call 53; with_reducible refine (C4.out _ _ _ _ HV1.out HP1.out hN1 cb1 cl1).mono ?_; rintro _ w3 ⟨rfl, hv3, hm3⟩; have HV3 := Lib.hid hv3; have HM3 := Lib.hid (HM1.out.trans hm3); clear hv3 hm3) | (go_at_call 55; with_reducible refine (C5.out _ HV3.out).mono ?_; rintro _ w4 ⟨⟨v4, rfl⟩, hm4, pa, n4, cap4, v0, e1, e2, e3, e4, HK⟩; have HM4 := Lib.hid (HM3.out.trans hm4); obtain ⟨cb4, cl4⟩ := HB.out w4 HM4.out; clear hm4))
    go_ret
    exact ⟨rfl, HV3.out, HM0.out.trans HM3.out⟩
end Go.Proofs.Ytbpodclodflgfaa
