/-
  Turn.
  Turn, whole.
  Copy, Read.
  Copy.
  A disk of the call's own: each call on it, in one form.
  What the laws need besides: how long the queue may grow; part; the arguments.
-/
import Derived.Test.YtbelmadbjiiodaaKGf
import Derived.Test.YtbelmadbjiiodaaKGe
import Derived.Test.YtbelmadbjiiodaaKGa
namespace Go.Proofs.Ytbelmadbjiiodaa
open Go Go.RowKit
namespace Dk
def turned (D : Disk) (f h : Nat) : Disk := { D with last := setLast (setLast D.last f (D.last h)) h [], queue := without D.queue f }
theorem turnB_is (D : Disk) (hd : D.down = false) (f h : Int) : turnB D f h = if isFile f = true ∧ isFile h = true ∧ f ≠ h then (if pending D.queue h.toNat = true then (.state, D) else (.ok, turned D f.toNat h.toNat)) else (.arg, D) := by
  unfold turnB
  rw [may_is hd, may_is hd]
  by_cases h1 : isFile f = true
  · by_cases h2 : isFile h = true
    · by_cases h3 : f = h
      · rw [if_pos h1, if_pos h2, if_pos rfl, if_pos rfl, if_pos h3, if_neg (fun x => x.2.2 h3)]
      · rw [if_pos (⟨h1, h2, h3⟩ : isFile f = true ∧ isFile h = true ∧ f ≠ h), if_pos h1, if_pos h2, if_pos rfl, if_pos rfl, if_neg h3]; rfl
    · rw [if_pos h1, if_neg h2, if_pos rfl, if_neg (by decide), if_neg (fun x => h2 x.2.1)]
  · rw [if_neg h1, if_neg (by decide), if_neg (fun x => h1 x.1)]
theorem pending_idx {Q : List Piece} {f : Nat} {r : Int} (h : IsIdx Q f r) : pending Q f = decide (0 ≤ r) := by
  unfold pending
  rcases h with ⟨rfl, h⟩ | ⟨j, p, rfl, hp, hf, _⟩
  · rw [List.any_eq_false.2 (fun p hp => by simpa using h p hp)]; rfl
  · rw [List.any_eq_true.2 ⟨p, List.mem_of_getElem? hp, by simpa using hf⟩]
    simp
end Dk
set_option maxHeartbeats 1000000 in
set_option maxRecDepth 100000 in
theorem contains_any (Q : List Dk.Piece) (f cb gq n cap : Nat) (qa : Option Addr) (w : World) (hQ : PR w qa gq Q) (hn : Q.length = n) (hN : n ≤ 1000000) (hc : w.cell? ⟨cb, 0, none⟩ = some (.int .i64 (f : Int))) (hb : cb < w.heap.size) :
    Calls Try.prog 47 #[.slice qa n cap, .func (.func 48) #[] #[.pointer (some ⟨cb, 0, none⟩)]] w fun e w' => e = .returned (.bool (Dk.pending Q f)) ∧ Below w.heap.size w w' := by
  have C := Lib.hid (idx_turn Q f cb gq n cap qa w hQ hn hN hc hb)
  clear hQ hn hc
  go_enter Try.func47, Try.ntmps47
  go_wp2_with (go_at_call 57; with_reducible refine C.out.mono ?_; rintro _ w1 ⟨r, rfl, hI, hb1⟩; have HI := Lib.hid hI; have HB := Lib.hid hb1; clear hI hb1)
  go_ret
  exact ⟨ret_bool (by rw [Dk.pending_idx HI.out]), HB.out⟩
/-- The exchange of two files. -/
theorem DiskV.turned {w : World} {g : Nat} {vs : Nat → Value} {q k : Value} {D : Dk.Disk} (h : DiskV w g vs q k D) {a b : Nat} (ha : a < 12) (hb : b < 12) (D' : Dk.Disk) (hD' : D' = { D with last := Dk.setLast (Dk.setLast D.last a (D.last b)) b [] }) :
    DiskV ((w.setCell ⟨g, a, none⟩ (vs b)).setCell ⟨g, b, none⟩ (.slice none 0 0)) g (upd (upd vs a (vs b)) b (.slice none 0 0)) q k D' ∧ Mv g w ((w.setCell ⟨g, a, none⟩ (vs b)).setCell ⟨g, b, none⟩ (.slice none 0 0)) := by
  subst hD'
  have hs : ∀ x, x ≠ g → ((w.setCell ⟨g, a, none⟩ (vs b)).setCell ⟨g, b, none⟩ (.slice none 0 0)).heap[x]? = w.heap[x]? := fun x hx => (set_other _ g b x _ hx).trans (set_other w g a x _ hx)
  refine ⟨⟨?_, fun i hi => ?_, own_same h.pend fun x hx => hs x (h.fq hx).2, fun hh => own_same (h.keep hh) fun x hx => hs x (fun e => h.not_keep hh hx (.inl e)), fun i j hi hj hij => ?_, ⟨fun i hi => ?_, h.good.pcs, h.good.q, h.good.lost0, h.good.lost1, h.good.armed0, h.good.armed1⟩, h.kone⟩, ?_⟩
  · have := (h.blk.set a (vs b)).set b (.slice none 0 0)
    rw [dcells_upd vs q k D a ha (vs b) D.last, dcells_upd _ q k _ b hb _ (Dk.setLast (Dk.setLast D.last a (D.last b)) b [])] at this
    exact this
  · show World.ownsRow _ _ _ _ (upd (upd vs a (vs b)) b (.slice none 0 0) i) (Dk.setLast (Dk.setLast D.last a (D.last b)) b [] i).length (bv (Dk.setLast (Dk.setLast D.last a (D.last b)) b [] i))
    unfold upd Dk.setLast
    by_cases h1 : i = b
    · rw [if_pos h1, if_pos h1]; exact World.ownsRow_nil _ _ _ _
    · rw [if_neg h1, if_neg h1]
      by_cases h2 : i = a
      · rw [if_pos h2, if_pos h2]
        exact own_same (h.file b hb) fun x hx => hs x (h.ffile hb hx).2
      · rw [if_neg h2, if_neg h2]
        exact own_same (h.file i hi) fun x hx => hs x (h.ffile hi hx).2
  · unfold upd
    by_cases h1 : i = b
    · rw [if_pos h1]; exact .inl rfl
    · rw [if_neg h1]
      by_cases h2 : j = b
      · rw [if_pos h2]
        by_cases h3 : (if i = a then vs b else vs i).ownBlock = none
        · exact .inl h3
        · exact .inr h3
      · rw [if_neg h2]
        by_cases h3 : i = a
        · rw [if_pos h3, if_neg (by omega)]
          exact h.apart b j hb hj (by omega)
        · rw [if_neg h3]
          by_cases h4 : j = a
          · rw [if_pos h4]; exact h.apart i b hi hb h1
          · rw [if_neg h4]; exact h.apart i j hi hj hij
  · show (Dk.setLast (Dk.setLast D.last a (D.last b)) b [] i).length ≤ _
    unfold Dk.setLast
    by_cases h1 : i = b
    · rw [if_pos h1]; exact Nat.zero_le _
    · rw [if_neg h1]
      by_cases h2 : i = a
      · rw [if_pos h2]; exact h.good.len b hb
      · rw [if_neg h2]; exact h.good.len i hi
  · exact (Mv.set h.blk a (vs b) (fun x hx => .inr (.inl (h.ffile hb hx).1))).store (h.blk.set a (vs b)) b (.slice none 0 0) (fun x hx => by cases hx)
/-- The box of the number that the closure takes: nothing that a disk does writes it. -/
theorem box_kept {w w' : World} {g : Nat} {D : Dk.Disk} (h : Int) (hD : DiskAt (w.alloc (.cells #[.int .i64 h] 3)) g D) (hm : Mv g (w.alloc (.cells #[.int .i64 h] 3)) w') : w'.cell? ⟨w.heap.size, 0, none⟩ = some (.int .i64 h) ∧ w.heap.size < w'.heap.size := by
  obtain ⟨vs, q, k, hD⟩ := hD
  have hb := Blk.made w #[.int .i64 h] 3
  have hn : ¬ Foot (w.alloc (.cells #[.int .i64 h] 3)) g w.heap.size := hD.not_foot hb (by decide) (by decide) (by decide)
  have hl : w.heap.size < (w.alloc (.cells #[.int .i64 h] 3)).heap.size := by rw [alloc_size]; omega
  have hb' : Blk w' w.heap.size 3 [.int .i64 h] := (hm.block _ hl hn).trans hb
  exact ⟨hb'.cell rfl, hb'.lt⟩
set_option maxHeartbeats 4000000 in
set_option maxRecDepth 100000 in
theorem turn_ok (g : Nat) (D1 : Dk.Disk) (f h : Nat) (hf : f < 12) (hh : h < 12) (hfh : f ≠ h) (w : World) (D : Dk.Disk) (hD : DiskAt (w.alloc (.cells #[.int .i64 (h : Int)] 3)) g D)
    (C1' : Calls Try.prog 45 #[.pointer (some ⟨g, 0, none⟩)] (w.alloc (.cells #[.int .i64 (h : Int)] 3)) fun e w' => e = .returned (.bool D1.down) ∧ DiskAt w' g D1 ∧ Mv g (w.alloc (.cells #[.int .i64 (h : Int)] 3)) w') (hd : D1.down = false) (hgl : g < w.heap.size) :
    Calls Try.prog 25 #[.pointer (some ⟨g, 0, none⟩), .int .i64 (f : Int), .int .i64 (h : Int)] w fun e w' => if Dk.pending D1.queue h = true then e = .returned (.int .i64 7) ∧ DiskAt w' g D1 ∧ Mv g w w' else e = .returned (.int .i64 0) ∧ DiskAt w' g (Dk.turned D1 f h) ∧ Mv g w w' := by
  rw [hd] at C1'
  have C1 := Lib.hid C1'
  have HB := Lib.hid (fun (w' : World) (hm : Mv g (w.alloc (.cells #[.int .i64 (h : Int)] 3)) w') => box_kept (h : Int) hD hm)
  have HM0 := Lib.hid (Mv.of_below (below_new w (.cells #[.int .i64 (h : Int)] 3)) hgl)
  have hif : Dk.isFile (f : Int) = true := by unfold Dk.isFile; simp; omega
  have hih : Dk.isFile (h : Int) = true := by unfold Dk.isFile; simp; omega
  have C2 := Lib.hid (fun w1 : World => isFile_any (f : Int) w1)
  have C3 := Lib.hid (fun w1 : World => isFile_any (h : Int) w1)
  rw [hif] at C2
  rw [hih] at C3
  have hne : ((f : Int) == (h : Int)) = false := by rw [beq_eq_false_iff_ne]; omega
  have hne2 : ¬ ((f : Int) = (h : Int)) := by omega
  obtain ⟨pd, hpd⟩ : ∃ b, Dk.pending D1.queue h = b := ⟨_, rfl⟩
  rw [hpd]
  obtain ⟨m, hm⟩ : ∃ m, D1.queue.length = m := ⟨_, rfl⟩
  have Q1 := Lib.hid (fun (w1 : World) (hv : DiskAt w1 g D1) => show ∃ qa gq qc, w1.cell? ⟨g, 12, none⟩ = some (.slice qa m qc) ∧ Hid (PR w1 qa gq D1.queue) ∧ m ≤ 1000000 from by
    obtain ⟨vs, q, k, hv⟩ := hv
    obtain ⟨qa, gq, cap, hq, hP, _, _, _⟩ := PR.of_own hv.pend
    rw [hm] at hq
    exact ⟨qa, gq, cap, by rw [← hq]; exact hv.cq, hP, by rw [← hm]; exact hv.good.q⟩)
  have C4 := Lib.hid (fun (w1 : World) (qa : Option Addr) (gq qc : Nat) (hv : DiskAt w1 g D1) (hP : PR w1 qa gq D1.queue) (hN : m ≤ 1000000) (hc : w1.cell? ⟨w.heap.size, 0, none⟩ = some (.int .i64 (h : Int))) (hb : w.heap.size < w1.heap.size) =>
    show Calls Try.prog 47 #[.slice qa m qc, .func (.func 48) #[] #[.pointer (some ⟨w.heap.size, 0, none⟩)]] w1 fun e w' => e = .returned (.bool pd) ∧ DiskAt w' g D1 ∧ Mv g w1 w' from by
      refine (contains_any D1.queue h w.heap.size gq m qc qa w1 hP hm hN hc hb).mono ?_
      rintro e w' ⟨h1, h2⟩
      obtain ⟨vs, q, k, hv⟩ := hv
      exact ⟨by rw [h1, hpd], ⟨_, _, _, hv.below h2⟩, Mv.of_below h2 hv.lt⟩)
  have C5 := Lib.hid (fun (w1 : World) (hv : DiskAt w1 g D1) => show Calls Try.prog 49 #[.pointer (some ⟨g, 0, none⟩), .int .i64 (f : Int)] w1 fun e w' => (∃ v, e = .returned v) ∧ Mv g w1 w' ∧
      ∃ pa n cap v0, w'.cell? ⟨g, h, none⟩ = some (.slice pa n cap) ∧ w'.cell? ⟨g, f, none⟩ = some v0 ∧ w'.frozen? ⟨g, h, none⟩ = false ∧ w'.frozen? ⟨g, f, none⟩ = false ∧
        Hid (DiskAt ((w'.setCell ⟨g, f, none⟩ (.slice pa n cap)).setCell ⟨g, h, none⟩ (.slice none 0 0)) g (Dk.turned D1 f h) ∧ Mv g w' ((w'.setCell ⟨g, f, none⟩ (.slice pa n cap)).setCell ⟨g, h, none⟩ (.slice none 0 0))) from by
    obtain ⟨vs, q, k, hv⟩ := hv
    refine (forget_any g vs q k D1 f w1 hv).mono ?_
    rintro e w' ⟨h1, ⟨q', h2⟩, h3⟩
    obtain ⟨pa, n, cap, hs⟩ := own_slice (h2.file h hh)
    obtain ⟨x, y⟩ := h2.turned hf hh (Dk.turned D1 f h) rfl
    rw [hs] at x y
    exact ⟨h1, h3, pa, n, cap, _, by rw [← hs]; exact h2.cfile h hh, h2.cfile f hf, h2.blk.free h, h2.blk.free f, ⟨⟨_, _, _, x⟩, y⟩⟩)
  have hfhN : f ≠ h := hfh
  have hhfN : h ≠ f := fun e => hfh e.symm
  have hg1 : g ≠ w.heap.size := by omega
  have hg2 : w.heap.size ≠ g := by omega
  clear hd hif hih hpd hm C1' hD hfh
  cases pd
  · change Calls Try.prog 25 #[.pointer (some ⟨g, 0, none⟩), .int .i64 (f : Int), .int .i64 (h : Int)] w fun e w' => e = .returned (.int .i64 0) ∧ DiskAt w' g (Dk.turned D1 f h) ∧ Mv g w w'
    go_enter Try.func25, Try.ntmps25
    go_wp2_with (first | (go_at_call 45; with_reducible refine C1.out.mono ?_; rintro _ w1 ⟨rfl, hv1, hm1⟩; obtain ⟨cb1, cl1⟩ := HB.out w1 hm1; obtain ⟨qa, gq, qc, cq1, HP1, hN1⟩ := Q1.out w1 hv1; have HV1 := Lib.hid hv1; have HM1 := Lib.hid hm1; clear hv1 hm1) | (go_at_call 41; with_reducible refine (C2.out _).mono ?_; rintro _ w2 ⟨rfl, rfl⟩) | (go_at_call 41; with_reducible refine (C3.out _).mono ?_; rintro _ w2 ⟨rfl, rfl⟩) | (go_at_call 47; with_reducible refine (C4.out _ _ _ _ HV1.out HP1.out hN1 cb1 cl1).mono ?_; rintro _ w3 ⟨rfl, hv3, hm3⟩; have HV3 := Lib.hid hv3; have HM3 := Lib.hid (HM1.out.trans hm3); clear hv3 hm3) | (go_at_call 49; with_reducible refine (C5.out _ HV3.out).mono ?_; rintro _ w4 ⟨⟨v4, rfl⟩, hm4, pa, n4, cap4, v0, e1, e2, e3, e4, HK⟩; have HM4 := Lib.hid (HM3.out.trans hm4); obtain ⟨cb4, cl4⟩ := HB.out w4 HM4.out; clear hm4))
    go_region
    all_goals
      go_wp2
      go_ret
      exact ⟨rfl, HK.out.1.drews 1, (((HM0.out.trans HM4.out).trans HK.out.2)).drews 1⟩
  · change Calls Try.prog 25 #[.pointer (some ⟨g, 0, none⟩), .int .i64 (f : Int), .int .i64 (h : Int)] w fun e w' => e = .returned (.int .i64 7) ∧ DiskAt w' g D1 ∧ Mv g w w'
    go_enter Try.func25, Try.ntmps25
    go_wp2_with (first | (go_at_call 45; with_reducible refine C1.out.mono ?_; rintro _ w1 ⟨rfl, hv1, hm1⟩; obtain ⟨cb1, cl1⟩ := HB.out w1 hm1; obtain ⟨qa, gq, qc, cq1, HP1, hN1⟩ := Q1.out w1 hv1; have HV1 := Lib.hid hv1; have HM1 := Lib.hid hm1; clear hv1 hm1) | (go_at_call 41; with_reducible refine (C2.out _).mono ?_; rintro _ w2 ⟨rfl, rfl⟩) | (go_at_call 41; with_reducible refine (C3.out _).mono ?_; rintro _ w2 ⟨rfl, rfl⟩) | (go_at_call 47; with_reducible refine (C4.out _ _ _ _ HV1.out HP1.out hN1 cb1 cl1).mono ?_; rintro _ w3 ⟨rfl, hv3, hm3⟩; have HV3 := Lib.hid hv3; have HM3 := Lib.hid (HM1.out.trans hm3); clear hv3 hm3) | (go_at_call 49; with_reducible refine (C5.out _ HV3.out).mono ?_; rintro _ w4 ⟨⟨v4, rfl⟩, hm4, pa, n4, cap4, v0, e1, e2, e3, e4, HK⟩; have HM4 := Lib.hid (HM3.out.trans hm4); obtain ⟨cb4, cl4⟩ := HB.out w4 HM4.out; clear hm4))
    go_ret
    exact ⟨rfl, HV3.out, HM0.out.trans HM3.out⟩
end Go.Proofs.Ytbelmadbjiiodaa
namespace Go.Proofs.Ytbelmadbjiiodaa
open Go Go.RowKit
set_option maxHeartbeats 4000000 in
set_option maxRecDepth 100000 in
theorem turn_any (g : Nat) (D : Dk.Disk) (f h : Int) (w : World) (hD0 : DiskAt w g D) :
    Calls Try.prog 25 #[.pointer (some ⟨g, 0, none⟩), .int .i64 f, .int .i64 h] w fun e w' => e = .returned (.int .i64 (Dk.ec (Dk.turn D f h).1)) ∧ DiskAt w' g (Dk.turn D f h).2 ∧ Mv g w w' := by
  obtain ⟨hgl, hD⟩ : g < w.heap.size ∧ DiskAt (w.alloc (.cells #[.int .i64 h] 3)) g D := by
    obtain ⟨vs, q, k, hv⟩ := hD0
    exact ⟨hv.lt, ⟨_, _, _, hv.alloc _⟩⟩
  have C1' := fails_any g D _ hD
  unfold Dk.turn
  obtain ⟨D1, hD1⟩ : ∃ D1, Dk.comes D none = D1 := ⟨_, rfl⟩
  rw [hD1] at C1' ⊢
  have HB := Lib.hid (fun (w' : World) (hm : Mv g (w.alloc (.cells #[.int .i64 h] 3)) w') => box_kept h hD hm)
  have HM0 := Lib.hid (Mv.of_below (below_new w (.cells #[.int .i64 h] 3)) hgl)
  clear hD1
  by_cases hd : D1.down = true
  · have e : Dk.turnB D1 f h = (.down, D1) := by unfold Dk.turnB; rw [Dk.may_down hd, if_neg (by decide)]
    rw [e]
    rw [hd] at C1'
    have C1 := Lib.hid C1'
    clear hD hD0 e C1'
    go_enter Try.func25, Try.ntmps25
    go_wp2_with (go_at_call 45; with_reducible refine C1.out.mono ?_; rintro _ w1 ⟨rfl, hv1, hm1⟩; have HV1 := Lib.hid hv1; have HM1 := Lib.hid hm1; clear hv1 hm1)
    go_ret
    exact ⟨rfl, HV1.out, HM0.out.trans HM1.out⟩
  · have hd' : D1.down = false := by simpa using hd
    rw [Dk.turnB_is D1 hd']
    have C2 := Lib.hid (fun w1 : World => isFile_any f w1)
    have C3 := Lib.hid (fun w1 : World => isFile_any h w1)
    by_cases hf : Dk.isFile f = true
    · by_cases hh : Dk.isFile h = true
      · by_cases hfh : f = h
        · rw [if_neg (fun x => x.2.2 hfh)]
          rw [hf] at C2
          rw [hh] at C3
          rw [hd'] at C1'
          have C1 := Lib.hid C1'
          clear hD hD0 C1' hd hd' hf hh
          go_enter Try.func25, Try.ntmps25
          go_wp2_with (first | (go_at_call 45; with_reducible refine C1.out.mono ?_; rintro _ w1 ⟨rfl, hv1, hm1⟩; obtain ⟨cb1, cl1⟩ := HB.out w1 hm1; have HV1 := Lib.hid hv1; have HM1 := Lib.hid hm1; clear hv1 hm1) | (go_at_call 41; with_reducible refine (C2.out _).mono ?_; rintro _ w2 ⟨rfl, rfl⟩) | (go_at_call 41; with_reducible refine (C3.out _).mono ?_; rintro _ w2 ⟨rfl, rfl⟩))
          go_ret
          exact ⟨rfl, HV1.out, HM0.out.trans HM1.out⟩
        · rw [if_pos (⟨hf, hh, hfh⟩ : Dk.isFile f = true ∧ Dk.isFile h = true ∧ f ≠ h)]
          obtain ⟨f0, f1⟩ := (Dk.isFile_iff f).1 hf
          obtain ⟨h0, h1⟩ := (Dk.isFile_iff h).1 hh
          obtain ⟨fn, rfl⟩ : ∃ n : Nat, f = (n : Int) := ⟨f.toNat, by omega⟩
          obtain ⟨hn, rfl⟩ : ∃ n : Nat, h = (n : Int) := ⟨h.toNat, by omega⟩
          refine (turn_ok g D1 fn hn (by omega) (by omega) (by omega) w D hD C1' hd' hgl).mono ?_
          intro e w' hp
          rw [show ((fn : Int)).toNat = fn from rfl, show ((hn : Int)).toNat = hn from rfl]
          by_cases hpd : Dk.pending D1.queue hn = true
          · rw [if_pos hpd] at hp ⊢
            exact hp
          · rw [if_neg hpd] at hp ⊢
            exact hp
      · rw [if_neg (fun x => hh x.2.1)]
        have hh' : Dk.isFile h = false := by simpa using hh
        rw [hf] at C2
        rw [hh'] at C3
        rw [hd'] at C1'
        have C1 := Lib.hid C1'
        clear hD hD0 C1' hd hd' hf hh hh'
        go_enter Try.func25, Try.ntmps25
        go_wp2_with (first | (go_at_call 45; with_reducible refine C1.out.mono ?_; rintro _ w1 ⟨rfl, hv1, hm1⟩; obtain ⟨cb1, cl1⟩ := HB.out w1 hm1; have HV1 := Lib.hid hv1; have HM1 := Lib.hid hm1; clear hv1 hm1) | (go_at_call 41; with_reducible refine (C2.out _).mono ?_; rintro _ w2 ⟨rfl, rfl⟩) | (go_at_call 41; with_reducible refine (C3.out _).mono ?_; rintro _ w2 ⟨rfl, rfl⟩))
        go_ret
        exact ⟨rfl, HV1.out, HM0.out.trans HM1.out⟩
    · rw [if_neg (fun x => hf x.1)]
      have hf' : Dk.isFile f = false := by simpa using hf
      rw [hf'] at C2
      rw [hd'] at C1'
      have C1 := Lib.hid C1'
      clear hD hD0 C1' hd hd' hf hf'
      go_enter Try.func25, Try.ntmps25
      go_wp2_with (first | (go_at_call 45; with_reducible refine C1.out.mono ?_; rintro _ w1 ⟨rfl, hv1, hm1⟩; obtain ⟨cb1, cl1⟩ := HB.out w1 hm1; have HV1 := Lib.hid hv1; have HM1 := Lib.hid hm1; clear hv1 hm1) | (go_at_call 41; with_reducible refine (C2.out _).mono ?_; rintro _ w2 ⟨rfl, rfl⟩))
      go_ret
      exact ⟨rfl, HV1.out, HM0.out.trans HM1.out⟩
end Go.Proofs.Ytbelmadbjiiodaa
namespace Go.Proofs.Ytbelmadbjiiodaa
open Go Go.RowKit
set_option maxHeartbeats 1000000 in
set_option maxRecDepth 100000 in
theorem read_file (g : Nat) (vs : Nat → Value) (q k : Value) (D : Dk.Disk) (hd : D.down = false) (f : Nat) (hf : f < 12) (w : World) (h : DiskV w g vs q k D) :
    Calls Try.prog 21 #[.pointer (some ⟨g, 0, none⟩), .int .i64 (f : Int)] w fun e w' => e = .returned (.tuple #[.string (enc (Dk.read D f)), .int .i64 0]) ∧ Below w.heap.size w w' := by
  have C := Lib.hid (isFile_any (f : Int) w)
  have hif : Dk.isFile (f : Int) = true := by unfold Dk.isFile; simp; omega
  rw [hif] at C
  have c12 := h.cq
  have c13 := h.cdown
  rw [hd] at c13
  have cf := h.cfile f hf
  have hgood := Lib.hid h.good
  have CB := Lib.hid (cloneB_any (vs f) (D.last f) w (h.file f hf) (Nat.le_trans (h.good.len f hf) (by omega)))
  obtain ⟨qa, gq, qc, rfl, hqa, hql, hqc⟩ := h.qshape
  obtain ⟨V, hV⟩ : ∃ V, vs f = V := ⟨_, rfl⟩
  rw [hV] at cf CB
  have HR := Lib.hid (show (Dk.read D f) = Dk.over f (D.last f) (D.queue.take D.queue.length) from by rw [List.take_length]; rfl)
  have H := Lib.hid h
  have HA := Lib.hid hqa
  have hlt := h.lt
  clear h hqa hV hif hd
  obtain ⟨m, hm⟩ : ∃ m, D.queue.length = m := ⟨_, rfl⟩
  rw [hm] at HA H c12 hql HR
  have HM := Lib.hid hm
  have hne0 : g ≠ w.heap.size := by omega
  have KEEP := Lib.hid (fun (w1 : World) (hb : Below w.heap.size w w1) => show w1.cell? ⟨g, 12, none⟩ = some (.slice qa m qc) from (H.out.below hb).cq)
  clear hm
  go_enter Try.func21, Try.ntmps21
  go_wp2_with (first | (go_at_call 41; refine C.out.mono ?_; rintro _ w1 ⟨rfl, rfl⟩) | (go_at_call 27; refine CB.out.mono ?_; rintro _ w2 ⟨v2, rfl, ho2, hb2⟩; have cc12 := KEEP.out w2 hb2; have HO2 := Lib.hid ho2; have HB2 := Lib.hid hb2; clear ho2 hb2))
  go_loopw [6, 8, 29] (fun x6 x8 i wr => ∃ (j : Nat) (v : Value), i = .int .i64 j ∧ j ≤ m ∧ x6 = v ∧ Hid (wr.ownsRow w.heap.size 5 1 v (Dk.over f (D.last f) (D.queue.take j)).length (bv (Dk.over f (D.last f) (D.queue.take j)))) ∧ Hid (Below w.heap.size w wr)) (fun _ _ i _ => m - (intOf i).toNat)
  case atStart => exact ⟨0, v2, rfl, Nat.zero_le _, rfl, HO2.out, HB2.out⟩
  case round =>
    obtain ⟨j, v, rfl, hj, rfl, hO, hB⟩ := hrel
    by_cases hlt2 : j < m
    · obtain ⟨p, hp⟩ : ∃ p, D.queue[j]? = some p := ⟨_, List.getElem?_eq_getElem (by rw [HM.out]; exact hlt2)⟩
      obtain rfl := HA.out (by omega)
      obtain ⟨c0, c1, c2⟩ := (H.out.below hB.out).piece (j := j) (p := p) hp
      have hpg := hgood.out.pcs p (List.mem_of_getElem? hp)
      obtain ⟨s, hs⟩ : ∃ s, enc p.s = s := ⟨_, rfl⟩
      have hs2 : s.data.toList = p.s := by rw [← hs]; rfl
      rw [hs] at c2
      obtain ⟨at_, hat⟩ : ∃ a, p.at_ = a := ⟨_, rfl⟩
      rw [hat] at c1
      have hb1 : at_ + s.size ≤ 16777216 := by rw [Lib.size_eq s, hs2, ← hat]; exact hpg.2.2
      have HBA := Lib.hid (fun o : Obj => below_alloc hB.out (Nat.le_refl _) o)
      by_cases hpf : p.f = f
      · have HF := Lib.hid (show Dk.over f (D.last f) (D.queue.take (j + 1)) = Dk.put (Dk.over f (D.last f) (D.queue.take j)) at_ s.data.toList from by
          rw [Dk.over_snoc f _ _ j p hp, if_pos hpf, hs2, hat])
        rw [hpf] at c0
        have CP := Lib.hid (fun o : Obj => put_any w.heap.size _ (Dk.over f (D.last f) (D.queue.take j)) at_ s (wr.alloc o) (World.ownsRow.alloc hO.out o) (Nat.le_trans hB.out.size (by rw [alloc_size]; omega)) (Nat.le_trans (hgood.out.over f j hf) (by omega)) (by omega) (by omega))
        clear hp hpg hpf hs hs2 hat
        go_wp2_with (go_at_call 43; refine (CP.out _).mono ?_; rintro _ w3 ⟨v3, rfl, ho3, hg3, hs3⟩; have HO3 := Lib.hid ho3; have HG3 := Lib.hid hg3; clear ho3 hg3 hs3)
        go_roundw
        case rel => exact ⟨j + 1, v3, by go_num, by omega, rfl, by rw [HF.out]; exact HO3.out, (HBA.out _).trans ⟨HG3.out.os, HG3.out.tape, HG3.out.output, HG3.out.size, fun i hi => HG3.out.block i (by rw [alloc_size]; have := hB.out.size; omega) (fun e => by have := (World.ownsRow.lt hO.out i e.symm).1; omega)⟩⟩
        case measure => simp [intOf]; omega
      · have HF := Lib.hid (show Dk.over f (D.last f) (D.queue.take (j + 1)) = Dk.over f (D.last f) (D.queue.take j) from by
          rw [Dk.over_snoc f _ _ j p hp, if_neg hpf])
        obtain ⟨F, hF⟩ : ∃ F, p.f = F := ⟨_, rfl⟩
        rw [hF] at c0 hpf
        have e1 : ((F : Int) == (f : Int)) = false := by rw [beq_eq_false_iff_ne]; omega
        have e2 : ¬ ((F : Int) = (f : Int)) := by omega
        clear hp hpg hF hpf hs hs2 hat
        go_wp2
        go_roundw
        case rel => exact ⟨j + 1, _, by go_num, by omega, rfl, by rw [HF.out]; exact World.ownsRow.alloc hO.out _, HBA.out _⟩
        case measure => simp [intOf]; omega
    · obtain rfl : j = m := by omega
      have hcv := conv_own hO.out
      have HE := Lib.hid (show enc (Dk.over f (D.last f) (D.queue.take j)) = enc (Dk.read D f) from by rw [HR.out])
      obtain ⟨R, hR⟩ : ∃ R, enc (Dk.over f (D.last f) (D.queue.take j)) = R := ⟨_, rfl⟩
      rw [hR] at hcv HE
      clear hR
      go_wp2
      go_ret2
      exact ⟨by show Ending.returned (.tuple #[.string R, _]) = _; rw [HE.out]; rfl, hB.out⟩
set_option maxHeartbeats 1000000 in
set_option maxRecDepth 100000 in
theorem read_any (g : Nat) (D : Dk.Disk) (f : Int) (w : World) (h : DiskAt w g D) :
    Calls Try.prog 21 #[.pointer (some ⟨g, 0, none⟩), .int .i64 f] w fun e w' => e = .returned (.tuple #[.string (enc (Dk.readE D f).1), .int .i64 (Dk.ec (Dk.readE D f).2)]) ∧ Below w.heap.size w w' := by
  obtain ⟨vs, q, k, h⟩ := h
  have c13 := h.cdown
  by_cases hd : D.down = true
  · rw [Dk.down_read hd]
    rw [hd] at c13
    clear h
    go_enter Try.func21, Try.ntmps21
    go_wp2
    go_ret2
    exact ⟨rfl, Below.refl _ _⟩
  · have hd' : D.down = false := by simpa using hd
    by_cases hf : 0 ≤ f ∧ f ≤ 11
    · obtain ⟨fn, rfl⟩ : ∃ n : Nat, f = (n : Int) := ⟨f.toNat, by omega⟩
      have e : Dk.readE D (fn : Int) = (Dk.read D fn, .ok) := by unfold Dk.readE; rw [Dk.may_file hd' hf.1 hf.2]; rfl
      rw [e]
      exact read_file g vs q k D hd' fn (by omega) w h
    · have e : Dk.readE D f = ([], .arg) := by unfold Dk.readE; rw [Dk.may_arg hd' (by omega)]
      rw [e]
      rw [hd'] at c13
      have C := Lib.hid (isFile_any f w)
      have hif : Dk.isFile f = false := by unfold Dk.isFile; simp; omega
      rw [hif] at C
      clear h hif
      go_enter Try.func21, Try.ntmps21
      go_wp2_with (go_at_call 41; refine C.out.mono ?_; rintro _ w1 ⟨rfl, rfl⟩)
      go_ret2
      exact ⟨rfl, Below.refl _ _⟩
end Go.Proofs.Ytbelmadbjiiodaa
namespace Go.Proofs.Ytbelmadbjiiodaa
open Go Go.RowKit
theorem DiskV.dup {w w' : World} {g : Nat} {vs : Nat → Value} {q k : Value} {D : Dk.Disk} (h : DiskV w g vs q k D) (hb : Below w.heap.size w w') {c : Nat} (hc : Blk w' c 49 (dcells vs q k D)) : DiskV w' c vs q k D :=
  ⟨hc, (h.below hb).file, (h.below hb).pend, (h.below hb).keep, h.apart, h.good, h.kone⟩
theorem upd_same (vs : Nat → Value) (f : Nat) (v : Value) : upd vs f v f = v := by unfold upd; rw [if_pos rfl]
theorem upd_other (vs : Nat → Value) {f i : Nat} (v : Value) (h : i ≠ f) : upd vs f v i = vs i := by unfold upd; rw [if_neg h]
theorem below_to {B : Nat} {a w w' : World} (h : Below B a w) (hB : B ≤ a.heap.size) (k : Below w.heap.size w w') : Below B a w' := h.trans (k.mono (Nat.le_trans hB h.size))
theorem grown_of_below {w w' : World} (h : Below w.heap.size w w') (r : Option Nat) : w.grownBy w' r := ⟨h.os, h.tape, h.output, h.size, fun i hi _ => h.block i hi⟩
theorem infoD : (Try.prog.info? 49).map (·.size) = some 17 := by kernel_rfl
def dzero : List Value := [.slice none 0 0, .slice none 0 0, .slice none 0 0, .slice none 0 0, .slice none 0 0, .slice none 0 0, .slice none 0 0, .slice none 0 0, .slice none 0 0, .slice none 0 0, .slice none 0 0, .slice none 0 0, .slice none 0 0, .bool false, .int .i64 0, .int .i64 0, .slice none 0 0]
set_option maxHeartbeats 2000000 in
set_option maxRecDepth 100000 in
theorem copy_any (g : Nat) (D : Dk.Disk) (w : World) (hD : DiskAt w g D) :
    Calls Try.prog 9 #[.pointer (some ⟨g, 0, none⟩)] w fun e w' => e = .returned (.pointer (some ⟨w.heap.size, 0, none⟩)) ∧ DiskAt w' w.heap.size D ∧ Below w.heap.size w w' ∧ (∀ b, Foot w' w.heap.size b → w.heap.size ≤ b) := by
  obtain ⟨vs, q, k, h⟩ := hD
  obtain ⟨a12, b12, c12, e12⟩ := own_slice h.pend
  subst e12
  have hlt := h.lt
  have hne : g ≠ w.heap.size := by omega
  have hne' : w.heap.size ≠ g := by omega
  obtain ⟨C, hC⟩ : ∃ C, dcells vs (.slice a12 b12 c12) k D = C := ⟨_, rfl⟩
  have HC := Lib.hid hC
  have HBK := Lib.hid (show w.heap[g]? = some (.cells C.toArray 49 (0, 0)) from by rw [← hC]; exact h.blk)
  have HCL := Lib.hid (show C.length = 17 from by rw [← hC]; rfl)
  have HONE := Lib.hid (show C.toArray.all (·.oneCell') = true from by
    rw [← hC]
    obtain ⟨_, _, _, e0⟩ := own_slice (h.file 0 (by omega))
    obtain ⟨_, _, _, e1⟩ := own_slice (h.file 1 (by omega))
    obtain ⟨_, _, _, e2⟩ := own_slice (h.file 2 (by omega))
    obtain ⟨_, _, _, e3⟩ := own_slice (h.file 3 (by omega))
    obtain ⟨_, _, _, e4⟩ := own_slice (h.file 4 (by omega))
    obtain ⟨_, _, _, e5⟩ := own_slice (h.file 5 (by omega))
    obtain ⟨_, _, _, e6⟩ := own_slice (h.file 6 (by omega))
    obtain ⟨_, _, _, e7⟩ := own_slice (h.file 7 (by omega))
    obtain ⟨_, _, _, e8⟩ := own_slice (h.file 8 (by omega))
    obtain ⟨_, _, _, e9⟩ := own_slice (h.file 9 (by omega))
    obtain ⟨_, _, _, e10⟩ := own_slice (h.file 10 (by omega))
    obtain ⟨_, _, _, e11⟩ := own_slice (h.file 11 (by omega))
    have hk := h.kone
    unfold dcells
    rw [e0, e1, e2, e3, e4, e5, e6, e7, e8, e9, e10, e11]
    simp [Value.oneCell'] at hk ⊢
    exact hk)
  have H := Lib.hid h
  clear h hC
  go_enter Try.func9, Try.ntmps9
  go_wp2_with (first | (refine wpList_load_row rfl _ (.tmp 6) rfl g rfl 49 C.toArray (0, 0) _ HBK.out Try.underlying49 rfl (by rw [infoD]; simp [HCL.out]) ?_) | (refine wpList_store_row rfl _ (.tmp 3) (.tmp 7) rfl w.heap.size C.toArray rfl rfl 49 dzero.toArray (Blk.made w dzero.toArray 49) (by rw [infoD]; simp [HCL.out]) (by simp [HCL.out]; rfl) HONE.out ?_))
  go_loopw [4, 8] (fun x4 i wr => ∃ (j : Nat) (vs' : Nat → Value), i = .int .i64 j ∧ j ≤ 12 ∧ Hid (DiskV wr w.heap.size vs' (.slice a12 b12 c12) k D) ∧ Hid (Below w.heap.size w wr) ∧ Hid (∀ f, f < j → ∀ x, (vs' f).ownBlock = some x → w.heap.size ≤ x)) (fun _ i _ => 12 - (intOf i).toNat)
  case atStart =>
    have hb : Below w.heap.size w ((w.alloc (.cells dzero.toArray 49)).setRow w.heap.size C.toArray) := below_setRow (below_new w _) (Nat.le_refl _) _
    exact ⟨0, vs, rfl, by omega, H.out.dup hb (by rw [HC.out]; exact setRow_heap _ _ _ _ _ _ (Blk.made w dzero.toArray 49)), hb, fun f hf => by omega⟩
  case round =>
    obtain ⟨j, vs1, rfl, hj, hD, hB, hF⟩ := hrel
    by_cases hlt2 : j < 12
    · have h1 := hD.out
      have cj := h1.cfile j hlt2
      have fj := h1.blk.free j
      obtain ⟨V, hV⟩ : ∃ V, vs1 j = V := ⟨_, rfl⟩
      have CL := Lib.hid (cloneB_sf (vs1 j) (D.last j) wr (h1.file j hlt2) (Nat.le_trans (h1.good.len j hlt2) (by omega)))
      have KEY := Lib.hid (fun (w2 : World) (v2 : Value) (ho : w2.ownsRow wr.heap.size 5 1 v2 (D.last j).length (bv (D.last j))) (hb : Below wr.heap.size wr w2) (hs : SF wr (vs1 j) v2) =>
        show Hid (DiskV (w2.setCell ⟨w.heap.size, j, none⟩ v2) w.heap.size (upd vs1 j v2) (.slice a12 b12 c12) k D) ∧ Hid (Below w.heap.size w (w2.setCell ⟨w.heap.size, j, none⟩ v2)) ∧ Hid (∀ f, f < j + 1 → ∀ x, (upd vs1 j v2 f).ownBlock = some x → w.heap.size ≤ x) ∧ w2.cell? ⟨w.heap.size, j, none⟩ = some V ∧ w2.frozen? ⟨w.heap.size, j, none⟩ = false ∧ ∃ pa n c, v2 = .slice pa n c from by
          obtain ⟨x, y⟩ := h1.setFile hlt2 (grown_of_below hb _) (own_base ho) hs (h1.good.len j hlt2)
          rw [Dk.setLast_self] at x
          have h2 := h1.below hb
          refine ⟨x, (below_to hB.out (Nat.le_refl _) hb).setCell (p := ⟨w.heap.size, j, none⟩) (Nat.le_refl _) v2, fun f hf z hz => ?_, by rw [← hV]; exact h2.cfile j hlt2, h2.blk.free j, own_slice ho⟩
          by_cases hfj : f = j
          · rw [hfj, upd_same] at hz
            exact Nat.le_trans hB.out.size (World.ownsRow.lt ho z hz).1
          · rw [upd_other vs1 v2 hfj] at hz
            exact hF.out f (by omega) z hz)
      rw [hV] at cj CL KEY
      clear h1 hV
      go_wp2_with (go_at_call 27; refine CL.out.mono ?_; rintro _ w2 ⟨v2, rfl, ho, hb, hs⟩; obtain ⟨HD2, HB2, HF2, cc, ff, pa, nn, cp, hv2⟩ := KEY.out w2 v2 ho hb hs; subst hv2; clear ho hb hs)
      go_roundw
      case rel => exact ⟨j + 1, _, by go_num, by omega, HD2, HB2, HF2⟩
      case measure => simp [intOf]; omega
    · obtain rfl : j = 12 := by omega
      have h1 := hD.out
      have cq12 := h1.cq
      have f12 := h1.blk.free 12
      have CL := Lib.hid (cloneP_sf (.slice a12 b12 c12) D.queue wr h1.pend (Nat.le_trans h1.good.q (by omega)))
      have KEY := Lib.hid (fun (w2 : World) (v2 : Value) (ho : w2.ownsRow wr.heap.size 57 3 v2 D.queue.length (pv D.queue)) (hb : Below wr.heap.size wr w2) =>
        show Hid (DiskAt (w2.setCell ⟨w.heap.size, 12, none⟩ v2) w.heap.size D ∧ Below w.heap.size w (w2.setCell ⟨w.heap.size, 12, none⟩ v2) ∧ ∀ b, Foot (w2.setCell ⟨w.heap.size, 12, none⟩ v2) w.heap.size b → w.heap.size ≤ b) ∧ w2.cell? ⟨w.heap.size, 12, none⟩ = some (.slice a12 b12 c12) ∧ w2.frozen? ⟨w.heap.size, 12, none⟩ = false ∧ ∃ pa n c, v2 = .slice pa n c from by
          obtain ⟨x, y⟩ := h1.setQ (grown_of_below hb _) (own_base ho) (fun z hz => .inr (World.ownsRow.lt ho z hz).1) h1.good.pcs h1.good.q
          have h2 := h1.below hb
          refine ⟨⟨⟨_, _, _, x⟩, (below_to hB.out (Nat.le_refl _) hb).setCell (p := ⟨w.heap.size, 12, none⟩) (Nat.le_refl _) v2, x.foot_ge (Nat.le_refl _) (fun f hf z hz => hF.out f hf z hz) (fun z hz => Nat.le_trans hB.out.size (World.ownsRow.lt ho z hz).1)⟩, h2.cq, h2.blk.free 12, own_slice ho⟩)
      clear h1
      go_wp2_with (go_at_call 28; refine CL.out.mono ?_; rintro _ w2 ⟨v2, rfl, ho, hb, hs⟩; obtain ⟨HD2, cc, ff, pa, nn, cp, hv2⟩ := KEY.out w2 v2 ho hb; subst hv2; clear ho hb hs)
      go_ret
      exact ⟨rfl, HD2.out.1, HD2.out.2.1, HD2.out.2.2⟩
end Go.Proofs.Ytbelmadbjiiodaa
namespace Go.Proofs.Ytbelmadbjiiodaa
open Go Go.RowKit
/-- The world is as w0 was, but for new blocks; the disk g is new too. -/
structure Mine (w0 w : World) (g : Nat) (D : Dk.Disk) : Prop where
  at_ : DiskAt w g D
  below : Below w0.heap.size w0 w
  foot : ∀ b, Foot w g b → w0.heap.size ≤ b
theorem below_mv {w0 w w' : World} {g : Nat} (h : Below w0.heap.size w0 w) (hf : ∀ b, Foot w g b → w0.heap.size ≤ b) (m : Mv g w w') : Below w0.heap.size w0 w' :=
  h.trans ⟨m.os, m.tape, m.output, m.size, fun i hi => m.block i (Nat.lt_of_lt_of_le hi h.size) (fun hx => by have := hf i hx; omega)⟩
theorem Mine.step {w0 w w' : World} {g : Nat} {D D' : Dk.Disk} (h : Mine w0 w g D) (d : DiskAt w' g D') (m : Mv g w w') : Mine w0 w' g D' :=
  ⟨d, below_mv h.below h.foot m, fun b hb => by
    rcases m.foot b hb with h1 | h1
    · exact h.foot b h1
    · exact Nat.le_trans h.below.size h1⟩
theorem DiskAt.below {w w' : World} {g : Nat} {D : Dk.Disk} (h : DiskAt w g D) (hb : Below w.heap.size w w') : DiskAt w' g D ∧ Mv g w w' := by
  obtain ⟨vs, q, k, h⟩ := h
  exact ⟨⟨vs, q, k, h.below hb⟩, Mv.of_below hb h.lt⟩
theorem Mine.quiet {w0 w w' : World} {g : Nat} {D : Dk.Disk} (h : Mine w0 w g D) (hb : Below w.heap.size w w') : Mine w0 w' g D := h.step (h.at_.below hb).1 (h.at_.below hb).2
theorem Mine.alloc {w0 w : World} {g : Nat} {D : Dk.Disk} (h : Mine w0 w g D) (o : Obj) : Mine w0 (w.alloc o) g D := h.quiet (below_new w o)
section
variable {w0 w : World} {g : Nat} {D : Dk.Disk}
theorem mine_new (w : World) : Calls Try.prog 5 #[] w fun e w' => e = .returned (.pointer (some ⟨w.heap.size, 0, none⟩)) ∧ Mine w w' w.heap.size Dk.new :=
  (new_any w).mono fun _ _ ⟨h1, h2, h3, h4⟩ => ⟨h1, h2, h3, h4⟩
theorem mine_write (h : Mine w0 w g D) (f at_ : Int) (h0 : -9223372036854775808 ≤ at_) (h1 : at_ ≤ 9223372036854775807) (s : ByteArray) (hs : s.size ≤ 1000000) (hq : D.queue.length + s.size ≤ 1000000) :
    Calls Try.prog 10 #[.pointer (some ⟨g, 0, none⟩), .int .i64 f, .int .i64 at_, .string s] w fun e w' => e = .returned (.int .i64 (Dk.ec (Dk.write D f at_ s.data.toList).1)) ∧ Mine w0 w' g (Dk.write D f at_ s.data.toList).2 :=
  (write_any g D f at_ h0 h1 s hs hq w h.at_).mono fun _ _ ⟨a, b, c⟩ => ⟨a, h.step b c⟩
theorem mine_read (h : Mine w0 w g D) (f : Int) :
    Calls Try.prog 21 #[.pointer (some ⟨g, 0, none⟩), .int .i64 f] w fun e w' => e = .returned (.tuple #[.string (enc (Dk.readE D f).1), .int .i64 (Dk.ec (Dk.readE D f).2)]) ∧ Mine w0 w' g D :=
  (read_any g D f w h.at_).mono fun _ _ ⟨a, b⟩ => ⟨a, h.quiet b⟩
theorem mine_size (h : Mine w0 w g D) (f : Int) :
    Calls Try.prog 17 #[.pointer (some ⟨g, 0, none⟩), .int .i64 f] w fun e w' => e = .returned (.int .i64 (Dk.size D f : Int)) ∧ Mine w0 w' g D :=
  (size_any g D f w h.at_).mono fun _ _ ⟨a, b⟩ => ⟨a, h.quiet b⟩
theorem mine_flush (h : Mine w0 w g D) (f : Int) :
    Calls Try.prog 23 #[.pointer (some ⟨g, 0, none⟩), .int .i64 f] w fun e w' => e = .returned (.int .i64 (Dk.ec (Dk.flush D f).1)) ∧ Mine w0 w' g (Dk.flush D f).2 :=
  (flush_any g D f w h.at_).mono fun _ _ ⟨a, b, c⟩ => ⟨a, h.step b c⟩
theorem mine_cut (h : Mine w0 w g D) (f n : Int) :
    Calls Try.prog 26 #[.pointer (some ⟨g, 0, none⟩), .int .i64 f, .int .i64 n] w fun e w' => e = .returned (.int .i64 (Dk.ec (Dk.cut D f n).1)) ∧ Mine w0 w' g (Dk.cut D f n).2 :=
  (cut_any g D f n w h.at_).mono fun _ _ ⟨a, b, c⟩ => ⟨a, h.step b c⟩
theorem mine_turn (h : Mine w0 w g D) (f n : Int) :
    Calls Try.prog 25 #[.pointer (some ⟨g, 0, none⟩), .int .i64 f, .int .i64 n] w fun e w' => e = .returned (.int .i64 (Dk.ec (Dk.turn D f n).1)) ∧ Mine w0 w' g (Dk.turn D f n).2 :=
  (turn_any g D f n w h.at_).mono fun _ _ ⟨a, b, c⟩ => ⟨a, h.step b c⟩
theorem mine_start (h : Mine w0 w g D) :
    Calls Try.prog 19 #[.pointer (some ⟨g, 0, none⟩)] w fun e w' => (∃ v, e = .returned v) ∧ Mine w0 w' g (Dk.start D) := by
  obtain ⟨vs, q, k, hv⟩ := h.at_
  exact (start_any g vs q k D w hv).mono fun _ _ ⟨a, b, c⟩ => ⟨a, h.step ⟨_, _, _, b⟩ c⟩
theorem mine_lose (h : Mine w0 w g D) (n : Int) (hn : n ≤ 9223372036854775807) :
    Calls Try.prog 24 #[.pointer (some ⟨g, 0, none⟩), .int .i64 n] w fun e w' => (∃ v, e = .returned v) ∧ Mine w0 w' g (Dk.lose D n) := by
  obtain ⟨vs, q, k, hv⟩ := h.at_
  exact (lose_any g vs q k D n w hv hn).mono fun _ _ ⟨a, b, c⟩ => ⟨a, h.step ⟨_, _, _, b⟩ c⟩
theorem mine_down (h : Mine w0 w g D) :
    Calls Try.prog 15 #[.pointer (some ⟨g, 0, none⟩)] w fun e w' => e = .returned (.bool D.down) ∧ w = w' := by
  obtain ⟨vs, q, k, hv⟩ := h.at_
  exact down_any g vs q k D w hv
theorem ir_empty (w : World) (a : Option Addr) : IR w a 0 0 [] where
  addr := fun h => absurd h (Nat.lt_irrefl _)
  cell := fun _ hj => absurd hj (Nat.not_lt_zero _)
  lt := fun h => absurd h (Nat.lt_irrefl _)
  fit := Nat.zero_le _
theorem mine_crash_nil (h : Mine w0 w g D) :
    Calls Try.prog 11 #[.pointer (some ⟨g, 0, none⟩), .slice none 0 0] w fun e w' => (∃ v, e = .returned v) ∧ Mine w0 w' g (Dk.crash D []) :=
  (crash_any g D none 0 0 0 0 [] w h.at_ (ir_empty w none) rfl (fun hp => by cases hp)).mono fun _ _ ⟨a, b, c⟩ => ⟨a, h.step b c⟩
theorem mine_arm_nil (h : Mine w0 w g D) (n : Int) (hn : n ≤ 9223372036854775807) :
    Calls Try.prog 33 #[.pointer (some ⟨g, 0, none⟩), .int .i64 n, .slice none 0 0] w fun e w' => (∃ v, e = .returned v) ∧ Mine w0 w' g (Dk.arm D n []) :=
  (arm_any g D n hn none 0 0 0 0 [] w h.at_ (ir_empty w none) rfl (fun _ => rfl) (by omega)).mono fun _ _ ⟨a, b, c⟩ => ⟨a, h.step b c⟩
theorem mine_crash_arg (h : Mine w0 w g D) (a : Option Addr) (b off n cap : Nat) (ks : List Int) (hk : IR w0 a b off ks) (hn : ks.length = n) :
    Calls Try.prog 11 #[.pointer (some ⟨g, 0, none⟩), .slice a n cap] w fun e w' => (∃ v, e = .returned v) ∧ Mine w0 w' g (Dk.crash D ks) :=
  (crash_any g D a b off n cap ks w h.at_ (hk.below h.below) hn (fun hp hf => by have := h.foot b hf; have := hk.lt hp; omega)).mono fun _ _ ⟨x, y, z⟩ => ⟨x, h.step y z⟩
theorem mine_arm_arg (h : Mine w0 w g D) (m : Int) (hm : m ≤ 9223372036854775807) (a : Option Addr) (b off n cap : Nat) (ks : List Int) (hk : IR w0 a b off ks) (hn : ks.length = n) (hnil : a = none → cap = 0) (hl : n ≤ 100000000) :
    Calls Try.prog 33 #[.pointer (some ⟨g, 0, none⟩), .int .i64 m, .slice a n cap] w fun e w' => (∃ v, e = .returned v) ∧ Mine w0 w' g (Dk.arm D m ks) :=
  (arm_any g D m hm a b off n cap ks w h.at_ (hk.below h.below) hn hnil hl).mono fun _ _ ⟨x, y, z⟩ => ⟨x, h.step y z⟩
theorem ir_made (w : World) (ks : List Int) (hl : ks.length ≤ 1000) : IR (w.alloc (.cells (iv ks).toArray 3)) (some ⟨w.heap.size, 0, none⟩) w.heap.size 0 ks :=
  ⟨fun _ => rfl, fun j hj => by
    rw [Nat.zero_add]
    exact (Blk.made w (iv ks).toArray 3).cell (by simp [iv, hj]), fun _ => by rw [alloc_size]; omega, by omega⟩
/-- Crash of a list that is written out. -/
theorem mine_crash_lit (h : Mine w0 w g D) (ks : List Int) (hl : ks.length ≤ 1000) :
    Calls Try.prog 11 #[.pointer (some ⟨g, 0, none⟩), .slice (some ⟨w.heap.size, 0, none⟩) ks.length ks.length] (w.alloc (.cells (iv ks).toArray 3)) fun e w' => (∃ v, e = .returned v) ∧ Mine w0 w' g (Dk.crash D ks) := by
  have h2 := h.alloc (.cells (iv ks).toArray 3)
  obtain ⟨vs, q, k, hv⟩ := h.at_
  have hb : (w.alloc (.cells (iv ks).toArray 3)).heap[w.heap.size]? = some (.cells (iv ks).toArray 3 (0, 0)) := heap_alloc_new w _
  have hn : ¬ Foot (w.alloc (.cells (iv ks).toArray 3)) g w.heap.size := (hv.alloc _).not_foot hb (by decide) (by decide) (by decide)
  have C := crash_any g D (some ⟨w.heap.size, 0, none⟩) w.heap.size 0 ks.length ks.length ks (w.alloc (.cells (iv ks).toArray 3)) h2.at_ (ir_made w ks hl) rfl (fun _ => hn)
  exact C.mono fun _ _ ⟨x, y, z⟩ => ⟨x, h2.step y z⟩
end
end Go.Proofs.Ytbelmadbjiiodaa
namespace Go.Proofs.Ytbelmadbjiiodaa
open Go Go.RowKit
namespace Dk
theorem add_queue (D : Disk) (f at_ : Nat) (s : B) : (add D f at_ s).queue.length ≤ D.queue.length + s.length := by
  unfold add
  show (D.queue ++ pieces f s.length at_ s).length ≤ _
  rw [List.length_append]
  have := pieces_len f s.length at_ s
  omega
theorem crash_queue (D : Disk) (ks : List Int) : (crash D ks).queue.length ≤ D.queue.length := by
  unfold crash
  by_cases h : D.down = true
  · rw [if_pos h]; exact Nat.le_refl _
  · rw [if_neg h]; exact Nat.zero_le _
theorem tick_queue (D : Disk) : (tick D).queue = D.queue := rfl
theorem writeB_queue (D : Disk) (f at_ : Int) (s : B) : (writeB D f at_ s).2.queue.length ≤ D.queue.length + s.length := by
  unfold writeB
  split
  · split
    · simp
    · split
      · exact add_queue _ _ _ _
      · simp
  · simp
theorem write_queue (D : Disk) (h0 : 0 ≤ D.armed) (f at_ : Int) (s : B) : (write D f at_ s).2.queue.length ≤ D.queue.length + s.length := by
  rw [write_is D h0]
  split
  · simp
  · split
    · refine Nat.le_trans (crash_queue _ _) ?_
      exact writeB_queue (tick D) f at_ s
    · exact writeB_queue (tick D) f at_ s
theorem comes_queue (D : Disk) (h0 : 0 ≤ D.armed) : (comes D none).queue.length ≤ D.queue.length := by
  rw [comes_is D h0]
  split
  · exact Nat.le_refl _
  · split
    · exact crash_queue (tick D) _
    · exact Nat.le_refl _
theorem without_len (q : List Piece) (f : Nat) : (without q f).length ≤ q.length := List.length_filter_le _ _
theorem flush_queue (D : Disk) (h0 : 0 ≤ D.armed) (f : Int) : (flush D f).2.queue.length ≤ D.queue.length := by
  refine Nat.le_trans ?_ (comes_queue D h0)
  unfold flush flushB
  split
  · split
    · exact Nat.le_refl _
    · exact without_len _ _
  · exact Nat.le_refl _
theorem cut_queue (D : Disk) (h0 : 0 ≤ D.armed) (f n : Int) : (cut D f n).2.queue.length ≤ D.queue.length := by
  refine Nat.le_trans ?_ (comes_queue D h0)
  unfold cut cutB
  split
  · split
    · exact Nat.le_refl _
    · exact without_len _ _
  · exact Nat.le_refl _
theorem turn_queue (D : Disk) (h0 : 0 ≤ D.armed) (f g : Int) : (turn D f g).2.queue.length ≤ D.queue.length := by
  refine Nat.le_trans ?_ (comes_queue D h0)
  unfold turn turnB
  split
  · split
    · split
      · exact Nat.le_refl _
      · split
        · exact Nat.le_refl _
        · exact without_len _ _
    · exact Nat.le_refl _
  · exact Nat.le_refl _
end Dk
theorem Mine.armed0 {w0 w : World} {g : Nat} {D : Dk.Disk} (h : Mine w0 w g D) : 0 ≤ D.armed := by
  obtain ⟨vs, q, k, hv⟩ := h.at_
  exact hv.good.armed0
end Go.Proofs.Ytbelmadbjiiodaa
