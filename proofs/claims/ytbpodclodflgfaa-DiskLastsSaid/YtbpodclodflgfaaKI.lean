/-
  forget, settle.
-/
import Derived.Test.YtbpodclodflgfaaKH
namespace Go.Proofs.Ytbpodclodflgfaa
open Go Go.RowKit
namespace Dk
def forgot (D : Disk) (f : Nat) : Disk := { D with queue := without D.queue f }
def filing (D : Disk) (f j : Nat) : Disk := { D with last := setLast D.last f (over f (D.last f) (D.queue.take j)) }
def settled (D : Disk) (f : Nat) : Disk := { D with last := setLast D.last f (read D f), queue := without D.queue f }
theorem setLast_self (l : Nat → B) (f : Nat) : setLast l f (l f) = l := by
  funext g; unfold setLast
  by_cases h : g = f
  · rw [if_pos h, h]
  · rw [if_neg h]
theorem filing_zero (D : Disk) (f : Nat) : filing D f 0 = D := by
  have : setLast D.last f (over f (D.last f) (D.queue.take 0)) = D.last := setLast_self D.last f
  unfold filing; rw [this]
theorem over_snoc (f : Nat) (s : B) (q : List Piece) (j : Nat) (p : Piece) (hp : q[j]? = some p) : over f s (q.take (j + 1)) = if p.f = f then put (over f s (q.take j)) p.at_ p.s else over f s (q.take j) := by
  rw [List.take_add_one, hp]
  unfold over
  rw [List.foldl_append]
  rfl
theorem filing_last (D : Disk) (f j : Nat) : (filing D f j).last f = over f (D.last f) (D.queue.take j) := by
  unfold filing setLast; simp
theorem setLast_twice (l : Nat → B) (f : Nat) (a b : B) : setLast (setLast l f a) f b = setLast l f b := by
  funext g; unfold setLast
  by_cases h : g = f
  · rw [if_pos h, if_pos h]
  · rw [if_neg h, if_neg h, if_neg h]
theorem filing_put (D : Disk) (f j : Nat) (p : Piece) (hp : D.queue[j]? = some p) (hf : p.f = f) : filing D f (j + 1) = { filing D f j with last := setLast (filing D f j).last f (put ((filing D f j).last f) p.at_ p.s) } := by
  rw [filing_last]
  have : setLast D.last f (over f (D.last f) (D.queue.take (j + 1))) = setLast (filing D f j).last f (put (over f (D.last f) (D.queue.take j)) p.at_ p.s) := by
    rw [over_snoc f _ _ j p hp, if_pos hf]
    unfold filing
    rw [setLast_twice]
  unfold filing at *
  rw [this]
theorem filing_skip (D : Disk) (f j : Nat) (p : Piece) (hp : D.queue[j]? = some p) (hf : p.f ≠ f) : filing D f (j + 1) = filing D f j := by
  unfold filing
  rw [over_snoc f _ _ j p hp, if_neg hf]
theorem filing_all (D : Disk) (f : Nat) : forgot (filing D f D.queue.length) f = settled D f := by
  unfold forgot filing settled read
  rw [List.take_length]
end Dk
theorem below_new (w : World) (o : Obj) : Below w.heap.size w (w.alloc o) := Below.alloc (Below.refl _ _) (Nat.le_refl _) o
set_option maxHeartbeats 2000000 in
set_option maxRecDepth 100000 in
theorem forget_any (g : Nat) (vs : Nat → Value) (q k : Value) (D : Dk.Disk) (f : Nat) (w : World) (h : DiskV w g vs q k D) :
    Calls Try.prog 55 #[.pointer (some ⟨g, 0, none⟩), .int .i64 (f : Int)] w fun e w' => (∃ v, e = .returned v) ∧ (∃ q', DiskV w' g vs q' k (Dk.forgot D f)) ∧ Mv g w w' := by
  have c12 := h.cq
  have ha := h.alloc (.cells #[.int .i64 (f : Int)] 3)
  have hlt := h.lt
  have hne : g ≠ w.heap.size := by omega
  have C := Lib.hid (delete_any D.queue f w.heap.size q (w.alloc (.cells #[.int .i64 (f : Int)] 3)) ha.pend h.good.q ((Blk.made w #[.int .i64 (f : Int)] 3).cell rfl) (by rw [alloc_size]; omega) (fun e => by have := own_lt h.pend e; omega))
  have KEY := Lib.hid (fun (w1 : World) (v' : Value) (ho : w1.ownsRow 0 63 3 v' (Dk.without D.queue f).length (pv (Dk.without D.queue f))) (hg : (w.alloc (.cells #[.int .i64 (f : Int)] 3)).grownBy w1 q.ownBlock) (hs : v'.ownBlock = q.ownBlock) =>
    show Hid (DiskV (w1.setCell ⟨g, 12, none⟩ v') g vs v' k (Dk.forgot D f) ∧ Mv g w (w1.setCell ⟨g, 12, none⟩ v')) ∧ w1.frozen? ⟨g, 12, none⟩ = false ∧ w1.cell? ⟨g, 12, none⟩ = some q ∧ ∃ pa n c, v' = .slice pa n c from by
      obtain ⟨a, b⟩ := ha.setQ hg ho (fun x hx => .inl (by rw [← hs]; exact hx)) (fun p hp => h.good.pcs p ((List.mem_filter.1 hp).1)) (Nat.le_trans (List.length_filter_le _ _) h.good.q)
      have hgg : Blk w1 g _ _ := (hg.block g (by rw [alloc_size]; omega) (fun e => (ha.fq e.symm).2 rfl)).trans ha.blk
      exact ⟨⟨a, (Mv.of_below (below_new w _) hlt).trans b⟩, hgg.free 12, hgg.cell rfl, own_slice ho⟩)
  clear h ha
  go_enter Try.func55, Try.ntmps55
  go_wp2_with (go_at_call 63; refine C.out.mono ?_; rintro _ w1 ⟨v1, rfl, ho, hg, hs⟩; obtain ⟨HK, fr1, cc1, pa, nn, cc, rfl⟩ := KEY.out w1 v1 ho hg hs; clear ho hg hs)
  go_end0
  exact ⟨⟨_, rfl⟩, ⟨_, HK.out.1⟩, HK.out.2⟩
set_option maxHeartbeats 4000000 in
set_option maxRecDepth 100000 in
theorem settle_any (g : Nat) (vs : Nat → Value) (q k : Value) (D : Dk.Disk) (f : Nat) (hf : f < 12) (w : World) (h : DiskV w g vs q k D) :
    Calls Try.prog 52 #[.pointer (some ⟨g, 0, none⟩), .int .i64 (f : Int)] w fun e w' => (∃ v, e = .returned v) ∧ (∃ vs' q', DiskV w' g vs' q' k (Dk.settled D f)) ∧ Mv g w w' := by
  have c12 := h.cq
  have hgood := Lib.hid h.good
  have HALL := Lib.hid (Dk.filing_all D f)
  obtain ⟨qa, gq, qc, rfl, hqa, hql, hqc⟩ := h.qshape
  have H := Lib.hid h
  have HA := Lib.hid hqa
  clear h hqa
  obtain ⟨m, hm⟩ : ∃ m, D.queue.length = m := ⟨_, rfl⟩
  rw [hm] at HA H c12 hql HALL
  have HM := Lib.hid hm
  clear hm
  go_enter Try.func52, Try.ntmps52
  go_wp2
  go_loopw [5, 11] (fun x5 i wr => ∃ j : Nat, i = .int .i64 j ∧ j ≤ m ∧ Hid (∃ vs', DiskV wr g vs' (.slice qa m qc) k (Dk.filing D f j)) ∧ Hid (Mv g w wr)) (fun _ i _ => m - (intOf i).toNat)
  case atStart => exact ⟨0, rfl, Nat.zero_le _, ⟨vs, by rw [Dk.filing_zero]; exact H.out⟩, Mv.refl _ _⟩
  case round =>
    obtain ⟨j, rfl, hj, hD, hMv⟩ := hrel
    obtain ⟨vs1, h1⟩ := hD.out
    by_cases hlt : j < m
    · obtain ⟨p, hp⟩ : ∃ p, D.queue[j]? = some p := ⟨_, List.getElem?_eq_getElem (by rw [HM.out]; exact hlt)⟩
      obtain rfl := HA.out (by omega)
      obtain ⟨c0, c1, c2⟩ := h1.piece (j := j) (p := p) hp
      have hpg := hgood.out.pcs p (List.mem_of_getElem? hp)
      have HP := Lib.hid hp
      have H1 := Lib.hid h1
      have hlt1 : wr.heap.size ≠ g := by have := h1.lt; omega
      by_cases hpf : p.f = f
      · have HF := Lib.hid hpf
        have C2 := Lib.hid (fun o : Obj => dput_any g vs1 _ k (Dk.filing D f j) f p.at_ (enc p.s) (wr.alloc o) (h1.alloc o) hf (by rw [Lib.size_eq]; exact hpg.2.2))
        rw [hpf] at c0
        clear hD h1 hp hpg hpf
        obtain ⟨s, hs⟩ : ∃ s, enc p.s = s := ⟨_, rfl⟩
        have hs2 : s.data.toList = p.s := by rw [← hs]; rfl
        rw [hs] at c2 C2
        have HS2 := Lib.hid hs2
        obtain ⟨at_, hat⟩ : ∃ a, p.at_ = a := ⟨_, rfl⟩
        rw [hat] at c1 C2
        have HAT := Lib.hid hat
        clear hs hs2 hat
        go_wp2_with (go_at_call 38; refine (C2.out _).mono ?_; rintro _ w2 ⟨⟨v2, rfl⟩, ⟨vs2, h2⟩, hm2⟩; have H2 := Lib.hid h2; have HM2 := Lib.hid hm2; clear h2 hm2)
        go_roundw
        case rel => exact ⟨j + 1, by go_num, by omega, ⟨vs2, by rw [Dk.filing_put D f j p HP.out HF.out, ← HS2.out, HAT.out]; exact H2.out⟩, (hMv.out.alloc H.out.lt _).trans HM2.out⟩
        case measure => simp [intOf]; omega
      · have HF := Lib.hid hpf
        obtain ⟨F, hF⟩ : ∃ F, p.f = F := ⟨_, rfl⟩
        rw [hF] at c0 hpf
        have e1 : ((F : Int) == (f : Int)) = false := by rw [beq_eq_false_iff_ne]; omega
        have e2 : ¬ ((F : Int) = (f : Int)) := by omega
        clear hD h1 hp hpg hF hpf
        go_wp2
        go_roundw
        case rel => exact ⟨j + 1, by go_num, by omega, ⟨vs1, by rw [Dk.filing_skip D f j p HP.out HF.out]; exact H1.out.alloc _⟩, hMv.out.alloc H.out.lt _⟩
        case measure => simp [intOf]; omega
    · obtain rfl : j = m := by omega
      have C3 := Lib.hid (forget_any g vs1 _ k (Dk.filing D f j) f wr h1)
      rw [HALL.out] at C3
      clear h1 hD
      go_wp2_with (go_at_call 55; refine C3.out.mono ?_; rintro _ w2 ⟨⟨v2, rfl⟩, ⟨q2, h2⟩, hm2⟩; have H2 := Lib.hid h2; have HM2 := Lib.hid hm2; clear h2 hm2)
      go_end0
      exact ⟨⟨_, rfl⟩, ⟨_, _, H2.out⟩, hMv.out.trans HM2.out⟩
end Go.Proofs.Ytbpodclodflgfaa
