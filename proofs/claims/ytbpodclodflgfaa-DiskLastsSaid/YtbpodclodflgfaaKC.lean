/-
  Crash.
-/
import Derived.Test.YtbpodclodflgfaaKB
namespace Go.Proofs.Ytbpodclodflgfaa
open Go Go.RowKit
namespace Dk
theorem overK_snoc (f : Nat) : ∀ (q : List Piece) (ks : List Int) (s : B) (i : Nat) (p : Piece), q[i]? = some p →
    overK f s (q.take (i + 1)) ks = (match ks[i]? with | some k => if p.f = f ∧ (k = 1 ∨ k = 2) then put (overK f s (q.take i) ks) p.at_ (part p (some k)) else overK f s (q.take i) ks | none => overK f s (q.take i) ks)
  | [], _, _, _, _, h => by simp at h
  | p0 :: q, [], s, i, p, h => by
    have : ∀ q, overK f s q [] = s := fun q => by cases q <;> rfl
    rw [this, this]; rfl
  | p0 :: q, k :: ks, s, 0, p, h => by
    simp at h; subst h
    simp [overK]
  | p0 :: q, k :: ks, s, i + 1, p, h => by
    have ih := overK_snoc f q ks (if p0.f = f ∧ (k = 1 ∨ k = 2) then put s p0.at_ (part p0 (some k)) else s) i p (by simpa using h)
    simpa [overK] using ih
def during (D : Disk) (ks : List Int) (i : Nat) : Disk := { D with last := fun f => overK f (D.last f) (D.queue.take i) ks }
theorem during_zero (D : Disk) (ks : List Int) : during D ks 0 = D := by
  have : (fun f => overK f (D.last f) (D.queue.take 0) ks) = D.last := by
    funext f; rw [List.take_zero]; unfold overK; rfl
  unfold during; rw [this]
theorem part_some {s : B} (hs : s ≠ []) (k : Int) : partB s (some k) = [] ↔ ¬ (k = 1 ∨ k = 2) := by
  unfold partB
  by_cases h1 : k = 1
  · simp [h1, hs]
  · by_cases h2 : k = 2
    · subst h2
      simp [hs]
    · simp [h1, h2]
theorem during_skip (D : Disk) (ks : List Int) (i : Nat) (p : Piece) (hp : D.queue[i]? = some p) (hs : p.s ≠ []) (h : partB p.s ks[i]? = []) : during D ks (i + 1) = during D ks i := by
  unfold during
  have : (fun f => overK f (D.last f) (D.queue.take (i + 1)) ks) = (fun f => overK f (D.last f) (D.queue.take i) ks) := by
    funext f
    rw [overK_snoc f D.queue ks (D.last f) i p hp]
    cases hk : ks[i]? with
    | none => rfl
    | some k =>
      rw [hk] at h
      have := (part_some hs k).1 h
      simp only
      rw [if_neg (fun h => this h.2)]
  rw [this]
theorem during_put (D : Disk) (ks : List Int) (i : Nat) (p : Piece) (hp : D.queue[i]? = some p) (hs : p.s ≠ []) (h : partB p.s ks[i]? ≠ []) :
    during D ks (i + 1) = { during D ks i with last := setLast (during D ks i).last p.f (put ((during D ks i).last p.f) p.at_ (partB p.s ks[i]?)) } := by
  unfold during
  have : (fun f => overK f (D.last f) (D.queue.take (i + 1)) ks) = setLast (fun f => overK f (D.last f) (D.queue.take i) ks) p.f (put (overK p.f (D.last p.f) (D.queue.take i) ks) p.at_ (partB p.s ks[i]?)) := by
    funext f
    rw [overK_snoc f D.queue ks (D.last f) i p hp]
    unfold setLast
    cases hk : ks[i]? with
    | none => rw [hk] at h; exact absurd (by unfold partB; simp) h
    | some k =>
      rw [hk] at h
      have h2 : k = 1 ∨ k = 2 := Classical.byContradiction fun hc => h ((part_some hs k).2 hc)
      simp only
      by_cases hf : p.f = f
      · subst hf
        rw [if_pos ⟨rfl, h2⟩, if_pos rfl]; rfl
      · rw [if_neg (fun h => hf h.1), if_neg (fun e => hf e.symm)]
  rw [this]
def crashed (D : Disk) : Disk := { D with queue := [], down := true, armed := 0 }
theorem crash_during (D : Disk) (ks : List Int) (h : D.down = false) : crash D ks = crashed (during D ks D.queue.length) := by
  unfold crash crashed during
  rw [h, List.take_length]; rfl
theorem part_le (s : B) (k : Option Int) : (partB s k).length ≤ s.length := by
  unfold partB
  split
  · exact Nat.le_refl _
  · split <;> simp <;> omega
end Dk
theorem DiskV.crashed {w : World} {g : Nat} {vs : Nat → Value} {q k : Value} {D : Dk.Disk} (h : DiskV w g vs q k D) :
    DiskV ((((w.setCell ⟨g, 12, none⟩ (.slice none 0 0)).setCell ⟨g, 13, none⟩ (.bool true)).setCell ⟨g, 15, none⟩ (.int .i64 0)).setCell ⟨g, 16, none⟩ (.slice none 0 0)) g vs (.slice none 0 0) (.slice none 0 0) (Dk.crashed D) ∧
    Mv g w ((((w.setCell ⟨g, 12, none⟩ (.slice none 0 0)).setCell ⟨g, 13, none⟩ (.bool true)).setCell ⟨g, 15, none⟩ (.int .i64 0)).setCell ⟨g, 16, none⟩ (.slice none 0 0)) := by
  obtain ⟨a1, m1⟩ := h.setQ (q' := .slice none 0 0) (Q := []) (grown_refl w _) (World.ownsRow_nil _ _ _ _) (fun x hx => by cases hx) (fun p hp => by cases hp) (by simp)
  have a2 := a1.mark 13 (.bool true) { D with queue := [], down := true } (.slice none 0 0) k rfl rfl rfl (fun ha => a1.keep_set ha 13 _) rfl ⟨a1.good.len, a1.good.pcs, a1.good.q, a1.good.lost0, a1.good.lost1, a1.good.armed0, a1.good.armed1⟩ a1.kone
  have m2 := Mv.set a1.blk 13 (.bool true) (fun x hx => by cases hx)
  have a3 := a2.mark 15 (.int .i64 0) (Dk.crashed D) (.slice none 0 0) k rfl rfl rfl (fun ha => absurd rfl ha) rfl ⟨a1.good.len, a1.good.pcs, a1.good.q, a1.good.lost0, a1.good.lost1, (by decide : (0 : Int) ≤ 0), (by decide : (0 : Int) ≤ 9223372036854775807)⟩ a1.kone
  have m3 := Mv.set a2.blk 15 (.int .i64 0) (fun x hx => by cases hx)
  have a4 := a3.mark 16 (.slice none 0 0) (Dk.crashed D) (.slice none 0 0) (.slice none 0 0) rfl rfl rfl (fun ha => absurd rfl ha) rfl a3.good rfl
  have m4 := Mv.set a3.blk 16 (.slice none 0 0) (fun x hx => by cases hx)
  exact ⟨a4, ((m1.trans m2).trans m3).trans m4⟩
theorem DiskV.alloc {w : World} {g : Nat} {vs : Nat → Value} {q k : Value} {D : Dk.Disk} (h : DiskV w g vs q k D) (o : Obj) : DiskV (w.alloc o) g vs q k D := h.below (Below.alloc (Below.refl _ _) (Nat.le_refl _) o)
theorem Mv.alloc {w w' : World} {g : Nat} (h : Mv g w w') (hg : g < w.heap.size) (o : Obj) : Mv g w (w'.alloc o) := h.trans (Mv.of_below (Below.alloc (Below.refl _ _) (Nat.le_refl _) o) (Nat.lt_of_lt_of_le hg h.size))
set_option maxHeartbeats 1000000 in
set_option maxRecDepth 100000 in
theorem crash_down (g : Nat) (vs : Nat → Value) (q k : Value) (D : Dk.Disk) (v : Value) (w : World) (h : DiskV w g vs q k D) (hd : D.down = true) :
    Calls Try.prog 13 #[.pointer (some ⟨g, 0, none⟩), v] w fun e w' => (∃ v, e = .returned v) ∧ w = w' := by
  have c := h.cdown
  rw [hd] at c
  clear h
  go_enter Try.func13, Try.ntmps13
  go_wp2
  (try simp only [Exit.inBlock, Exit.then]); refine bodyPost_ret (results_none rfl _ _ _) rfl ?_
  exact ⟨⟨_, rfl⟩, rfl⟩
set_option maxHeartbeats 4000000 in
set_option maxRecDepth 100000 in
theorem crash_up (g : Nat) (vs : Nat → Value) (q k : Value) (D : Dk.Disk) (a : Option Addr) (b off n cap : Nat) (ks : List Int) (w : World) (h : DiskV w g vs q k D) (hd : D.down = false) (hk : IR w a b off ks) (hn : ks.length = n) (hf : 0 < ks.length → ¬ Foot w g b) :
    Calls Try.prog 13 #[.pointer (some ⟨g, 0, none⟩), .slice a n cap] w fun e w' => (∃ v, e = .returned v) ∧ (∃ vs' q' k', DiskV w' g vs' q' k' (Dk.crash D ks)) ∧ Mv g w w' := by
  have c13 := h.cdown
  have c12 := h.cq
  have hgood := Lib.hid h.good
  rw [hd] at c13
  rw [Dk.crash_during D ks hd]
  obtain ⟨qa, gq, qc, rfl, hqa, hql, hqc⟩ := h.qshape
  have H := Lib.hid h
  have HK := Lib.hid hk
  have HF := Lib.hid hf
  have HN := Lib.hid hn
  have HA := Lib.hid hqa
  clear h hk hf hn hqa
  obtain ⟨m, hm⟩ : ∃ m, D.queue.length = m := ⟨_, rfl⟩
  rw [hm] at HA H c12 hql
  have HM := Lib.hid hm
  rw [hm]
  clear hm
  go_enter Try.func13, Try.ntmps13
  go_wp2
  go_loopw [4, 5, 6, 16] (fun x4 x5 x6 i wr => ∃ j : Nat, i = .int .i64 j ∧ j ≤ m ∧ Hid (∃ vs', DiskV wr g vs' (.slice qa m qc) k (Dk.during D ks j)) ∧ Hid (Mv g w wr)) (fun _ _ _ i _ => m - (intOf i).toNat)
  case atStart => exact ⟨0, rfl, Nat.zero_le _, ⟨vs, by rw [Dk.during_zero]; exact H.out⟩, Mv.refl _ _⟩
  case round =>
    obtain ⟨j, rfl, hj, hD, hMv⟩ := hrel
    obtain ⟨vs1, h1⟩ := hD.out
    by_cases hlt : j < m
    · obtain ⟨p, hp⟩ : ∃ p, D.queue[j]? = some p := ⟨_, List.getElem?_eq_getElem (by rw [HM.out]; exact hlt)⟩
      obtain rfl := HA.out (by omega)
      obtain ⟨c0, c1, c2⟩ := h1.piece (j := j) (p := p) hp
      have hpg := hgood.out.pcs p (List.mem_of_getElem? hp)
      have hfit := hgood.out.q
      have hm0 := HM.out
      have HP := Lib.hid hp
      have H1 := Lib.hid h1
      have HI := Lib.hid (HK.out.mv hMv.out HF.out)
      have HG := Lib.hid hpg
      have h61 : (p.at_ + p.s.length ≤ 16777216) := hpg.2.2
      have hlt1 : wr.heap.size ≠ g := by have := h1.lt; omega
      have C1 := Lib.hid (fun w1 : World => fun hi : IR w1 a b off ks => survivor_any (enc p.s) j (by omega) a b off n cap ks w1 hi HN.out)
      clear hD h1 hp hpg hm0
      by_cases hX : partB p.s ks[j]? = []
      · have HX := Lib.hid hX
        have HE := Lib.hid (show enc (partB (enc p.s).data.toList ks[j]?) = ⟨#[]⟩ from by
          show enc (partB p.s ks[j]?) = _
          rw [hX]; rfl)
        clear hX
        go_wp2_with (go_at_call 37; refine (C1.out _ (HI.out.below (Below.alloc (Below.refl _ _) (Nat.le_refl _) _))).mono ?_; rintro _ w1 ⟨rfl, rfl⟩; rw [HE.out])
        go_roundw
        case rel => exact ⟨j + 1, by go_num, by omega, ⟨vs1, by rw [Dk.during_skip D ks j p HP.out HG.out.2.1 HX.out]; exact H1.out.alloc _⟩, hMv.out.alloc H.out.lt _⟩
        case measure => simp [intOf]; omega
      · have HX := Lib.hid hX
        obtain ⟨R, hR⟩ : ∃ R, enc (partB (enc p.s).data.toList ks[j]?) = R := ⟨_, rfl⟩
        have hRl : R.data.toList = partB p.s ks[j]? := by rw [← hR]; rfl
        have hRs : R.size ≤ p.s.length := by
          rw [Lib.size_eq R, hRl]; exact Dk.part_le _ _
        have hne : R.toList.isEmpty = false := by
          rw [ByteArray.toList_eq, hRl]
          cases h : partB p.s ks[j]? with
          | nil => exact absurd h hX
          | cons x l => rfl
        have hne2 : (R.toList != []) = true := by
          cases h : R.toList with
          | nil => rw [h] at hne; cases hne
          | cons x l => rfl
        have C2 := Lib.hid (fun w1 : World => fun hi : DiskV w1 g vs1 (.slice (some ⟨gq, 0, none⟩) m qc) k (Dk.during D ks j) => dput_any g vs1 _ k (Dk.during D ks j) p.f p.at_ R w1 hi HG.out.1 (by omega))
        have HRR := Lib.hid hR
        have HRL := Lib.hid hRl
        clear hX hR hRl hRs
        go_wp2_with (first | (go_at_call 37; refine (C1.out _ (HI.out.below (Below.alloc (Below.refl _ _) (Nat.le_refl _) _))).mono ?_; rintro _ w1 ⟨rfl, rfl⟩; rw [HRR.out]) | (go_at_call 38; refine (C2.out _ (H1.out.alloc _)).mono ?_; rintro _ w2 ⟨⟨v2, rfl⟩, ⟨vs2, h2⟩, hm2⟩; have H2 := Lib.hid h2; have HM2 := Lib.hid hm2; clear h2 hm2))
        go_roundw
        case rel => exact ⟨j + 1, by go_num, by omega, ⟨vs2, by rw [Dk.during_put D ks j p HP.out HG.out.2.1 HX.out, ← HRL.out]; exact H2.out⟩, (hMv.out.alloc H.out.lt _).trans HM2.out⟩
        case measure => simp [intOf]; omega
    · obtain rfl : j = m := by omega
      have f12 := h1.blk.free 12
      have f13 := h1.blk.free 13
      have f15 := h1.blk.free 15
      have f16 := h1.blk.free 16
      have e12 := h1.cq
      have e13 := h1.cdown
      have e15 := h1.carmed
      have e16 := h1.ckeep
      have HC := Lib.hid h1.crashed
      clear h1 hD
      go_wp2
      go_end0
      exact ⟨⟨_, rfl⟩, ⟨_, _, _, HC.out.1⟩, hMv.out.trans HC.out.2⟩
/-- What a disk is, in short. -/
def DiskAt (w : World) (g : Nat) (D : Dk.Disk) : Prop := ∃ vs q k, DiskV w g vs q k D
theorem crash_any (g : Nat) (D : Dk.Disk) (a : Option Addr) (b off n cap : Nat) (ks : List Int) (w : World) (h : DiskAt w g D) (hk : IR w a b off ks) (hn : ks.length = n) (hf : 0 < ks.length → ¬ Foot w g b) :
    Calls Try.prog 13 #[.pointer (some ⟨g, 0, none⟩), .slice a n cap] w fun e w' => (∃ v, e = .returned v) ∧ DiskAt w' g (Dk.crash D ks) ∧ Mv g w w' := by
  obtain ⟨vs, q, k, h⟩ := h
  by_cases hd : D.down = true
  · refine (crash_down g vs q k D _ w h hd).mono ?_
    rintro e w' ⟨he, rfl⟩
    exact ⟨he, ⟨vs, q, k, by unfold Dk.crash; rw [if_pos hd]; exact h⟩, Mv.refl _ _⟩
  · exact crash_up g vs q k D a b off n cap ks w h (by simpa using hd) hk hn hf
end Go.Proofs.Ytbpodclodflgfaa
