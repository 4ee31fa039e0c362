/-
  fails; Arm; New.
-/
import Derived.Test.YtbpodclodflgfaaKI
import Derived.Test.YtbpodclodflgfaaKJ
namespace Go.Proofs.Ytbpodclodflgfaa
open Go Go.RowKit
namespace Dk
theorem comes_is (D : Disk) (h0 : 0 ≤ D.armed) : comes D none = if D.down = true then D else if D.armed = 1 then crash (tick D) D.keep else tick D := by
  unfold comes
  by_cases hd : D.down = true
  · rw [if_pos (.inl hd), if_pos hd]
  · rw [if_neg hd]
    by_cases ha : D.armed = 0
    · rw [if_pos (.inr ha), if_neg (by omega)]
      obtain ⟨l, q, lo, d, a, ke⟩ := D
      simp only at ha
      subst ha
      rfl
    · rw [if_neg (by simp [hd, ha])]
      by_cases h1 : D.armed = 1
      · rw [if_neg (by omega), if_pos h1]
        unfold tick
        rw [if_neg ha, h1]
        rfl
      · rw [if_pos (by omega), if_neg h1]
        unfold tick
        rw [if_neg ha]
theorem crash_down_ (D : Disk) (ks : List Int) : (crash D ks).down = true := by
  unfold crash
  by_cases h : D.down = true
  · rw [if_pos h]; exact h
  · rw [if_neg h]
end Dk
theorem IR.of_own {w : World} {base : Nat} {v : Value} {ks : List Int} (h : w.ownsRow base 3 1 v ks.length (iv ks)) : ∃ a b cap, v = .slice a ks.length cap ∧ IR w a b 0 ks ∧ (0 < ks.length → v.ownBlock = some b) := by
  rcases h.2 with ⟨rfl, h0⟩ | ⟨g, cap, cur, rfl, _, hg, h1, h2, _⟩
  · exact ⟨none, 0, 0, by rw [h0], ⟨fun hp => by omega, fun j hj => by omega, fun hp => by omega, by omega⟩, fun hp => by omega⟩
  · refine ⟨_, g, cap, rfl, ⟨fun _ => rfl, fun j hj => ?_, fun _ => lt_of_block hg, by unfold maxLen at h2; omega⟩, fun _ => rfl⟩
    have h3 := h.cells (g := g) rfl j (.int .i64 (ks.getD j 0)) (by simp [iv, hj])
    have h4 : (⟨g, 0, none⟩ : Addr).add j = ⟨g, j, none⟩ := by unfold Addr.add; split <;> simp_all
    rw [h4] at h3
    rw [Nat.zero_add]
    exact h3
set_option maxHeartbeats 2000000 in
set_option maxRecDepth 100000 in
theorem fails_any (g : Nat) (D : Dk.Disk) (w : World) (h : DiskAt w g D) :
    Calls Try.prog 51 #[.pointer (some ⟨g, 0, none⟩)] w fun e w' => e = .returned (.bool (Dk.comes D none).down) ∧ DiskAt w' g (Dk.comes D none) ∧ Mv g w w' := by
  obtain ⟨vs, q, k, h⟩ := h
  rw [Dk.comes_is D h.good.armed0]
  have c13 := h.cdown
  by_cases hd : D.down = true
  · rw [if_pos hd]
    rw [hd] at c13 ⊢
    have H := Lib.hid h
    clear h
    go_enter Try.func51, Try.ntmps51
    go_wp2
    go_ret
    exact ⟨rfl, ⟨_, _, _, H.out⟩, Mv.refl _ _⟩
  · rw [if_neg hd]
    have hd' : D.down = false := by simpa using hd
    rw [hd'] at c13
    have C1 := Lib.hid (strikes_any g vs q k D w h)
    by_cases h1 : D.armed = 1
    · rw [if_pos h1]
      have hk := h.keep (by omega)
      obtain ⟨ka, kb, kcap, hkv, hIR, hown⟩ := IR.of_own hk
      have hnf : 0 < D.keep.length → ¬ Foot w g kb := fun hp => h.not_keep (by omega) (hown hp)
      have hdec : decide (D.armed = 1) = true := by simpa using h1
      rw [hdec] at C1
      have HCD := Lib.hid (Dk.crash_down_ (Dk.tick D) D.keep)
      have KEY := Lib.hid (fun (w1 : World) (h1 : DiskV w1 g vs q k (Dk.tick D)) (hm : Mv g w w1) =>
        show Hid (DiskV w1 g vs q k (Dk.tick D)) ∧ Hid (IR w1 ka kb 0 D.keep) ∧ Hid (0 < D.keep.length → ¬ Foot w1 g kb) ∧ w1.cell? ⟨g, 16, none⟩ = some (.slice ka D.keep.length kcap) from
          ⟨h1, hIR.mv hm hnf, fun hp hf => by
            rcases hm.foot kb hf with h2 | h2
            · exact hnf hp h2
            · have := hIR.lt hp; omega, by rw [← hkv]; exact h1.ckeep⟩)
      obtain ⟨n, hn⟩ : ∃ n, D.keep.length = n := ⟨_, rfl⟩
      have HN := Lib.hid hn
      rw [hn] at KEY
      clear h hk hIR hown hnf hkv hn hdec h1 hd hd'
      go_enter Try.func51, Try.ntmps51
      go_wp2_with (first | (go_at_call 35; refine C1.out.mono ?_; rintro _ w1 ⟨rfl, hv1, hm1⟩; obtain ⟨HV1, HI1, HF1, cc16⟩ := KEY.out w1 hv1 hm1; have HM1 := Lib.hid hm1; clear hv1 hm1) | (go_at_call 13; refine (crash_any g (Dk.tick D) ka kb 0 n kcap D.keep w1 ⟨_, _, _, HV1.out⟩ HI1.out HN.out (fun hp => HF1.out (by rw [← HN.out]; exact hp))).mono ?_; rintro _ w2 ⟨⟨v2, rfl⟩, ⟨vs2, q2, k2, hv2⟩, hm2⟩; have cc13 := hv2.cdown; rw [HCD.out] at cc13; have HV2 := Lib.hid hv2; have HM2 := Lib.hid hm2; clear hv2 hm2))
      go_ret
      exact ⟨ret_bool HCD.out.symm, ⟨_, _, _, HV2.out⟩, HM1.out.trans HM2.out⟩
    · rw [if_neg h1]
      have hdec : decide (D.armed = 1) = false := by simpa using h1
      rw [hdec] at C1
      have HTD := Lib.hid (show (Dk.tick D).down = false from hd')
      clear h hdec h1 hd hd'
      go_enter Try.func51, Try.ntmps51
      go_wp2_with (go_at_call 35; refine C1.out.mono ?_; rintro _ w1 ⟨rfl, hv1, hm1⟩; have cc13 := hv1.cdown; rw [HTD.out] at cc13; have HV1 := Lib.hid hv1; have HM1 := Lib.hid hm1; clear hv1 hm1)
      go_ret
      exact ⟨ret_bool HTD.out.symm, ⟨_, _, _, HV1.out⟩, HM1.out⟩
theorem DiskV.foot_ge {w : World} {g base : Nat} {vs : Nat → Value} {q k : Value} {D : Dk.Disk} (h : DiskV w g vs q k D) (hg : base ≤ g) (hv : ∀ f, f < 12 → ∀ x, (vs f).ownBlock = some x → base ≤ x) (hq : ∀ x, q.ownBlock = some x → base ≤ x) : ∀ b, Foot w g b → base ≤ b := by
  rintro b (rfl | ⟨i, v, hi, hc, hb⟩)
  · exact hg
  · by_cases h12 : i = 12
    · subst h12
      rw [h.cq] at hc
      injection hc with hc
      subst hc
      exact hq b hb
    · rw [h.cfile i (by omega)] at hc
      injection hc with hc
      subst hc
      exact hv i (by omega) b hb
theorem new_good : Dk.Good Dk.new where
  len := fun _ _ => by show (0 : Nat) ≤ _; omega
  pcs := fun p hp => by simp [Dk.new] at hp
  q := by show (0 : Nat) ≤ _; omega
  lost0 := by decide
  lost1 := by decide
  armed0 := by decide
  armed1 := by decide
theorem new_disk (w : World) (g : Nat) (hb : Blk w g 56 (dcells (fun _ => .slice none 0 0) (.slice none 0 0) (.slice none 0 0) Dk.new)) : DiskV w g (fun _ => .slice none 0 0) (.slice none 0 0) (.slice none 0 0) Dk.new :=
  ⟨hb, fun _ _ => World.ownsRow_nil _ _ _ _, World.ownsRow_nil _ _ _ _, fun ha => absurd rfl ha, fun _ _ _ _ _ => .inl rfl, new_good, rfl⟩
set_option maxHeartbeats 1000000 in
set_option maxRecDepth 100000 in
theorem new_any (w : World) : Calls Try.prog 7 #[] w fun e w' => e = .returned (.pointer (some ⟨w.heap.size, 0, none⟩)) ∧ DiskAt w' w.heap.size Dk.new ∧ Below w.heap.size w w' ∧ (∀ b, Foot w' w.heap.size b → w.heap.size ≤ b) := by
  go_enter Try.func7, Try.ntmps7
  go_wp2
  go_ret
  have h := new_disk _ _ (Blk.made w #[Value.slice none 0 0, Value.slice none 0 0, Value.slice none 0 0, Value.slice none 0 0, Value.slice none 0 0, Value.slice none 0 0, Value.slice none 0 0, Value.slice none 0 0, Value.slice none 0 0, Value.slice none 0 0, Value.slice none 0 0, Value.slice none 0 0, Value.slice none 0 0, Value.bool false, Value.int IntKind.i64 0, Value.int IntKind.i64 0, Value.slice none 0 0] 56)
  exact ⟨rfl, ⟨_, _, _, h⟩, below_new _ _, h.foot_ge (Nat.le_refl _) (fun f _ x hx => by cases hx) (fun x hx => by cases hx)⟩
theorem DiskV.arm2 {w : World} {g : Nat} {vs : Nat → Value} {q k : Value} {D : Dk.Disk} (h : DiskV w g vs q k D) (a : Int) (h0 : 0 ≤ a) (h1 : a ≤ 9223372036854775807) (k' : Value) (ks : List Int) (ho : w.ownsRow 0 3 1 k' ks.length (iv ks)) :
    DiskV ((w.setCell ⟨g, 15, none⟩ (.int .i64 a)).setCell ⟨g, 16, none⟩ k') g vs q k' { D with armed := a, keep := ks } ∧ Mv g w ((w.setCell ⟨g, 15, none⟩ (.int .i64 a)).setCell ⟨g, 16, none⟩ k') := by
  have hs : ∀ b, b ≠ g → ((w.setCell ⟨g, 15, none⟩ (.int .i64 a)).setCell ⟨g, 16, none⟩ k').heap[b]? = w.heap[b]? := fun b hb => (set_other _ g 16 b k' hb).trans (set_other w g 15 b _ hb)
  refine ⟨⟨(h.blk.set 15 (.int .i64 a)).set 16 k', fun f hf => own_same (h.file f hf) fun b hb => hs b (h.ffile hf hb).2, own_same h.pend fun b hb => hs b (h.fq hb).2, fun _ => own_same ho fun b hb => hs b (fun e => own_ne ho h.blk (by decide) (by rw [← e]; exact hb)), h.apart, ⟨h.good.len, h.good.pcs, h.good.q, h.good.lost0, h.good.lost1, h0, h1⟩, by obtain ⟨_, _, _, e⟩ := own_slice ho; rw [e]; rfl⟩, ?_⟩
  exact (Mv.set h.blk 15 (.int .i64 a) (fun x hx => by cases hx)).trans (Mv.set (h.blk.set 15 (.int .i64 a)) 16 k' (fun x _ => .inl (by omega)))
set_option maxHeartbeats 1000000 in
set_option maxRecDepth 100000 in
theorem arm_any (g : Nat) (D : Dk.Disk) (n : Int) (hn : n ≤ 9223372036854775807) (a : Option Addr) (b off kn kcap : Nat) (ks : List Int) (w : World) (h : DiskAt w g D) (hk : IR w a b off ks) (hkn : ks.length = kn) (hnil : a = none → kcap = 0) (hl : kn ≤ 100000000) :
    Calls Try.prog 27 #[.pointer (some ⟨g, 0, none⟩), .int .i64 n, .slice a kn kcap] w fun e w' => (∃ v, e = .returned v) ∧ DiskAt w' g (Dk.arm D n ks) ∧ Mv g w w' := by
  obtain ⟨vs, q, k, h⟩ := h
  have C := Lib.hid (cloneI_arg a b off kn kcap ks w hk hkn hnil hl)
  have H := Lib.hid h
  have KEY := Lib.hid (fun (w1 : World) (v' : Value) (m : Int) (hm0 : 0 ≤ m) (hm1 : m ≤ 9223372036854775807) (ho : w1.ownsRow w.heap.size 3 1 v' ks.length (iv ks)) (hb : Below w.heap.size w w1) =>
    show Hid (DiskV ((w1.setCell ⟨g, 15, none⟩ (.int .i64 m)).setCell ⟨g, 16, none⟩ v') g vs q v' { D with armed := m, keep := ks } ∧ Mv g w ((w1.setCell ⟨g, 15, none⟩ (.int .i64 m)).setCell ⟨g, 16, none⟩ v')) from by
      have h1 := h.below hb
      obtain ⟨x, y⟩ := h1.arm2 m hm0 hm1 v' ks (own_base ho)
      exact ⟨x, (Mv.of_below hb h.lt).trans y⟩)
  have FACT := Lib.hid (fun (w1 : World) (hb : Below w.heap.size w w1) => show w1.frozen? ⟨g, 15, none⟩ = false ∧ w1.frozen? ⟨g, 16, none⟩ = false ∧ w1.cell? ⟨g, 15, none⟩ = some (.int .i64 D.armed) ∧ w1.cell? ⟨g, 16, none⟩ = some k from by
      have h1 := h.below hb
      exact ⟨h1.blk.free 15, h1.blk.free 16, h1.carmed, h1.ckeep⟩)
  clear h hk hkn
  by_cases h0 : 0 ≤ n
  · have HM := Lib.hid (show Dk.arm D n ks = { D with armed := n, keep := ks } from by unfold Dk.arm; rw [Int.max_eq_left h0])
    go_enter Try.func27, Try.ntmps27
    go_wp2_with (go_at_call 50; refine C.out.mono ?_; rintro _ w1 ⟨v1, rfl, ho, hb⟩; obtain ⟨fr15, fr16, cc15, cc16⟩ := FACT.out w1 hb; obtain ⟨pa, nn, cc, hv1⟩ := own_slice ho; subst hv1; have HK := Lib.hid (fun m h0 h1 => KEY.out w1 _ m h0 h1 ho hb); clear ho hb)
    all_goals go_end0
    all_goals rw [HM.out]
    all_goals first | (exfalso; omega) | exact ⟨⟨_, rfl⟩, ⟨_, _, _, (HK.out n h0 hn).out.1⟩, (HK.out n h0 hn).out.2⟩
  · have HM := Lib.hid (show Dk.arm D n ks = { D with armed := 0, keep := ks } from by unfold Dk.arm; rw [Int.max_eq_right (by omega)])
    go_enter Try.func27, Try.ntmps27
    go_wp2_with (go_at_call 50; refine C.out.mono ?_; rintro _ w1 ⟨v1, rfl, ho, hb⟩; obtain ⟨fr15, fr16, cc15, cc16⟩ := FACT.out w1 hb; obtain ⟨pa, nn, cc, hv1⟩ := own_slice ho; subst hv1; have HK := Lib.hid (fun m h0 h1 => KEY.out w1 _ m h0 h1 ho hb); clear ho hb)
    all_goals go_end0
    all_goals rw [HM.out]
    all_goals first | (exfalso; omega) | exact ⟨⟨_, rfl⟩, ⟨_, _, _, (HK.out 0 (by omega) (by omega)).out.1⟩, (HK.out 0 (by omega) (by omega)).out.2⟩
end Go.Proofs.Ytbpodclodflgfaa
