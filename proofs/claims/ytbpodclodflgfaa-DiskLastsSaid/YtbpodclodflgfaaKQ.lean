/-
  Cut.
-/
import Derived.Test.YtbpodclodflgfaaKO
namespace Go.Proofs.Ytbpodclodflgfaa
open Go Go.RowKit
theorem own_cut {w : World} {base : Nat} {pa : Option Addr} {L cap n : Nat} {l : List UInt8} (h : w.ownsRow base 5 1 (.slice pa L cap) l.length (bv l)) (hn : n ≤ l.length) : w.ownsRow base 5 1 (.slice pa n cap) (l.take n).length (bv (l.take n)) := by
  have hl : (l.take n).length = n := by rw [List.length_take]; omega
  refine ⟨by rw [bv_length]; omega, ?_⟩
  rcases h.2 with ⟨h1, h2⟩ | ⟨g, c, cur, h1, hb, hg, hnc, hcm, hcs, ht⟩
  · injection h1 with h3 _ h4
    subst h3
    subst h4
    have : n = 0 := by omega
    subst this
    exact .inl ⟨rfl, by rw [hl]⟩
  · injection h1 with h3 _ h4
    subst h3
    subst h4
    refine .inr ⟨g, cap, cur, by rw [hl], hb, hg, by omega, hcm, hcs, ?_⟩
    have e : bv (l.take n) = (bv l).take n := by unfold bv; rw [List.map_take]
    rw [hl, e, ← ht, List.take_take]
    congr 1
    omega
theorem DiskAt.drews {w : World} {g : Nat} {D : Dk.Disk} (h : DiskAt w g D) (n : Nat) : DiskAt (w.drewN n) g D := by
  obtain ⟨vs, q, k, h⟩ := h
  exact ⟨vs, q, k, h.drews n⟩
theorem own_shape {w : World} {base : Nat} {v : Value} {l : List UInt8} (h : w.ownsRow base 5 1 v l.length (bv l)) : ∃ pa cap, v = .slice pa l.length cap ∧ l.length ≤ cap ∧ cap ≤ 9223372036854775807 := by
  rcases h.2 with ⟨rfl, h0⟩ | ⟨g, cap, cur, rfl, hb, hg, h1, h2, _⟩
  · exact ⟨none, 0, by rw [h0], by omega, by omega⟩
  · exact ⟨_, cap, rfl, h1, by unfold maxLen at h2; omega⟩
set_option maxHeartbeats 4000000 in
set_option maxRecDepth 100000 in
theorem cut_ok (g : Nat) (D1 : Dk.Disk) (f n : Nat) (hf : f < 12) (w : World) (C1' : Calls Try.prog 51 #[.pointer (some ⟨g, 0, none⟩)] w fun e w' => e = .returned (.bool D1.down) ∧ DiskAt w' g D1 ∧ Mv g w w') (hd : D1.down = false) (hn : n ≤ (Dk.read D1 f).length) :
    Calls Try.prog 32 #[.pointer (some ⟨g, 0, none⟩), .int .i64 (f : Int), .int .i64 (n : Int)] w fun e w' => e = .returned (.int .i64 0) ∧ DiskAt w' g (Dk.cutTo D1 f n) ∧ Mv g w w' := by
  rw [hd] at C1'
  have C1 := Lib.hid C1'
  have hif : Dk.isFile (f : Int) = true := by unfold Dk.isFile; simp; omega
  have C2 := Lib.hid (fun w1 : World => isFile_any (f : Int) w1)
  rw [hif] at C2
  have hsz : Dk.size D1 (f : Int) = (Dk.read D1 f).length := by unfold Dk.size; rw [if_pos (by omega)]; rfl
  obtain ⟨L, hL⟩ : ∃ L, (Dk.read D1 f).length = L := ⟨_, rfl⟩
  have C3 := Lib.hid (fun (w1 : World) (hv : DiskAt w1 g D1) => show Calls Try.prog 19 #[.pointer (some ⟨g, 0, none⟩), .int .i64 (f : Int)] w1 fun e w' => e = .returned (.int .i64 (L : Int)) ∧ DiskAt w' g D1 ∧ Mv g w1 w' from by
    refine (size_any g D1 (f : Int) w1 hv).mono ?_
    rintro e w' ⟨h1, h2⟩
    obtain ⟨vs, q, k, hv⟩ := hv
    rw [hsz, hL] at h1
    exact ⟨h1, ⟨_, _, _, hv.below h2⟩, Mv.of_below h2 hv.lt⟩)
  have hlen : ∀ (w1 : World), DiskAt w1 g D1 → L ≤ 16777216 := fun w1 ⟨vs, q, k, hv⟩ => by rw [← hL]; exact hv.good.read f hf
  have C4 := Lib.hid (fun (w1 : World) (hv : DiskAt w1 g D1) => show Calls Try.prog 52 #[.pointer (some ⟨g, 0, none⟩), .int .i64 (f : Int)] w1 fun e w' => (∃ v, e = .returned v) ∧ Mv g w1 w' ∧ ∃ pa cap, w'.cell? ⟨g, f, none⟩ = some (.slice pa L cap) ∧ w'.frozen? ⟨g, f, none⟩ = false ∧ L ≤ cap ∧ cap ≤ 9223372036854775807 ∧
      Hid (DiskAt (w'.setCell ⟨g, f, none⟩ (.slice pa n cap)) g (Dk.cutTo D1 f n) ∧ Mv g w' (w'.setCell ⟨g, f, none⟩ (.slice pa n cap))) from by
    obtain ⟨vs, q, k, hv⟩ := hv
    refine (settle_any g vs q k D1 f hf w1 hv).mono ?_
    rintro e w' ⟨h1, ⟨vs', q', h2⟩, h3⟩
    refine ⟨h1, h3, ?_⟩
    have ho := h2.file f hf
    rw [Dk.settled_last] at ho
    obtain ⟨pa, cap, hv', hc1, hc2⟩ := own_shape ho
    rw [hL] at hc1 hv'
    refine ⟨pa, cap, by rw [← hv']; exact h2.cfile f hf, h2.blk.free f, hc1, hc2, ?_⟩
    rw [hv'] at ho
    have hs : SF w' (vs' f) (.slice pa n cap) := .inl (by rw [hv']; cases pa <;> rfl)
    have hcut := own_cut ho hn
    obtain ⟨x, y⟩ := h2.setFile (w' := w') hf (grown_refl _ _) hcut hs (by rw [List.length_take]; have := hlen w1 ⟨_, _, _, hv⟩; omega)
    exact ⟨⟨_, _, _, x⟩, y⟩)
  have HLN := Lib.hid hlen
  rw [hL] at hn
  have hnL : ¬ (L : Int) < (n : Int) := by omega
  have hn0 : ¬ ((n : Int) < 0) := by omega
  clear hd hif hsz hL hlen C1'
  go_enter Try.func32, Try.ntmps32
  go_wp2_with (first | (go_at_call 51; refine C1.out.mono ?_; rintro _ w1 ⟨rfl, hv1, hm1⟩; have hL2 := HLN.out w1 hv1; have HV1 := Lib.hid hv1; have HM1 := Lib.hid hm1; clear hv1 hm1) | (go_at_call 46; refine (C2.out _).mono ?_; rintro _ w2 ⟨rfl, rfl⟩) | (go_at_call 19; refine (C3.out _ HV1.out).mono ?_; rintro _ w3 ⟨rfl, hv3, hm3⟩; have HV3 := Lib.hid hv3; have HM3 := Lib.hid hm3; clear hv3 hm3) | (go_at_call 52; refine (C4.out _ HV3.out).mono ?_; rintro _ w4 ⟨⟨v4, rfl⟩, hm4, pa, cap, cc, ff, hc1, hc2, HK⟩; have HM4 := Lib.hid hm4; clear hm4))
  go_region
  all_goals
    go_wp2
    go_ret
    exact ⟨rfl, HK.out.1.drews 1, (((HM1.out.trans HM3.out).trans HM4.out).trans HK.out.2).drews 1⟩
set_option maxHeartbeats 4000000 in
set_option maxRecDepth 100000 in
theorem cut_any (g : Nat) (D : Dk.Disk) (f n : Int) (w : World) (h : DiskAt w g D) :
    Calls Try.prog 32 #[.pointer (some ⟨g, 0, none⟩), .int .i64 f, .int .i64 n] w fun e w' => e = .returned (.int .i64 (Dk.ec (Dk.cut D f n).1)) ∧ DiskAt w' g (Dk.cut D f n).2 ∧ Mv g w w' := by
  have C1' := fails_any g D w h
  unfold Dk.cut
  obtain ⟨D1, hD1⟩ : ∃ D1, Dk.comes D none = D1 := ⟨_, rfl⟩
  rw [hD1] at C1' ⊢
  clear hD1
  by_cases hd : D1.down = true
  · have e : Dk.cutB D1 f n = (.down, D1) := by unfold Dk.cutB; rw [Dk.may_down hd, if_neg (by decide)]
    rw [e]
    rw [hd] at C1'
    have C1 := Lib.hid C1'
    clear h e C1'
    go_enter Try.func32, Try.ntmps32
    go_wp2_with (go_at_call 51; refine C1.out.mono ?_; rintro _ w1 ⟨rfl, hv1, hm1⟩; have HV1 := Lib.hid hv1; have HM1 := Lib.hid hm1; clear hv1 hm1)
    go_ret
    exact ⟨rfl, HV1.out, HM1.out⟩
  · have hd' : D1.down = false := by simpa using hd
    rw [Dk.cutB_is D1 hd']
    have C2 := Lib.hid (fun w1 : World => isFile_any f w1)
    by_cases hf : Dk.isFile f = true
    · obtain ⟨f0, f1⟩ := (Dk.isFile_iff f).1 hf
      rw [if_pos hf]
      obtain ⟨fn, rfl⟩ : ∃ n : Nat, f = (n : Int) := ⟨f.toNat, by omega⟩
      rw [show ((fn : Int)).toNat = fn from rfl]
      have hfn : fn < 12 := by omega
      by_cases hn0 : n < 0
      · rw [if_pos (.inl hn0)]
        rw [hf] at C2
        rw [hd'] at C1'
        have C1 := Lib.hid C1'
        clear h C1' hd hd' hf
        go_enter Try.func32, Try.ntmps32
        go_wp2_with (first | (go_at_call 51; refine C1.out.mono ?_; rintro _ w1 ⟨rfl, hv1, hm1⟩; have HV1 := Lib.hid hv1; have HM1 := Lib.hid hm1; clear hv1 hm1) | (go_at_call 46; refine (C2.out _).mono ?_; rintro _ w2 ⟨rfl, rfl⟩))
        go_ret
        exact ⟨rfl, HV1.out, HM1.out⟩
      · obtain ⟨m, rfl⟩ : ∃ m : Nat, n = (m : Int) := ⟨n.toNat, by omega⟩
        by_cases hnl : ((Dk.read D1 fn).length : Int) < (m : Int)
        · rw [if_pos (.inr hnl)]
          have hsz : Dk.size D1 (fn : Int) = (Dk.read D1 fn).length := by unfold Dk.size; rw [if_pos (by omega)]; rfl
          obtain ⟨L, hL⟩ : ∃ L, (Dk.read D1 fn).length = L := ⟨_, rfl⟩
          have C3 := Lib.hid (fun (w1 : World) (hv : DiskAt w1 g D1) => show Calls Try.prog 19 #[.pointer (some ⟨g, 0, none⟩), .int .i64 (fn : Int)] w1 fun e w' => e = .returned (.int .i64 (L : Int)) ∧ DiskAt w' g D1 ∧ Mv g w1 w' from by
            refine (size_any g D1 (fn : Int) w1 hv).mono ?_
            rintro e w' ⟨h1, h2⟩
            obtain ⟨vs, q, k, hv⟩ := hv
            rw [hsz, hL] at h1
            exact ⟨h1, ⟨_, _, _, hv.below h2⟩, Mv.of_below h2 hv.lt⟩)
          rw [hL] at hnl
          rw [hf] at C2
          rw [hd'] at C1'
          have C1 := Lib.hid C1'
          clear h C1' hd hd' hf hsz hL
          go_enter Try.func32, Try.ntmps32
          go_wp2_with (first | (go_at_call 51; refine C1.out.mono ?_; rintro _ w1 ⟨rfl, hv1, hm1⟩; have HV1 := Lib.hid hv1; have HM1 := Lib.hid hm1; clear hv1 hm1) | (go_at_call 46; refine (C2.out _).mono ?_; rintro _ w2 ⟨rfl, rfl⟩) | (go_at_call 19; refine (C3.out _ HV1.out).mono ?_; rintro _ w3 ⟨rfl, hv3, hm3⟩; have HV3 := Lib.hid hv3; have HM3 := Lib.hid hm3; clear hv3 hm3))
          go_ret
          exact ⟨rfl, HV3.out, HM1.out.trans HM3.out⟩
        · rw [if_neg (by omega)]
          exact cut_ok g D1 fn m hfn w C1' hd' (by omega)
    · rw [if_neg hf]
      have hf' : Dk.isFile f = false := by simpa using hf
      rw [hf'] at C2
      rw [hd'] at C1'
      have C1 := Lib.hid C1'
      clear h C1' hd hd' hf hf'
      go_enter Try.func32, Try.ntmps32
      go_wp2_with (first | (go_at_call 51; refine C1.out.mono ?_; rintro _ w1 ⟨rfl, hv1, hm1⟩; have HV1 := Lib.hid hv1; have HM1 := Lib.hid hm1; clear hv1 hm1) | (go_at_call 46; refine (C2.out _).mono ?_; rintro _ w2 ⟨rfl, rfl⟩))
      go_ret
      exact ⟨rfl, HV1.out, HM1.out⟩
end Go.Proofs.Ytbpodclodflgfaa
