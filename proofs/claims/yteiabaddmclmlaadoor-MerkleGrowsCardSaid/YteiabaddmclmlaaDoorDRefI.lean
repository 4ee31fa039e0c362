/-
  The reference's block.
-/
import Derived.Test.YteiabaddmclmlaaDoorDRefJ
namespace Go.Proofs.YteiabaddmclmlaaDoor
open Go Go.RowKit Go.Shelf
set_option maxHeartbeats 8000000 in
set_option maxRecDepth 100000 in
theorem rblock_any (s : Dg.St) (m : List UInt8) (at_ : Nat) (hat : at_ + 64 ≤ m.length) (hml : m.length ≤ 200000000) (gs cs gb n cb : Nat) (hn : n = m.length) (w : World) (hS : IR w gs s.list) (hB : ∀ j, j < m.length → w.cell? ⟨gb, j, none⟩ = some (.int .u8 ((m.getD j 0).toNat : Int))) (hgb : gb < w.heap.size) :
    Calls Tryd.prog 55 #[.slice (some ⟨gs, 0, none⟩) 8 cs, .slice (some ⟨gb, 0, none⟩) n cb, .int .i64 at_] w fun e w' => ∃ v, e = .returned v ∧ IOwn w' w.heap.size v (Dg.proc s ((m.drop at_).take 64)).list ∧ Below w.heap.size w w' := by
  have HS := Lib.hid hS
  have HB := Lib.hid (fun (w' : World) (h : Below w.heap.size w w') (j : Nat) (hj : j < m.length) => (h.cell (p := ⟨gb, j, none⟩) hgb).trans (hB j hj))
  have hnl : m.length ≤ n := by omega
  have hnl2 : n ≤ m.length := by omega
  clear hS hB hn
  obtain ⟨blk, hblk⟩ : ∃ b, (m.drop at_).take 64 = b := ⟨_, rfl⟩
  have HWd := Lib.hid (fun (k : Nat) (hk : k < 16) => (by rw [← hblk, words_shift, if_pos hk] : Dg.wordAt blk k = Dg.word (m.getD (at_ + 4 * k) 0) (m.getD (at_ + 4 * k + 1) 0) (m.getD (at_ + 4 * k + 2) 0) (m.getD (at_ + 4 * k + 3) 0)))
  rw [hblk]
  clear hblk
  go_enter Tryd.func55, Tryd.ntmps55
  go_wp2_with fail
  go_loopw [7, 8] (fun v i wr => ∃ (k : Nat) (vv : Value), vv = v ∧ i = .int .i64 k ∧ k ≤ 16 ∧ Hid (IOwn wr w.heap.size vv (Dg.words blk k)) ∧ Hid (Below w.heap.size w wr)) (fun _ i _ => 16 - (intOf i).toNat)
  case atStart => exact ⟨0, _, rfl, rfl, by omega, World.ownsRow_nil _ _ _ _, Below.refl _ _⟩
  case round =>
    obtain ⟨k, v, rfl, rfl, hk, hown, hb⟩ := hrel
    by_cases hlt : k < 16
    · have hN : Dg.words blk (k + 1) = Dg.words blk k ++ [Dg.wordAt blk k] := rfl
      have hwl := Dg.words_length blk k
      have hwd := HWd.out k hlt
      obtain ⟨p, hp⟩ : ∃ p, at_ + 4 * k = p := ⟨_, rfl⟩
      rw [hp] at hwd
      obtain ⟨p1, hp1⟩ : ∃ q, p + 1 = q := ⟨_, rfl⟩
      obtain ⟨p2, hp2⟩ : ∃ q, p + 2 = q := ⟨_, rfl⟩
      obtain ⟨p3, hp3⟩ : ∃ q, p + 3 = q := ⟨_, rfl⟩
      rw [hp1, hp2, hp3] at hwd
      have S0 := Lib.hid (fun (w' : World) (h : Below w.heap.size w w') => (⟨HB.out w' h p (by omega), HB.out w' h p1 (by omega), HB.out w' h p2 (by omega), HB.out w' h p3 (by omega)⟩ : _ ∧ _ ∧ _ ∧ _))
      obtain ⟨a, ha⟩ : ∃ a, m.getD p 0 = a := ⟨_, rfl⟩
      obtain ⟨b, hb'⟩ : ∃ a, m.getD p1 0 = a := ⟨_, rfl⟩
      obtain ⟨c, hc⟩ : ∃ a, m.getD p2 0 = a := ⟨_, rfl⟩
      obtain ⟨d, hd⟩ : ∃ a, m.getD p3 0 = a := ⟨_, rfl⟩
      rw [ha, hb', hc, hd] at S0 hwd
      have hsd := word_said64 a b c d
      rw [← hwd] at hsd
      obtain ⟨W, hW⟩ : ∃ W, Dg.wordAt blk k = W := ⟨_, rfl⟩
      rw [hW] at hsd hN
      have al := UInt8.toNat_lt a
      have bl := UInt8.toNat_lt b
      have cl := UInt8.toNat_lt c
      have dl := UInt8.toNat_lt d
      have ip : IntKind.i64.wrap ((at_ : Int) + 4 * (k : Int)) = (p : Int) := by rw [IntWalk.i64_in _ (by omega)]; omega
      have ip0 : ((at_ : Int) + 4 * (k : Int)) = (p : Int) := by omega
      have j1 : ((p : Int) + 1) = (p1 : Int) := by omega
      have k1 : IntKind.i64.wrap (p1 : Int) = (p1 : Int) := IntWalk.i64_in _ (by omega)
      have i1 : IntKind.i64.wrap ((p : Int) + 1) = (p1 : Int) := by rw [IntWalk.i64_in _ (by omega)]; omega
      have j2 : ((p : Int) + 2) = (p2 : Int) := by omega
      have k2 : IntKind.i64.wrap (p2 : Int) = (p2 : Int) := IntWalk.i64_in _ (by omega)
      have i2 : IntKind.i64.wrap ((p : Int) + 2) = (p2 : Int) := by rw [IntWalk.i64_in _ (by omega)]; omega
      have j3 : ((p : Int) + 3) = (p3 : Int) := by omega
      have k3 : IntKind.i64.wrap (p3 : Int) = (p3 : Int) := IntWalk.i64_in _ (by omega)
      have i3 : IntKind.i64.wrap ((p : Int) + 3) = (p3 : Int) := by rw [IntWalk.i64_in _ (by omega)]; omega
      have i4 : IntKind.i64.wrap (p : Int) = (p : Int) := IntWalk.i64_in _ (by omega)
      have b0 : (p : Int) < (n : Int) := by omega
      have b1 : (p1 : Int) < (n : Int) := by omega
      have b2 : (p2 : Int) < (n : Int) := by omega
      have b3 : (p3 : Int) < (n : Int) := by omega
      have u1 : IntKind.i64.wrap (a.toNat : Int) = (a.toNat : Int) := IntWalk.i64_in _ (by omega)
      have u2 : IntKind.i64.wrap (b.toNat : Int) = (b.toNat : Int) := IntWalk.i64_in _ (by omega)
      have u3 : IntKind.i64.wrap (c.toNat : Int) = (c.toNat : Int) := IntWalk.i64_in _ (by omega)
      have u4 : IntKind.i64.wrap (d.toNat : Int) = (d.toNat : Int) := IntWalk.i64_in _ (by omega)
      have u5 : IntKind.i64.wrap ((a.toNat : Int) * 16777216) = (a.toNat : Int) * 16777216 := IntWalk.i64_in _ (by omega)
      have u6 : IntKind.i64.wrap ((b.toNat : Int) * 65536) = (b.toNat : Int) * 65536 := IntWalk.i64_in _ (by omega)
      have u7 : IntKind.i64.wrap ((c.toNat : Int) * 256) = (c.toNat : Int) * 256 := IntWalk.i64_in _ (by omega)
      obtain ⟨L, hL⟩ : ∃ L, Dg.words blk k = L := ⟨_, rfl⟩
      rw [hL] at hN hwl hown
      have HN := Lib.hid (show ∀ P : List Dg.W32 → Prop, P (L ++ [W]) → P (Dg.words blk (k + 1)) from fun P h => by rw [hN]; exact h)
      have hB0 := Lib.hid (below_drew hb.out)
      have hll : L.length ≤ 64 := by omega
      clear hwd hN hL hW ha hb' hc hd hwl hp hp1 hp2 hp3
      go_wp2_with fail
      go_region_held3 (fun w' => w'.cell? ⟨gb, p, none⟩ = some (.int .u8 (a.toNat : Int)) ∧ w'.cell? ⟨gb, p1, none⟩ = some (.int .u8 (b.toNat : Int)) ∧ w'.cell? ⟨gb, p2, none⟩ = some (.int .u8 (c.toNat : Int)) ∧ w'.cell? ⟨gb, p3, none⟩ = some (.int .u8 (d.toNat : Int))) (first | exact S0.out _ hB0.out | exact S0.out _ (below_drew (below_alloc hb.out (Nat.le_refl _) _)) | exact S0.out _ hb1) ((first | (refine step_append_ints (by rfl) _ _ (by rfl) w.heap.size _ L (by rfl) (IOwn.allocDrew hown.out _) ⟨wr.heap.size, 0, none⟩ 1 1 [W] (by rfl) rfl (cells_newDrew wr (iv [W]) _) (by omega) (Nat.le_trans hb.out.size (by first | exact Nat.le_succ _ | simp)) ?_; intro v1 w1 hown1 hgrow; have hb1 := below_grown (below_drew (below_alloc hb.out (Nat.le_refl _) _)) (IOwn.allocDrew hown.out _) hgrow (Nat.le_refl _) (Nat.le_refl _)) | fail))
      all_goals
        have HO1 := Lib.hid (HN.out (fun t => IOwn w1 w.heap.size v1 t) hown1)
        have HB1 := Lib.hid hb1
        clear hown1 hgrow hb1
        go_wp2
        go_roundw
        case rel => exact ⟨k + 1, v1, rfl, by go_num, by omega, HO1.out, HB1.out⟩
        case measure => simp [intOf]; omega
    · have hk16 : k = 16 := by omega
      have hb1 := hb
      have h4 : Hid (IOwn wr w.heap.size v (Dg.sched (Dg.words blk 16) 0)) := by rw [hk16] at hown; exact hown
      have hge : ¬ (k : Int) < 16 := by omega
      clear hb hown hk16
      go_wp2_with fail
      go_loopw [7, 10] (fun v i wr => ∃ (k : Nat) (vv : Value), vv = v ∧ i = .int .i64 k ∧ 16 ≤ k ∧ k ≤ 64 ∧ Hid (IOwn wr w.heap.size vv (Dg.sched (Dg.words blk 16) (k - 16))) ∧ Hid (Below w.heap.size w wr)) (fun _ i _ => 64 - (intOf i).toNat)
      case atStart => exact ⟨16, _, rfl, rfl, by omega, by omega, h4, hb1⟩
      case round =>
        clear h4 hb1
        obtain ⟨k, v, rfl, rfl, hk0, hk, hown, hb⟩ := hrel
        by_cases hlt : k < 64
        · have hwl : (Dg.sched (Dg.words blk 16) (k - 16)).length = k := by rw [Dg.sched_length, Dg.words_length]; omega
          have hN := sched_next (l := blk) hk0
          have hE := ext_eq (Dg.sched (Dg.words blk 16) (k - 16)) k
          obtain ⟨L, hL⟩ : ∃ L, Dg.sched (Dg.words blk 16) (k - 16) = L := ⟨_, rfl⟩
          rw [hL] at hN hE hwl hown
          obtain ⟨kx, hkx⟩ : ∃ q, k - 15 = q := ⟨_, rfl⟩
          obtain ⟨ky, hky⟩ : ∃ q, k - 2 = q := ⟨_, rfl⟩
          obtain ⟨kp, hkp⟩ : ∃ q, k - 16 = q := ⟨_, rfl⟩
          obtain ⟨kq, hkq⟩ : ∃ q, k - 7 = q := ⟨_, rfl⟩
          obtain ⟨g, cap, hv, hg, hI⟩ := hown.out.row (by omega)
          rw [hwl] at hv
          subst hv
          have cx := hI.cell kx (by omega)
          have cy := hI.cell ky (by omega)
          have cp := hI.cell kp (by omega)
          have cq := hI.cell kq (by omega)
          rw [hkx, hky, hkp, hkq] at hE
          obtain ⟨x, hx⟩ : ∃ x, L.getD kx 0 = x := ⟨_, rfl⟩
          obtain ⟨y, hy⟩ : ∃ x, L.getD ky 0 = x := ⟨_, rfl⟩
          obtain ⟨p, hp⟩ : ∃ x, L.getD kp 0 = x := ⟨_, rfl⟩
          obtain ⟨q, hq⟩ : ∃ x, L.getD kq 0 = x := ⟨_, rfl⟩
          rw [hx, hy, hp, hq] at hE
          have S0 := Lib.hid (fun (w' : World) (h : IR w' g L) => (⟨by rw [← hp]; exact h.cell kp (by omega), by rw [← hq]; exact h.cell kq (by omega)⟩ : w'.cell? ⟨g, kp, none⟩ = some (.int .i64 (p.toNat : Int)) ∧ w'.cell? ⟨g, kq, none⟩ = some (.int .i64 (q.toNat : Int))))
          rw [hx] at cx
          rw [hy] at cy
          rw [hp] at cp
          rw [hq] at cq
          obtain ⟨W, hW⟩ : ∃ W, Dg.ext L k = W := ⟨_, rfl⟩
          rw [hW] at hE hN
          have HN := Lib.hid (show ∀ P : List Dg.W32 → Prop, P (L ++ [W]) → P (Dg.sched (Dg.words blk 16) (k + 1 - 16)) from fun P h => by rw [hN]; exact h)
          have HX := Lib.hid cx
          have jx : (k : Int) - 15 = (kx : Int) := by omega
          have jy : (k : Int) - 2 = (ky : Int) := by omega
          have jp : (k : Int) - 16 = (kp : Int) := by omega
          have jq : (k : Int) - 7 = (kq : Int) := by omega
          have wx : IntKind.i64.wrap ((k : Int) - 15) = (kx : Int) := by rw [IntWalk.i64_in _ (by omega)]; omega
          have wy : IntKind.i64.wrap ((k : Int) - 2) = (ky : Int) := by rw [IntWalk.i64_in _ (by omega)]; omega
          have wp_ : IntKind.i64.wrap ((k : Int) - 16) = (kp : Int) := by rw [IntWalk.i64_in _ (by omega)]; omega
          have wq : IntKind.i64.wrap ((k : Int) - 7) = (kq : Int) := by rw [IntWalk.i64_in _ (by omega)]; omega
          have vx : IntKind.i64.wrap (kx : Int) = (kx : Int) := IntWalk.i64_in _ (by omega)
          have vy : IntKind.i64.wrap (ky : Int) = (ky : Int) := IntWalk.i64_in _ (by omega)
          have vp : IntKind.i64.wrap (kp : Int) = (kp : Int) := IntWalk.i64_in _ (by omega)
          have vq : IntKind.i64.wrap (kq : Int) = (kq : Int) := IntWalk.i64_in _ (by omega)
          have lx : (kx : Int) < (k : Int) := by omega
          have ly : (ky : Int) < (k : Int) := by omega
          have lp : (kp : Int) < (k : Int) := by omega
          have lq : (kq : Int) < (k : Int) := by omega
          have hlt' : (k : Int) < 64 := by omega
          obtain ⟨x7, hx7⟩ : ∃ r, Dg.ror x 7 = r := ⟨_, rfl⟩
          obtain ⟨x18, hx18⟩ : ∃ r, Dg.ror x 18 = r := ⟨_, rfl⟩
          obtain ⟨y17, hy17⟩ : ∃ r, Dg.ror y 17 = r := ⟨_, rfl⟩
          obtain ⟨y19, hy19⟩ : ∃ r, Dg.ror y 19 = r := ⟨_, rfl⟩
          rw [hx7, hx18, hy17, hy19] at hE
          have C1 := Lib.hid (fun w' => rturn_at x 7 7 rfl (by decide) (by decide) x7 hx7 w')
          have C2 := Lib.hid (fun w' => rturn_at x 18 18 rfl (by decide) (by decide) x18 hx18 w')
          have C3 := Lib.hid (fun w' => rturn_at y 17 17 rfl (by decide) (by decide) y17 hy17 w')
          have C4 := Lib.hid (fun w' => rturn_at y 19 19 rfl (by decide) (by decide) y19 hy19 w')
          obtain ⟨x3, hx3⟩ : ∃ r, x >>> 3 = r := ⟨_, rfl⟩
          obtain ⟨y10, hy10⟩ : ∃ r, y >>> 10 = r := ⟨_, rfl⟩
          have sx := shr3 x
          have sy := shr10 y
          rw [hx3] at sx hE
          rw [hy10] at sy hE
          have ox := v_xorR x7 x18
          have oy := v_xorR y17 y19
          obtain ⟨X, hX⟩ : ∃ r, x7 ^^^ x18 = r := ⟨_, rfl⟩
          obtain ⟨Y, hY⟩ : ∃ r, y17 ^^^ y19 = r := ⟨_, rfl⟩
          rw [hX] at ox hE
          rw [hY] at oy hE
          have oX := v_xorR X x3
          have oY := v_xorR Y y10
          obtain ⟨A, hA⟩ : ∃ r, X ^^^ x3 = r := ⟨_, rfl⟩
          obtain ⟨B, hB2⟩ : ∃ r, Y ^^^ y10 = r := ⟨_, rfl⟩
          rw [hA] at oX hE
          rw [hB2] at oY hE
          have hsum := add4 p A q B
          rw [← hE] at hsum
          have lp' := p.isLt
          have lq' := q.isLt
          have lA := A.isLt
          have lB := B.isLt
          obtain ⟨T1, hT1⟩ : ∃ T, p.toNat + A.toNat = T := ⟨_, rfl⟩
          obtain ⟨T2, hT2⟩ : ∃ T, T1 + q.toNat = T := ⟨_, rfl⟩
          obtain ⟨T3, hT3⟩ : ∃ T, T2 + B.toNat = T := ⟨_, rfl⟩
          have CW := Lib.hid (fun (w1 : World) => rword_int (T3 : Int) T3 W.toNat rfl (by omega) (by omega) w1)
          have a1 : (p.toNat : Int) + (A.toNat : Int) = (T1 : Int) := by omega
          have a2 : (T1 : Int) + (q.toNat : Int) = (T2 : Int) := by omega
          have a3 : (T2 : Int) + (B.toNat : Int) = (T3 : Int) := by omega
          have b1 : IntKind.i64.wrap ((p.toNat : Int) + (A.toNat : Int)) = (T1 : Int) := by rw [IntWalk.i64_in _ (by omega)]; omega
          have b2 : IntKind.i64.wrap ((T1 : Int) + (q.toNat : Int)) = (T2 : Int) := by rw [IntWalk.i64_in _ (by omega)]; omega
          have b3 : IntKind.i64.wrap ((T2 : Int) + (B.toNat : Int)) = (T3 : Int) := by rw [IntWalk.i64_in _ (by omega)]; omega
          have d1 : IntKind.i64.wrap (T1 : Int) = (T1 : Int) := IntWalk.i64_in _ (by omega)
          have d2 : IntKind.i64.wrap (T2 : Int) = (T2 : Int) := IntWalk.i64_in _ (by omega)
          have d3 : IntKind.i64.wrap (T3 : Int) = (T3 : Int) := IntWalk.i64_in _ (by omega)
          clear hsum hT1 hT2 hT3
          clear hE hX hY hA hB2 hx3 hy10
          clear hx hy hp hq hx7 hx18 hy17 hy19 hL hN hW hkx hky hkp hkq
          go_wp2_with fail
          refine (C1.out _).mono ?_
          rintro _ w1 ⟨rfl, n1, hw1⟩
          go_wp2_with fail
          refine (C2.out _).mono ?_
          rintro _ w2 ⟨rfl, n2, hw2⟩
          go_wp2_with fail
          refine (C3.out _).mono ?_
          rintro _ w3 ⟨rfl, n3, hw3⟩
          go_wp2_with fail
          refine (C4.out _).mono ?_
          rintro _ w4 ⟨rfl, n4, hw4⟩
          have hN4 : ∃ N, w4 = wr.drewN N := ⟨n1 + n2 + n3 + n4, by rw [hw4]; first | rfl | simp [Nat.add_assoc]⟩
          have HN4 := Lib.hid hN4
          clear hw1 hw2 hw3 hw4 hN4
          have hown4 : Hid (IOwn w4 w.heap.size (.slice (some ⟨g, 0, none⟩) k cap) L) := by obtain ⟨N, h⟩ := HN4.out; rw [h]; exact hown.out.drews N
          have hb4 : Hid (Below w.heap.size w w4) := by obtain ⟨N, h⟩ := HN4.out; rw [h]; exact below_drewN hb.out N
          have hI4 : Hid (IR w4 g L) := by obtain ⟨N, h⟩ := HN4.out; rw [h]; exact hI.drews N
          have hll : L.length ≤ 64 := by omega
          have HL := Lib.hid hwl
          clear HN4 cp cq cx cy hown hb hI C1 C2 C3 C4 hwl
          go_wp2_with fail
          go_region_held3 (fun w' => w'.cell? ⟨g, kp, none⟩ = some (.int .i64 (p.toNat : Int)) ∧ w'.cell? ⟨g, kq, none⟩ = some (.int .i64 (q.toNat : Int))) (first | exact S0.out _ hI4.out | exact S0.out _ (hI4.out.below (below_drew (Below.refl w4.heap.size w4))) | exact S0.out _ (hI4.out.below (below_drew (below_alloc (Below.refl w4.heap.size w4) (Nat.le_refl _) _))) | exact S0.out _ hI5 | fail) ((first | (go_at_call 75; refine (CW.out _).mono ?_; rintro _ w' ⟨rfl, rfl⟩) | (refine step_append_intsK (by rfl) _ _ (by rfl) w.heap.size g cap k L HL.out (by rfl) (IOwn.allocDrew hown4.out _) ⟨w4.heap.size, 0, none⟩ 1 1 [W] (by rfl) rfl (cells_newDrew w4 (iv [W]) _) (by omega) (Nat.le_trans hb4.out.size (by first | exact Nat.le_succ _ | simp)) ?_; intro v1 w5 hown1 hgrow hI5) | fail))
          all_goals
            have HO5 := Lib.hid (HN.out (fun t => IOwn w5 w.heap.size v1 t) hown1)
            have HB5 := Lib.hid (below_grown (below_drew (below_alloc hb4.out (Nat.le_refl _) _)) (IOwn.allocDrew hown4.out _) hgrow (Nat.le_refl _) (Nat.le_refl _))
            clear hown1 hgrow hI5
            go_wp2
            go_roundw
            case rel => exact ⟨k + 1, v1, rfl, by first | rfl | go_num, by omega, by omega, HO5.out, HB5.out⟩
            case measure => simp [intOf]; omega
        · have hk64 : k = 64 := by omega
          have hb1 := hb
          have h4 : Hid (IOwn wr w.heap.size v (Dg.W blk)) := by rw [hk64] at hown; exact hown
          have hge64 : ¬ (k : Int) < 64 := by omega
          have hlw : (Dg.W blk).length = k := by unfold Dg.W; rw [Dg.sched_length, Dg.words_length]; omega
          obtain ⟨g, cap, hv, hg, hI⟩ := h4.out.row (by omega)
          rw [hlw] at hv
          subst hv
          have HW := Lib.hid (show IR wr g (Dg.W blk) ∧ (Dg.W blk).length = 64 from ⟨hI, by omega⟩)
          have hgl := hI.lt
          have HLW := Lib.hid (show (Dg.W blk).length = 64 by omega)
          have hk64g : ¬ k < 64 := by omega
          clear hb hown hk64 hI hlw
          have hO0 : Hid (IOwn (wr.alloc (.cells #[] 3)) w.heap.size (.slice (some ⟨wr.heap.size, 0, none⟩) 0 0) []) := World.ownsRow_made wr #[] 0 hb1.out.size (by decide) rfl
          have hBa := Lib.hid (below_alloc hb1.out (Nat.le_refl _) (.cells #[] 3))
          have hS8 := Lib.hid (row_newsI (HS.out.below hBa.out))
          go_wp2_with (at_builtin; go_must (refine wpList_append_ints (by rfl) _ _ (by rfl) w.heap.size _ [] (by rfl) hO0.out ⟨gs, 0, none⟩ 8 cs s.list (by rfl) rfl hS8.out (by decide) (Nat.le_trans hb1.out.size (by first | exact Nat.le_succ _ | simp)) ?_); intro v1 w5 hown1 hgrow; have HO5 := Lib.hid hown1; have HB5 := Lib.hid (below_grown hBa.out hO0.out hgrow (Nat.le_refl _) (Nat.le_refl _)); have HW5 := Lib.hid (show IR w5 g (Dg.W blk) from HW.out.1.below (below_grown (below_alloc (Below.refl wr.heap.size wr) (Nat.le_refl _) (.cells #[] 3)) (show IOwn (wr.alloc (.cells #[] 3)) wr.heap.size (.slice (some ⟨wr.heap.size, 0, none⟩) 0 0) [] from World.ownsRow_made wr #[] 0 (Nat.le_refl _) (by decide) rfl) hgrow (Nat.le_refl _) (Nat.le_refl _))); clear hown1 hgrow hO0 hBa hS8 HW h4 hb1)
          all_goals
            go_wp2_with fail
            refine (rk_any _).mono ?_
            rintro _ w6 ⟨rfl, hk6, hb6⟩
            have HK6 := Lib.hid hk6
            have HB6 := Lib.hid (HB5.out.trans (hb6.mono HB5.out.size))
            have HW6 := Lib.hid (HW5.out.below hb6)
            clear hk6
            obtain ⟨gl0, cl0, hv1, hgl0, hI1⟩ := HO5.out.row (by simp [Dg.St.list])
            have hv1 : v1 = .slice (some ⟨gl0, 0, none⟩) 8 cl0 := hv1
            subst hv1
            have HL6 : Hid (IR w6 gl0 s.list) := hI1.below hb6
            clear hI1 HO5 hb6 HW5 HB5
            go_wp2_with fail
            refine rounds_loop s blk HLW g k cap w5.heap.size gl0 cl0 hk64g w6 HK6 HW6 HL6 _ _ _ _ _ _ _ _ _ _ _ _ _ _ _ _ _ _ _ _ _ _ _ _ _ _ _ _ _ _ _ _ _ _ _ _ _ _ _ _ _ _ _ _ _ _ _ _ _ _ _ _ _ _ _ _ _ _ _ _ _ _ _ _ _ _ _ _ _ _ _ _ _ _ _ _ _ _ _ _ _ _ _ _ _ _ _ _ _ _ _ _ _ _ _ _ _ _ _ _ _ _ _ _ _ _ _ _ _ _ _ _ _ _ _ _ _ _ _ _ _ _ _ _ _ _ _ _ _ _ _ _ _ _ _ _ _ _ _ _ _ _ _ _ _ _ _ _ _ _ _ _ _ _ _ _ _ _ _ _ _ _ _ _ _ _ _ _ _ _ _ _ _ _ _ _ _ _ _ _ _ _ _ _ _ _ _ _ _ _ _ _ _ _ _ _ _ _ _ _ _ _ _ _ _ _ _ _ _ _ _ _ _ _ _ _ _ _ _ _ _ _ _ _ _ _ _ _ _ _ _ _ _ _ _ _ _ _ _ _ _ _ _ _ _ _ _ _ _ _ ?_
            intro a3 w7 hX
            obtain ⟨gl, cl, ha3, hI7, hB7⟩ := hX
            generalize (fun n => a3.tmps.getD n undef) = us at ha3
            subst ha3
            dsimp only
            have hl := Lib.hid hI7
            have hbw : Hid (Below w.heap.size w w7) := HB6.out.trans (hB7.mono HB6.out.size)
            clear hI7 hB7
            have hS4 := Lib.hid (HS.out.below hbw.out)
            have hO : Dg.proc s blk = Dg.addS s (Dg.rnds (Dg.W blk) s 64) := rfl
            obtain ⟨X, hX⟩ : ∃ X, Dg.rnds (Dg.W blk) s 64 = X := ⟨_, rfl⟩
            rw [hX] at hl hO
            clear hX HK6 HB6 HW6 HL6 HS HB HWd HLW hk64g
            have hOl : (Dg.proc s blk).list.length = 8 := rfl
            have hOg := Lib.hid (show ∀ k, k < 8 → (Dg.proc s blk).list.getD k 0 = s.list.getD k 0 + X.list.getD k 0 from fun k hk => by rw [hO]; exact addS_at s X k hk)
            obtain ⟨O, hOO⟩ : ∃ O, (Dg.proc s blk).list = O := ⟨_, rfl⟩
            rw [hOO] at hOl hOg
            have HOO := Lib.hid (show ∀ P : List Dg.W32 → Prop, P O → P (Dg.proc s blk).list from fun P h => by rw [hOO]; exact h)
            clear hO hOO
            have hsl : s.list.length = 8 := rfl
            have hXl : X.list.length = 8 := rfl
            obtain ⟨SL, hSL⟩ : ∃ L, s.list = L := ⟨_, rfl⟩
            rw [hSL] at hS4 hOg hsl
            obtain ⟨XL, hXL⟩ : ∃ L, X.list = L := ⟨_, rfl⟩
            rw [hXL] at hl hOg hXl
            clear hSL hXL
            have HSc := Lib.hid (fun k (hk : k < 8) => hS4.out.cell k (by omega))
            have HXc := Lib.hid (fun k (hk : k < 8) => hl.out.cell k (by omega))
            have HSl := Lib.hid hS4.out.lt
            have HXl := Lib.hid hl.out.lt
            clear hsl hXl hS4 hl
            obtain ⟨wz, rfl⟩ : ∃ x, x = w7 := ⟨w7, rfl⟩
            go_wp2_with fail
            go_loopw [21, 22] (fun v j wr => ∃ (k : Nat) (vv : Value), vv = v ∧ j = .int .i64 k ∧ k ≤ 8 ∧ Hid (IOwn wr wz.heap.size vv (O.take k)) ∧ Hid (Below wz.heap.size wz wr)) (fun _ j _ => 8 - (intOf j).toNat)
            case atStart => exact ⟨0, _, rfl, rfl, by omega, World.ownsRow_nil _ _ _ _, Below.refl _ _⟩
            case round =>
              obtain ⟨k, v, rfl, rfl, hk, hown, hb⟩ := hrel
              by_cases hlt : k < 8
              · have hlt8 : (k : Int) < 8 := by omega
                have hc := hOg.out k hlt
                have hN : O.take (k + 1) = O.take k ++ [O.getD k 0] := by
                  rw [List.take_succ_eq_append_getElem (by omega)]
                  simp [List.getD_eq_getElem?_getD, List.getElem?_eq_getElem (show k < O.length by omega)]
                have hLl : (O.take k).length ≤ 8 := by simp; omega
                obtain ⟨L, hL⟩ : ∃ L, O.take k = L := ⟨_, rfl⟩
                rw [hL] at hown hN hLl
                clear hL
                have hc1 := HSc.out k hlt
                have hc2 := HXc.out k hlt
                obtain ⟨a, ha⟩ : ∃ a, SL.getD k 0 = a := ⟨_, rfl⟩
                obtain ⟨b, hb'⟩ : ∃ a, XL.getD k 0 = a := ⟨_, rfl⟩
                obtain ⟨c, hcc⟩ : ∃ a, O.getD k 0 = a := ⟨_, rfl⟩
                rw [ha] at hc hc1
                rw [hb'] at hc hc2
                rw [hcc] at hc hN
                clear ha hb' hcc
                have S0 := Lib.hid (fun (w' : World) (h : Below wz.heap.size wz w') => (⟨(h.cell (p := ⟨gs, k, none⟩) HSl.out).trans hc1, (h.cell (p := ⟨gl, k, none⟩) HXl.out).trans hc2⟩ : w'.cell? ⟨gs, k, none⟩ = some (.int .i64 (a.toNat : Int)) ∧ w'.cell? ⟨gl, k, none⟩ = some (.int .i64 (b.toNat : Int))))
                have la := a.isLt
                have lb := b.isLt
                have hcn : (a.toNat + b.toNat) % 4294967296 = c.toNat := by rw [hc, BitVec.toNat_add]
                obtain ⟨t, ht⟩ : ∃ t, a.toNat + b.toNat = t := ⟨_, rfl⟩
                have z1 : (a.toNat : Int) + (b.toNat : Int) = (t : Int) := by omega
                have z2 : IntKind.i64.wrap ((a.toNat : Int) + (b.toNat : Int)) = (t : Int) := by rw [IntWalk.i64_in _ (by omega)]; omega
                have z3 : IntKind.i64.wrap (t : Int) = (t : Int) := IntWalk.i64_in _ (by omega)
                have CW := Lib.hid (fun (w1 : World) => rword_int (t : Int) t c.toNat rfl (by omega) (by omega) w1)
                have HN := Lib.hid (show ∀ P : List Dg.W32 → Prop, P (L ++ [c]) → P (O.take (k + 1)) from fun P h => by rw [hN]; exact h)
                have HB0 := Lib.hid (below_drew hb.out)
                clear hc hN hc1 hc2 hcn ht
                go_wp2_with fail
                go_region_held3 (fun w' => w'.cell? ⟨gs, k, none⟩ = some (.int .i64 (a.toNat : Int)) ∧ w'.cell? ⟨gl, k, none⟩ = some (.int .i64 (b.toNat : Int))) (first | exact S0.out _ HB0.out | exact S0.out _ (below_drew (below_alloc hb.out (Nat.le_refl _) _)) | exact S0.out _ hb5 | fail) ((first | (go_at_call 75; refine (CW.out _).mono ?_; rintro _ w' ⟨rfl, rfl⟩) | (refine step_append_ints (by rfl) _ _ (by rfl) wz.heap.size _ L (by rfl) (IOwn.allocDrew hown.out _) ⟨wr.heap.size, 0, none⟩ 1 1 [c] (by rfl) rfl (cells_newDrew wr (iv [c]) _) (by omega) (Nat.le_trans hb.out.size (by first | exact Nat.le_succ _ | simp)) ?_; intro v1 w5 hown1 hgrow; have hb5 := below_grown (below_drew (below_alloc hb.out (Nat.le_refl _) _)) (IOwn.allocDrew hown.out _) hgrow (Nat.le_refl _) (Nat.le_refl _)) | fail))
                all_goals
                  have HO5 := Lib.hid (HN.out (fun t => IOwn w5 wz.heap.size v1 t) hown1)
                  have HB5 := Lib.hid hb5
                  clear hown1 hgrow hb5
                  go_wp2
                  go_roundw
                  case rel => exact ⟨k + 1, v1, rfl, by first | rfl | go_num, by omega, HO5.out, HB5.out⟩
                  case measure => simp [intOf]; omega
              · have hge8 : ¬ (k : Int) < 8 := by omega
                have hk8 : k = 8 := by omega
                have hf : O.take k = O := by rw [hk8]; exact List.take_of_length_le (by omega)
                rw [hf] at hown
                have HE := Lib.hid (show IOwn wr w.heap.size v O ∧ Below w.heap.size w wr from ⟨hown.out.base hbw.out.size, hbw.out.trans (hb.out.mono hbw.out.size)⟩)
                clear hf hk8 hown hb hbw
                go_wp2
                go_ret
                exact ⟨v, rfl, HOO.out (fun L => IOwn wr w.heap.size v L) HE.out.1, HE.out.2⟩
end Go.Proofs.YteiabaddmclmlaaDoor
