/-
  Write.
-/
import Derived.Test.YtbpodclodflgfaaKK
namespace Go.Proofs.Ytbpodclodflgfaa
open Go Go.RowKit
namespace Dk
def ec : E → Int | .ok => 0 | .arg => 1 | .full => 6 | .down => 8 | .state => 7 | .lost => 9
theorem pieces_fuel (f : Nat) : ∀ (n at_ : Nat) (s : B), s.length ≤ n → pieces f n at_ s = pieces f s.length at_ s
  | n, at_, [], _ => by simp [pieces_nil]
  | 0, at_, c :: s, h => by simp at h
  | n + 1, at_, c :: s, h => by
    show pieces f (n + 1) at_ (c :: s) = pieces f (s.length + 1) at_ (c :: s)
    unfold pieces
    congr 1
    have hl : ((c :: s).drop (64 - at_ % 64)).length ≤ s.length := by rw [List.length_drop]; simp only [List.length_cons]; omega
    rw [pieces_fuel f n _ _ (by simp at h; omega), pieces_fuel f s.length _ _ hl]
theorem pieces_cons (f n at_ : Nat) (c : UInt8) (t : B) : pieces f (n + 1) at_ (c :: t) = ⟨f, at_, (c :: t).take (64 - at_ % 64)⟩ :: pieces f n (at_ + (64 - at_ % 64)) ((c :: t).drop (64 - at_ % 64)) := rfl
theorem pieces_step (f at_ : Nat) (s : B) (hs : s ≠ []) (n : Nat) (hn : n = min s.length (64 - at_ % 64)) : pieces f s.length at_ s = ⟨f, at_, s.take n⟩ :: pieces f (s.drop n).length (at_ + n) (s.drop n) := by
  obtain ⟨m, hm⟩ : ∃ m, 64 - at_ % 64 = m := ⟨_, rfl⟩
  match s, hs with
  | c :: t, _ =>
    have ht : (c :: t).take n = (c :: t).take m := by
      rw [hm] at hn
      by_cases hc : (c :: t).length ≤ m
      · rw [hn, Nat.min_eq_left hc, List.take_of_length_le (Nat.le_refl _), List.take_of_length_le hc]
      · rw [hn, Nat.min_eq_right (by omega)]
    have hd : (c :: t).drop n = (c :: t).drop m := by
      rw [hm] at hn
      by_cases hc : (c :: t).length ≤ m
      · rw [hn, Nat.min_eq_left hc, List.drop_of_length_le (Nat.le_refl _), List.drop_of_length_le hc]
      · rw [hn, Nat.min_eq_right (by omega)]
    show pieces f (t.length + 1) at_ (c :: t) = _
    rw [pieces_cons, hm, ht, hd]
    congr 1
    by_cases hc : (c :: t).length ≤ m
    · rw [List.drop_of_length_le hc, pieces_nil, pieces_nil]
    · have : n = m := by rw [hn, hm, Nat.min_eq_right (by omega)]
      rw [this, pieces_fuel f t.length _ _ (by rw [List.length_drop]; simp only [List.length_cons]; omega)]
theorem pieces_len (f : Nat) : ∀ (n at_ : Nat) (s : B), (pieces f n at_ s).length ≤ s.length
  | 0, at_, s => by simp [pieces]
  | n + 1, at_, [] => by simp [pieces]
  | n + 1, at_, c :: s => by
    unfold pieces
    have := pieces_len f n (at_ + (64 - at_ % 64)) ((c :: s).drop (64 - at_ % 64))
    rw [List.length_drop] at this
    simp only [List.length_cons] at this ⊢
    omega
theorem writeB_up (D : Disk) (hd : D.down = false) (f at_ : Int) (s : B) : writeB D f at_ s = if isFile f = true then (if at_ < 0 then (.arg, D) else if fits at_ s = true then (.ok, add D f.toNat at_.toNat s) else (.full, D)) else (.arg, D) := by
  unfold writeB may
  rw [hd]
  by_cases h : isFile f = true
  · simp [h]
  · simp [h]
end Dk
section
variable {w : World} {ops : Array Oper} {o : Oper} {a : Act} {Q : Exit → Act → World → Prop}
theorem step_app_piece {K : Act → World → Prop} {E : Prop} (hgd : o.guard = none) (s x : Operand) (ho : o.op = .call { callee := .builtin .append, args := #[s, x], argTypes := #[54, 54] })
    {v : Value} {L : List Dk.Piece} (hs : a.eval s = v) (hown : w.ownsRow 0 63 3 v L.length (pv L)) (ad : Addr) (c : Nat) (p : Dk.Piece) (hx : a.eval x = .slice (some ad) 1 c) (hnews : ∀ j u, (pc p)[j]? = some u → w.cell? (ad.add j) = some u) (hbig : L.length ≤ 1000000000)
    (h : ∀ v' w', w'.ownsRow 0 63 3 v' (L ++ [p]).length (pv (L ++ [p])) → w.grownBy w' v.ownBlock → SF w v v' → K (a.put o.dst v') w') : if Region.wanted o (yielded ops a.tmps) = true then Oper.wp Try.prog o a w K Q else E := by
  have hw : Region.wanted o (yielded ops a.tmps) = true := by simp [Region.wanted, hgd]
  rw [if_pos hw]
  obtain ⟨i0, hi, hz0, hz1, hz2⟩ := info_parts infoP
  obtain ⟨v', w', hr, h2, h3, h4⟩ := app_same w o.type i0 _ 32 Try.underlying54 hi hz0 hz1 hz2 rfl (by omega) hown ad 1 c (pc p) rfl hnews (by intro u hu; simp [pc] at hu; rcases hu with rfl | rfl | rfl <;> rfl) (by unfold maxLen; omega) (by omega) (Nat.zero_le _)
  unfold Oper.wp execOp
  simp only [ho, resolve, invoke, builtin, Sem.run_bind, Sem.run_pure, Result.andThen_ok, List.map_toArray, List.map_cons, List.map_nil, hs, hx, hr]
  refine h v' w' ?_ h3 h4
  have e : (L ++ [p]).length = L.length + 1 := by simp
  have e2 : pv (L ++ [p]) = pv L ++ pc p := by rw [pv_append]; simp [pv]
  rw [e, e2]
  exact h2
end
theorem new_piece (w : World) (p : Dk.Piece) (t : TypeId) : ∀ j u, (pc p)[j]? = some u → (w.alloc (.cells #[.int .i64 (p.f : Int), .int .i64 (p.at_ : Int), .string (enc p.s)] t)).cell? (Addr.add ⟨w.heap.size, 0, none⟩ j) = some u := fun j u hj => by
  have h2 : (⟨w.heap.size, 0, none⟩ : Addr).add j = ⟨w.heap.size, j, none⟩ := by unfold Addr.add; split <;> simp_all
  rw [h2]
  exact (Blk.made w #[.int .i64 (p.f : Int), .int .i64 (p.at_ : Int), .string (enc p.s)] t).cell hj
set_option maxHeartbeats 4000000 in
set_option maxRecDepth 100000 in
theorem write_loop (g : Nat) (vs : Nat → Value) (q k : Value) (D : Dk.Disk) (f at_ : Nat) (hf : f < 12) (s : ByteArray) (hat : at_ + s.size ≤ 16777216) (hq : D.queue.length + s.size ≤ 1000000) (w : World) (h : DiskV w g vs q k D) :
    Calls Try.prog 36 #[.pointer (some ⟨g, 0, none⟩), .int .i64 (f : Int), .int .i64 (at_ : Int), .string s] w fun e w' => e = .returned (.int .i64 0) ∧ (∃ q', DiskV w' g vs q' k (Dk.add D f at_ s.data.toList)) ∧ Mv g w w' := by
  have C := Lib.hid (isFile_any (f : Int) w)
  have hif : Dk.isFile (f : Int) = true := by unfold Dk.isFile; simp; omega
  rw [hif] at C
  have hsz := Lib.size_eq s
  have H := Lib.hid h
  have HSZ := Lib.hid hsz
  have hle : ¬ (16777216 - (s.size : Int) < (at_ : Int)) := by omega
  clear h hif hsz
  go_enter Try.func36, Try.ntmps36
  go_wp2_with (go_at_call 46; refine C.out.mono ?_; rintro _ w1 ⟨rfl, rfl⟩)
  go_loopw [2, 3, 9] (fun x2 x3 x9 wr => ∃ (b : Nat) (t : ByteArray) (q' : Value) (L : List Dk.Piece), x2 = .int .i64 b ∧ x3 = .string t ∧ b + t.size ≤ 16777216 ∧ L.length + t.size ≤ 1000000 ∧ Hid (L ++ Dk.pieces f t.size b t.data.toList = D.queue ++ Dk.pieces f s.size at_ s.data.toList) ∧ Hid (DiskV wr g vs q' k { D with queue := L }) ∧ Hid (Mv g w wr)) (fun _ x3 _ _ => match x3 with | .string t => t.size | _ => 0)
  case atStart => exact ⟨at_, s, q, D.queue, rfl, rfl, hat, hq, rfl, H.out, Mv.refl _ _⟩
  case round =>
    obtain ⟨b, t, q1, L, rfl, rfl, hb, hL, hP, hD, hMv⟩ := hrel
    by_cases ht : t.data.toList = []
    · have hte : t.toList.isEmpty = true := by rw [ByteArray.toList_eq, ht]; rfl
      have hte2 : (t.toList != []) = false := by rw [ByteArray.toList_eq, ht]; rfl
      have ht0 : t.size = 0 := by rw [Lib.size_eq, ht]; rfl
      have HF := Lib.hid (show L = D.queue ++ Dk.pieces f s.data.toList.length at_ s.data.toList from by
        have := hP.out
        rw [ht, Dk.pieces_nil, List.append_nil, Lib.size_eq s] at this
        exact this)
      clear ht
      go_wp2
      go_ret
      refine ⟨rfl, ⟨q1, ?_⟩, hMv.out⟩
      have := hD.out
      rw [HF.out] at this
      exact this
    · obtain ⟨m, hm⟩ : ∃ m, min t.data.toList.length (64 - b % 64) = m := ⟨_, rfl⟩
      have hST := Dk.pieces_step f b t.data.toList ht m hm.symm
      have htz := Lib.size_eq t
      have hte : t.toList.isEmpty = false := by
        rw [ByteArray.toList_eq]
        cases h : t.data.toList with
        | nil => exact absurd h ht
        | cons x l => rfl
      have hte2 : (t.toList != []) = true := by
        rw [ByteArray.toList_eq]
        cases h : t.data.toList with
        | nil => exact absurd h ht
        | cons x l => rfl
      have hm0 : 0 < m := by
        have : 0 < t.data.toList.length := List.length_pos_iff.2 ht
        rw [← hm]; omega
      have hm1 : m ≤ t.size := by rw [htz, ← hm]; exact Nat.min_le_left _ _
      have hm2 : m ≤ 64 := by rw [← hm]; omega
      obtain ⟨r, hr⟩ : ∃ r, b % 64 = r := ⟨_, rfl⟩
      rw [hr] at hm
      have hr64 : r < 64 := by omega
      have hrem : Int.tmod (b : Int) 64 = (r : Int) := by rw [Int.tmod_eq_emod_of_nonneg (by omega)]; omega
      have hsub : (64 : Int) - (r : Int) = ((64 - r : Nat) : Int) := by omega
      have hmin : min (t.size : Int) ((64 - r : Nat) : Int) = (m : Int) := by rw [htz]; omega
      have c12 := hD.out.cq
      have f12 := hD.out.blk.free 12
      have hgl : g < wr.heap.size := hD.out.lt
      have hn1 : g ≠ wr.heap.size := by omega
      have hn2 : wr.heap.size ≠ g := by omega
      have HST := Lib.hid hST
      have HM := Lib.hid hm
      have HTZ := Lib.hid htz
      clear hST hm htz ht
      obtain ⟨qa, gq, qc, hq1⟩ := own_slice hD.out.pend
      subst hq1
      have HOW := Lib.hid (fun o : Obj => show (wr.alloc o).ownsRow 0 63 3 (.slice qa gq qc) L.length (pv L) from (hD.out.alloc o).pend)
      have KEY := Lib.hid (fun (wx : World) (hDx : DiskV wx g vs (.slice qa gq qc) k { D with queue := L }) (hMx : Mv g w wx) (p : Dk.Piece) (hp : p.f < 12 ∧ p.s ≠ [] ∧ p.at_ + p.s.length ≤ 16777216) (w1 : World) (v1 : Value) (ho : w1.ownsRow 0 63 3 v1 (L ++ [p]).length (pv (L ++ [p]))) (hg : wx.grownBy w1 (Value.slice qa gq qc).ownBlock) (hs : SF wx (.slice qa gq qc) v1) =>
        show Hid (DiskV (w1.setCell ⟨g, 12, none⟩ v1) g vs v1 k { D with queue := L ++ [p] } ∧ Mv g w (w1.setCell ⟨g, 12, none⟩ v1)) ∧ w1.frozen? ⟨g, 12, none⟩ = false ∧ w1.cell? ⟨g, 12, none⟩ = some (.slice qa gq qc) ∧ ∃ pa n c, v1 = .slice pa n c from by
          have hbig : (L ++ [p]).length ≤ 1000000 := by simp; omega
          obtain ⟨x, y⟩ := hDx.setQ hg ho hs.sub (fun p' hp' => by
            rcases List.mem_append.1 hp' with h1 | h1
            · exact hD.out.good.pcs p' h1
            · simp at h1; subst h1; exact hp) hbig
          have hgg : Blk w1 g _ _ := (hg.block g hDx.lt (fun e => (hDx.fq e.symm).2 rfl)).trans hDx.blk
          exact ⟨⟨x, hMx.trans y⟩, hgg.free 12, hgg.cell rfl, own_slice ho⟩)
      by_cases hc : t.size ≤ 64 - r
      · obtain rfl : m = t.size := by omega
        have hT : enc t.data.toList = t := rfl
        have HPG := Lib.hid (show (⟨f, b, t.data.toList⟩ : Dk.Piece).f < 12 ∧ t.data.toList ≠ [] ∧ b + t.data.toList.length ≤ 16777216 from ⟨hf, fun e => by have h5 := Lib.size_eq t; rw [e, List.length_nil] at h5; omega, by rw [← HTZ.out]; exact hb⟩)
        go_wp2
        all_goals try (exfalso; omega)
        go_region_law (refine step_app_piece rfl (.tmp 34) (.tmp 41) rfl (by simp [Act.eval]) (HOW.out _) ⟨wr.heap.size, 0, none⟩ 1 ⟨f, b, t.data.toList⟩ (by simp [Act.eval]) (new_piece wr ⟨f, b, t.data.toList⟩ _) (by omega) ?_; intro v1 w1 ho1 hg1 hs1; obtain ⟨HK, fr1, cc1, pa, nn, cc, hv1⟩ := KEY.out _ (by first | exact (hD.out.alloc _).drew | exact hD.out.drew.alloc _) (by first | exact (hMv.out.alloc H.out.lt _).drew | exact hMv.out.drew.alloc H.out.lt _) _ HPG.out w1 v1 ho1 hg1 hs1; subst hv1; clear ho1 hg1 hs1)
        all_goals go_wp2
        all_goals go_quiet (fail)
        all_goals go_wp2
        all_goals
          go_roundw
          case rel =>
            refine ⟨b + t.size, ByteArray.empty, .slice pa nn cc, L ++ [⟨f, b, t.data.toList⟩], by first | rfl | go_num, rfl, by show b + t.size + 0 ≤ _; omega, by rw [List.length_append]; show L.length + 1 + 0 ≤ _; omega, ?_, Lib.hid (HK.out.1.drews _), Lib.hid (HK.out.2.drews _)⟩
            have h1 := hP.out
            rw [HTZ.out, HST.out, List.take_of_length_le (by rw [HTZ.out]; exact Nat.le_refl _), List.drop_of_length_le (by rw [HTZ.out]; exact Nat.le_refl _)] at h1
            show (L ++ [⟨f, b, t.data.toList⟩]) ++ Dk.pieces f 0 (b + t.size) [] = _
            rw [Dk.pieces_nil, List.append_nil]
            simpa [Dk.pieces_nil] using h1
          case measure => exact hm0
      · obtain rfl : m = 64 - r := by omega
        have hT : enc (t.data.toList.take (64 - r)) = t.extract 0 (64 - r) := by rw [← ext_take]; rfl
        have HPG := Lib.hid (show (⟨f, b, t.data.toList.take (64 - r)⟩ : Dk.Piece).f < 12 ∧ t.data.toList.take (64 - r) ≠ [] ∧ b + (t.data.toList.take (64 - r)).length ≤ 16777216 from ⟨hf, fun e => by have h5 := congrArg List.length e; rw [List.length_take, ← HTZ.out, List.length_nil] at h5; omega, by rw [List.length_take, ← HTZ.out]; omega⟩)
        have HNP := Lib.hid (fun t' => new_piece wr ⟨f, b, t.data.toList.take (64 - r)⟩ t')
        rw [show enc (t.data.toList.take (64 - r)) = t.extract 0 (64 - r) from hT] at HNP
        have HDR := Lib.hid (show (t.extract (64 - r) t.size).data.toList = t.data.toList.drop (64 - r) from Lib.extract_to_end t (64 - r))
        have hds : (t.extract (64 - r) t.size).size = t.size - (64 - r) := by rw [ByteArray.size_extract]; omega
        have HDS := Lib.hid hds
        clear hds
        go_wp2
        all_goals try (exfalso; omega)
        go_region_law (refine step_app_piece rfl (.tmp 34) (.tmp 41) rfl (by simp [Act.eval]) (HOW.out _) ⟨wr.heap.size, 0, none⟩ 1 ⟨f, b, t.data.toList.take (64 - r)⟩ (by simp [Act.eval]) (HNP.out _) (by omega) ?_; intro v1 w1 ho1 hg1 hs1; obtain ⟨HK, fr1, cc1, pa, nn, cc, hv1⟩ := KEY.out _ (by first | exact (hD.out.alloc _).drew | exact hD.out.drew.alloc _) (by first | exact (hMv.out.alloc H.out.lt _).drew | exact hMv.out.drew.alloc H.out.lt _) _ HPG.out w1 v1 ho1 hg1 hs1; subst hv1; clear ho1 hg1 hs1)
        all_goals go_wp2
        all_goals go_quiet (fail)
        all_goals go_wp2
        all_goals
          go_roundw
          case rel =>
            refine ⟨b + (64 - r), t.extract (64 - r) t.size, .slice pa nn cc, L ++ [⟨f, b, t.data.toList.take (64 - r)⟩], by first | rfl | go_num, rfl, by rw [HDS.out]; omega, by rw [List.length_append, HDS.out]; show L.length + 1 + _ ≤ _; omega, ?_, Lib.hid (HK.out.1.drews _), Lib.hid (HK.out.2.drews _)⟩
            have h1 := hP.out
            rw [HTZ.out, HST.out] at h1
            show _ = _
            rw [Lib.size_eq (t.extract (64 - r) t.size), HDR.out]
            simpa using h1
          case measure => show (t.extract (64 - r) t.size).size < t.size; rw [HDS.out]; omega
end Go.Proofs.Ytbpodclodflgfaa
