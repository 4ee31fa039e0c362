/-
  The reference's add: a write goes into its pieces byte by byte.
-/
import Derived.Test.YtbelmadbjiiodaaRDe
namespace Go.Proofs.Ytbelmadbjiiodaa
open Go Go.RowKit
namespace Dk
structure Mid (f : Nat) (q0 : List Piece) (at_ : Nat) (s : B) (j : Nat) (L : List Piece) (b : Nat) (x : B) : Prop where
  eq : L ++ pieces f (s.drop (b - at_)).length b (s.drop (b - at_)) = q0 ++ pieces f s.length at_ s
  lo : at_ ≤ b
  pos : b + x.length = at_ + j
  xs : x = (s.drop (b - at_)).take x.length
  lt : x.length < min (s.drop (b - at_)).length (64 - b % 64) ∨ (j = s.length ∧ x = [])
  len : L.length + (s.length - (b - at_)) ≤ q0.length + s.length
  jle : j ≤ s.length
theorem Mid.start (f : Nat) (q0 : List Piece) (at_ : Nat) (s : B) : Mid f q0 at_ s 0 q0 at_ [] := by
  refine ⟨by rw [Nat.sub_self, List.drop_zero], Nat.le_refl _, rfl, rfl, ?_, by omega, Nat.zero_le _⟩
  rw [Nat.sub_self, List.drop_zero]
  by_cases h : s.length = 0
  · exact .inr ⟨h.symm, rfl⟩
  · refine .inl ?_
    simp only [List.length_nil]
    omega
variable {f : Nat} {q0 : List Piece} {at_ : Nat} {s : B} {j : Nat} {L : List Piece} {b : Nat} {x : B}
theorem Mid.end_ (h : Mid f q0 at_ s s.length L b x) : L = q0 ++ pieces f s.length at_ s := by
  have h1 := h.lo
  have h2 := h.pos
  have h3 : b - at_ = s.length := by
    rcases h.lt with h | ⟨_, h⟩
    · rw [List.length_drop] at h; omega
    · rw [h] at h2; simp only [List.length_nil] at h2; omega
  have h4 := h.eq
  rw [h3, List.drop_length] at h4
  rw [← h4, pieces_nil, List.append_nil]
theorem Mid.next (h : Mid f q0 at_ s j L b x) (hj : j < s.length) : x ++ [s.getD j 0] = (s.drop (b - at_)).take (x.length + 1) ∧ x.length < min (s.drop (b - at_)).length (64 - b % 64) := by
  have h1 := h.lo
  have h2 := h.pos
  have h3 : x.length < min (s.drop (b - at_)).length (64 - b % 64) := by
    rcases h.lt with h | ⟨h, _⟩
    · exact h
    · omega
  refine ⟨?_, h3⟩
  have h4 : x.length < (s.drop (b - at_)).length := by omega
  rw [List.take_succ_eq_append_getElem h4, ← h.xs]
  congr 1
  rw [List.getElem_drop]
  have : b - at_ + x.length = j := by omega
  simp only [this]
  rw [List.getD_eq_getElem?_getD, List.getElem?_eq_getElem hj]
  rfl
theorem Mid.on (h : Mid f q0 at_ s j L b x) (hj : j < s.length) (hc : ¬ ((at_ + j + 1) % 64 = 0 ∨ j + 1 = s.length)) : Mid f q0 at_ s (j + 1) L b (x ++ [s.getD j 0]) := by
  obtain ⟨h1, h2⟩ := h.next hj
  have h3 := h.pos
  have h4 := h.lo
  have hl : (x ++ [s.getD j 0]).length = x.length + 1 := by simp
  refine ⟨h.eq, h.lo, by rw [hl]; omega, by rw [hl]; exact h1, .inl ?_, h.len, hj⟩
  rw [hl]
  rw [List.length_drop] at h2 ⊢
  omega
theorem Mid.cut (h : Mid f q0 at_ s j L b x) (hj : j < s.length) (hc : (at_ + j + 1) % 64 = 0 ∨ j + 1 = s.length) : Mid f q0 at_ s (j + 1) (L ++ [⟨f, b, x ++ [s.getD j 0]⟩]) (at_ + j + 1) [] := by
  obtain ⟨h1, h2⟩ := h.next hj
  have h3 := h.pos
  have h4 := h.lo
  have hn : x.length + 1 = min (s.drop (b - at_)).length (64 - b % 64) := by
    rw [List.length_drop] at h2 ⊢
    omega
  have hp := pieces_step f b (s.drop (b - at_)) (by intro e; rw [e] at h2; simp at h2) (x.length + 1) hn
  have e1 : b + (x.length + 1) = at_ + j + 1 := by omega
  have e2 : (s.drop (b - at_)).drop (x.length + 1) = s.drop (at_ + j + 1 - at_) := by rw [List.drop_drop]; congr 1; omega
  refine ⟨?_, by omega, by simp only [List.length_nil]; omega, rfl, ?_, ?_, hj⟩
  · rw [← h.eq, hp, e1, e2, h1, List.append_assoc]
    rfl
  · by_cases he : j + 1 = s.length
    · exact .inr ⟨he, rfl⟩
    · refine .inl ?_
      rw [List.length_drop]
      simp only [List.length_nil]
      omega
  · have := h.len
    rw [List.length_append]
    simp only [List.length_cons, List.length_nil]
    omega
end Dk
theorem ext_one (s : ByteArray) (j : Nat) (hj : j < s.size) : (s.extract j (j + 1)).data.toList = [s.data.toList.getD j 0] := by
  have h2 : j < s.data.size := hj
  rw [ByteArray.data_extract, Array.toList_extract]
  refine List.ext_getElem? fun i => ?_
  rw [List.extract_eq_take_drop, List.getElem?_take, List.getElem?_drop]
  rcases i with _ | i
  · simp
    rw [Array.getElem?_eq_getElem h2]
    rfl
  · simp
theorem r_same_own {w : World} {g : Nat} {vl vq vk : Value} {D : Dk.Disk} (h : RV w g vl vq vk D) {w' : World} {vq' : Value} {Q : List Dk.Piece} (hg : w.grownBy w' vq.ownBlock) (ho : w'.ownsRow 0 71 3 vq' Q.length (pv Q)) (hs : SF w vq vq') (hG : Dk.Good { D with queue := Q }) :
    (RV (w'.setCell ⟨g, 1, none⟩ vq') g vl vq' vk { D with queue := Q } ∧ RMv g w (w'.setCell ⟨g, 1, none⟩ vq')) ∧ w'.frozen? ⟨g, 1, none⟩ = false ∧ w'.cell? ⟨g, 1, none⟩ = some vq := by
  have hne : vq.ownBlock ≠ some g := own_ne h.pend h.blk (by decide)
  have hgg : w'.heap[g]? = w.heap[g]? := hg.block g h.lt (fun e => hne e.symm)
  have hblk : Blk w' g _ _ := hgg.trans h.blk
  have hkeep : ∀ {t : TypeId} {sz n : Nat} {v : Value} {xs : List Value}, w.ownsRow 0 t sz v n xs → t ≠ 71 → w'.ownsRow 0 t sz v n xs := fun ho ht => own_same ho fun b hb => hg.block b (own_lt ho hb) (fun e => by
    rcases own_apart ho h.pend ht with h1 | h1
    · rw [h1] at hb; cases hb
    · exact h1 (hb.trans e))
  have hV : RV w' g vl vq vk { D with queue := D.queue } ∨ True := .inr trivial
  clear hV
  have hM : RMv g w w' := ⟨hg.os, hg.tape, hg.output, hg.size, fun b hb hn => hg.block b hb (fun e => hn (h.qfoot e.symm)), fun b hb => .inl (rfoot_same hgg hb)⟩
  refine ⟨⟨⟨hblk.set 1 vq', ?_, ?_, ?_, hG⟩, hM.store hblk 1 vq' fun x hx => ?_⟩, hblk.free 1, hblk.cell (j := 1) rfl⟩
  · exact own_same (hkeep h.last (by decide)) fun b hb => set_other w' g 1 b vq' (fun e => own_ne (hkeep h.last (by decide)) hblk (by decide) (e ▸ hb))
  · exact own_same ho fun b hb => set_other w' g 1 b vq' (fun e => own_ne ho hblk (by decide) (e ▸ hb))
  · exact own_same (hkeep h.keep (by decide)) fun b hb => set_other w' g 1 b vq' (fun e => own_ne (hkeep h.keep (by decide)) hblk (by decide) (e ▸ hb))
  · rcases hs with h1 | ⟨b, h1, h2⟩
    · exact .inr (.inl (h.qfoot (h1 ▸ hx)))
    · rw [h1] at hx
      injection hx with hx
      subst hx
      exact .inr (.inr h2)
set_option maxHeartbeats 8000000 in
set_option maxRecDepth 100000 in
theorem radd_any {w : World} {g : Nat} {D : Dk.Disk} (h : RAt w g D) (f at_ : Nat) (hf : f < 12) (s : ByteArray) (hat : at_ + s.size ≤ 16777216) (hq : D.queue.length + s.size ≤ 1000000) : Calls Try.prog 53 #[.pointer (some ⟨g, 0, none⟩), .int .i64 f, .int .i64 at_, .string s] w fun e w' => (∃ v, e = .returned v) ∧ RAt w' g (Dk.add D f at_ s.data.toList) ∧ RMv g w w' := by
  obtain ⟨vl, vq, vk, hv⟩ := h
  have HG := Lib.hid hv.good
  have HV := Lib.hid hv
  have hz := Lib.size_eq s
  have HZ := Lib.hid hz
  clear hv hz
  go_enter Try.func53, Try.ntmps53
  go_wp2_with fail
  go_loopw [8, 9, 10] (fun x8 x9 i wr => ∃ (j b : Nat) (x : ByteArray) (L : List Dk.Piece) (vq' : Value), i = .int .i64 j ∧ j ≤ s.size ∧ x8 = .string x ∧ x9 = .int .i64 b ∧ Hid (Dk.Mid f D.queue at_ s.data.toList j L b x.data.toList) ∧ Hid (RV wr g vl vq' vk { D with queue := L }) ∧ Hid (RMv g w wr)) (fun _ _ i _ => s.size - (intOf i).toNat)
  case atStart => exact ⟨0, at_, ⟨#[]⟩, D.queue, vq, rfl, Nat.zero_le _, rfl, rfl, Dk.Mid.start _ _ _ _, HV.out, RMv.refl _ _⟩
  case round =>
    obtain ⟨j, b, x, L, vq', rfl, hj, rfl, rfl, hM, hR, hV⟩ := hrel
    by_cases hjs : j < s.size
    · have hxl : x.size ≤ 64 := by
        have h1 := (hM.out.next (by rw [← HZ.out]; exact hjs)).2
        rw [Lib.size_eq x]
        omega
      have he := ext_one s j hjs
      obtain ⟨t, ht⟩ : ∃ t, s.extract j (j + 1) = t := ⟨_, rfl⟩
      rw [ht] at he
      have hts : t.size = 1 := by rw [Lib.size_eq t, he]; rfl
      have hxt : (x ++ t).data.toList = x.data.toList ++ [s.data.toList.getD j 0] := by rw [← he]; simp
      by_cases hc : (at_ + j + 1) % 64 = 0 ∨ j + 1 = s.size
      · have HC0 := hM.out.cut (by rw [← HZ.out]; exact hjs) (by rw [← HZ.out]; exact hc)
        rw [← hxt] at HC0
        have hLL := HC0.len
        have hnx := hM.out.next (by rw [← HZ.out]; exact hjs)
        have hpos := hM.out.pos
        have hlo := hM.out.lo
        have hGp : Dk.Good { D with queue := L ++ [⟨f, b, (x ++ t).data.toList⟩] } := by
          have G := hR.out.good
          refine ⟨HG.out.len, fun p hp => ?_, ?_, HG.out.lost0, HG.out.lost1, HG.out.armed0, HG.out.armed1⟩
          · rcases List.mem_append.1 hp with hp | hp
            · exact G.pcs p hp
            · obtain rfl : p = ⟨f, b, (x ++ t).data.toList⟩ := by simpa using hp
              refine ⟨hf, by rw [hxt]; simp, ?_⟩
              show b + (x ++ t).data.toList.length ≤ 16777216
              rw [hxt, List.length_append]
              simp only [List.length_cons, List.length_nil]
              omega
          · show (L ++ [_]).length ≤ 1000000
            rw [← HZ.out] at hLL
            omega
        have hLb : L.length ≤ 1000000 := hR.out.good.q
        have HC := Lib.hid HC0
        have c1' := hR.out.cells.2.1
        have HP := Lib.hid (hR.out.below (r_new wr (.cells #[.int .i64 (f : Int), .int .i64 (b : Int), .string (x ++ t)] 71)))
        have HMA := Lib.hid (RMv.of_below (r_new wr (.cells #[.int .i64 (f : Int), .int .i64 (b : Int), .string (x ++ t)] 71)) hR.out.lt)
        have KEY := Lib.hid (fun (w1 : World) (v1 : Value) ho hg hs => r_same_own HP.out (w' := w1) (vq' := v1) (Q := L ++ [⟨f, b, (x ++ t).data.toList⟩]) hg ho hs hGp)
        have hnp := Lib.hid (show ∀ j u, (pc ⟨f, b, (x ++ t).data.toList⟩)[j]? = some u → (wr.alloc (.cells #[.int .i64 (f : Int), .int .i64 (b : Int), .string (x ++ t)] 71)).cell? (Addr.add ⟨wr.heap.size, 0, none⟩ j) = some u from new_piece wr ⟨f, b, (x ++ t).data.toList⟩ 71)
        obtain ⟨pa, pn, pcap, rfl⟩ := own_slice hR.out.pend
        clear HC0 hGp hLL hnx hpos hlo hxt he hM
        by_cases h1 : (at_ + j + 1) % 64 = 0
        · have b1 : (((at_ : Int) + (j : Int) + 1) % 64 == 0) = true := by simp; omega
          go_wp2_with (at_builtin; refine wpList_app_q rfl (.tmp 42) (.tmp 47) rfl 0 rfl HP.out.pend ⟨wr.heap.size, 0, none⟩ 1 ⟨f, b, (x ++ t).data.toList⟩ rfl hnp.out (by show L.length ≤ _; omega) (Nat.zero_le _) ?_; intro v1 w1 ho1 hg1 hs1; obtain ⟨HK, fr1, cc1⟩ := KEY.out w1 v1 ho1 hg1 hs1; obtain ⟨pa1, pn1, pc1, rfl⟩ := own_slice ho1; clear ho1 hg1 hs1)
          go_roundw
          case rel => exact ⟨j + 1, at_ + j + 1, _, _, _, by go_num, hjs, rfl, by go_num, HC.out, HK.1, (hV.out.trans HMA.out).trans HK.2⟩
          case measure => simp [intOf]; omega
        · have b1 : (((at_ : Int) + (j : Int) + 1) % 64 == 0) = false := by rw [beq_eq_false_iff_ne]; omega
          have b2 : ((j : Int) == (s.size : Int) - 1) = true := by rw [beq_iff_eq]; omega
          go_wp2_with (at_builtin; refine wpList_app_q rfl (.tmp 42) (.tmp 47) rfl 0 rfl HP.out.pend ⟨wr.heap.size, 0, none⟩ 1 ⟨f, b, (x ++ t).data.toList⟩ rfl hnp.out (by show L.length ≤ _; omega) (Nat.zero_le _) ?_; intro v1 w1 ho1 hg1 hs1; obtain ⟨HK, fr1, cc1⟩ := KEY.out w1 v1 ho1 hg1 hs1; obtain ⟨pa1, pn1, pc1, rfl⟩ := own_slice ho1; clear ho1 hg1 hs1)
          go_roundw
          case rel => exact ⟨j + 1, at_ + j + 1, _, _, _, by go_num, hjs, rfl, by go_num, HC.out, HK.1, (hV.out.trans HMA.out).trans HK.2⟩
          case measure => simp [intOf]; omega
      · have HC0 := hM.out.on (by rw [← HZ.out]; exact hjs) (by rw [← HZ.out]; exact hc)
        rw [← hxt] at HC0
        have HC := Lib.hid HC0
        have b1 : (((at_ : Int) + (j : Int) + 1) % 64 == 0) = false := by rw [beq_eq_false_iff_ne]; omega
        have b2 : ((j : Int) == (s.size : Int) - 1) = false := by rw [beq_eq_false_iff_ne]; omega
        clear HC0 hxt he hc
        go_wp2
        go_roundw
        case rel => exact ⟨j + 1, b, _, L, vq', by go_num, hjs, rfl, rfl, HC.out, hR, hV⟩
        case measure => simp [intOf]; omega
    · obtain rfl : j = s.size := by omega
      have HE := Lib.hid (Dk.Mid.end_ (HZ.out ▸ hM.out))
      go_wp2
      go_end0
      exact ⟨⟨_, rfl⟩, ⟨vl, vq', vk, by have := hR.out; rw [HE.out] at this; exact this⟩, hV.out⟩
end Go.Proofs.Ytbelmadbjiiodaa
