/-
  The small calls of the disk.
  The disk's queue; put into a file; what survives.
  Crash.
-/
import Derived.Test.YtbelmadbjiiodaaKGb
import Derived.Lib.IndexBytes
namespace Go.Proofs.Ytbelmadbjiiodaa
open Go Go.RowKit
set_option maxHeartbeats 1000000 in
set_option maxRecDepth 100000 in
theorem isFile_any (f : Int) (w : World) : Calls Try.prog 41 #[.int .i64 f] w fun e w' => e = .returned (.bool (Dk.isFile f)) ∧ w = w' := by
  by_cases h0 : 0 ≤ f
  · by_cases h1 : f ≤ 11
    · have e : Dk.isFile f = true := by unfold Dk.isFile; simp [h0, h1]
      have a1 : f < 12 := by omega
      rw [e]
      go_enter Try.func41, Try.ntmps41
      go_wp2
      go_ret
      exact ⟨rfl, rfl⟩
    · have e : Dk.isFile f = false := by unfold Dk.isFile; simp [h1]
      have a1 : ¬ f < 12 := by omega
      have a2 : 12 ≤ f := by omega
      rw [e]
      go_enter Try.func41, Try.ntmps41
      go_wp2
      go_ret
      exact ⟨rfl, rfl⟩
  · have e : Dk.isFile f = false := by unfold Dk.isFile; simp [h0]
    have a1 : f < 0 := by omega
    rw [e]
    go_enter Try.func41, Try.ntmps41
    go_wp2
    go_ret
    exact ⟨rfl, rfl⟩
set_option maxHeartbeats 1000000 in
set_option maxRecDepth 100000 in
theorem down_any (g : Nat) (vs : Nat → Value) (q k : Value) (D : Dk.Disk) (w : World) (h : DiskV w g vs q k D) :
    Calls Try.prog 15 #[.pointer (some ⟨g, 0, none⟩)] w fun e w' => e = .returned (.bool D.down) ∧ w = w' := by
  have c := h.cdown
  clear h
  go_enter Try.func15, Try.ntmps15
  go_wp2
  go_ret
  exact ⟨rfl, rfl⟩
set_option maxHeartbeats 1000000 in
set_option maxRecDepth 100000 in
theorem start_any (g : Nat) (vs : Nat → Value) (q k : Value) (D : Dk.Disk) (w : World) (h : DiskV w g vs q k D) :
    Calls Try.prog 19 #[.pointer (some ⟨g, 0, none⟩)] w fun e w' => (∃ v, e = .returned v) ∧ DiskV w' g vs q k (Dk.start D) ∧ Mv g w w' := by
  have c := h.cdown
  have c2 := h.blk.free 13
  have H := Lib.hid h
  clear h
  go_enter Try.func19, Try.ntmps19
  go_wp2
  go_end0
  exact ⟨⟨_, rfl⟩, H.out.mark 13 _ (Dk.start D) _ _ rfl rfl rfl (fun ha => H.out.keep_set ha 13 _) rfl ⟨H.out.good.len, H.out.good.pcs, H.out.good.q, H.out.good.lost0, H.out.good.lost1, H.out.good.armed0, H.out.good.armed1⟩ H.out.kone, Mv.set H.out.blk 13 _ (fun x hx => by cases hx)⟩
set_option maxHeartbeats 1000000 in
set_option maxRecDepth 100000 in
theorem lose_any (g : Nat) (vs : Nat → Value) (q k : Value) (D : Dk.Disk) (n : Int) (w : World) (h : DiskV w g vs q k D) (hn : n ≤ 9223372036854775807) :
    Calls Try.prog 24 #[.pointer (some ⟨g, 0, none⟩), .int .i64 n] w fun e w' => (∃ v, e = .returned v) ∧ DiskV w' g vs q k (Dk.lose D n) ∧ Mv g w w' := by
  have c := h.clost
  have c2 := h.blk.free 14
  have H := Lib.hid h
  clear h
  by_cases h0 : 0 ≤ n
  · have HM := Lib.hid (show Dk.lose D n = { D with lost := n } from by unfold Dk.lose; rw [Int.max_eq_left h0])
    go_enter Try.func24, Try.ntmps24
    go_wp2
    all_goals go_end0
    all_goals rw [HM.out]
    all_goals first | (exfalso; omega) | exact ⟨⟨_, rfl⟩, H.out.mark 14 _ { D with lost := n } _ _ rfl rfl rfl (fun ha => H.out.keep_set ha 14 _) rfl ⟨H.out.good.len, H.out.good.pcs, H.out.good.q, h0, hn, H.out.good.armed0, H.out.good.armed1⟩ H.out.kone, Mv.set H.out.blk 14 _ (fun x hx => by cases hx)⟩
  · have HM := Lib.hid (show Dk.lose D n = { D with lost := 0 } from by unfold Dk.lose; rw [Int.max_eq_right (by omega)])
    go_enter Try.func24, Try.ntmps24
    go_wp2
    all_goals go_end0
    all_goals rw [HM.out]
    all_goals first | (exfalso; omega) | exact ⟨⟨_, rfl⟩, H.out.mark 14 _ { D with lost := 0 } _ _ rfl rfl rfl (fun ha => H.out.keep_set ha 14 _) rfl ⟨H.out.good.len, H.out.good.pcs, H.out.good.q, (by decide : (0 : Int) ≤ 0), (by decide : (0 : Int) ≤ 9223372036854775807), H.out.good.armed0, H.out.good.armed1⟩ H.out.kone, Mv.set H.out.blk 14 _ (fun x hx => by cases hx)⟩
namespace Dk
def tick (D : Disk) : Disk := { D with armed := if D.armed = 0 then 0 else D.armed - 1 }
end Dk
set_option maxHeartbeats 1000000 in
set_option maxRecDepth 100000 in
theorem strikes_any (g : Nat) (vs : Nat → Value) (q k : Value) (D : Dk.Disk) (w : World) (h : DiskV w g vs q k D) :
    Calls Try.prog 29 #[.pointer (some ⟨g, 0, none⟩)] w fun e w' => e = .returned (.bool (decide (D.armed = 1))) ∧ DiskV w' g vs q k (Dk.tick D) ∧ Mv g w w' := by
  have c := h.carmed
  have c2 := h.blk.free 15
  have H := Lib.hid h
  have g0 := h.good.armed0
  have g1 := h.good.armed1
  clear h
  obtain ⟨a, ha⟩ : ∃ a, D.armed = a := ⟨_, rfl⟩
  rw [ha] at c g0 g1
  have HA := Lib.hid ha
  rw [ha]
  clear ha
  by_cases hz : a = 0
  · subst hz
    have e : decide ((0 : Int) = 1) = false := by decide
    rw [e]
    go_enter Try.func29, Try.ntmps29
    go_wp2
    go_ret
    refine ⟨rfl, ?_, Mv.refl _ _⟩
    have : Dk.tick D = D := by
      obtain ⟨l, q, lo, d, a, ke⟩ := D
      have := HA.out
      simp only at this
      subst this
      rfl
    rw [this]
    exact H.out
  · have hz2 : (a == 0) = false := by simpa using hz
    have hw : IntKind.i64.wrap (a - 1) = a - 1 := IntWalk.i64_in _ (by omega)
    have he : (a - 1 == 0) = decide (a = 1) := by rw [Bool.eq_iff_iff]; simp; omega
    have HE := Lib.hid he
    clear he
    go_enter Try.func29, Try.ntmps29
    go_wp2
    go_ret
    refine ⟨ret_bool HE.out, H.out.mark 15 _ (Dk.tick D) _ _ rfl rfl rfl (fun ha => H.out.keep_set (by rw [HA.out]; exact hz) 15 _) ?_ ⟨H.out.good.len, H.out.good.pcs, H.out.good.q, H.out.good.lost0, H.out.good.lost1, ?_, ?_⟩ H.out.kone, Mv.set H.out.blk 15 _ (fun x hx => by cases hx)⟩
    · unfold Dk.tick
      rw [HA.out, if_neg hz]
      rfl
    · show 0 ≤ (if D.armed = 0 then 0 else D.armed - 1)
      rw [HA.out, if_neg hz]; omega
    · show (if D.armed = 0 then 0 else D.armed - 1) ≤ _
      rw [HA.out, if_neg hz]; omega
end Go.Proofs.Ytbelmadbjiiodaa
namespace Go.Proofs.Ytbelmadbjiiodaa
open Go Go.RowKit
theorem SF.sub {w : World} {v v' : Value} (h : SF w v v') : ∀ x, v'.ownBlock = some x → v.ownBlock = some x ∨ w.heap.size ≤ x := fun x hx => by
  rcases h with h | ⟨b, h1, h2⟩
  · exact .inl (by rw [← h]; exact hx)
  · rw [h1] at hx
    injection hx with hx
    exact .inr (by omega)
section
variable {w w' : World} {g : Nat} {vs : Nat → Value} {q k : Value} {D : Dk.Disk}
/-- The queue's row has been rewritten, and its value stored. -/
theorem DiskV.setQ (h : DiskV w g vs q k D) {q' : Value} {Q : List Dk.Piece} (hg : w.grownBy w' q.ownBlock) (ho : w'.ownsRow 0 57 3 q' Q.length (pv Q)) (hs : ∀ x, q'.ownBlock = some x → q.ownBlock = some x ∨ w.heap.size ≤ x)
    (hp : ∀ p ∈ Q, p.f < 12 ∧ p.s ≠ [] ∧ p.at_ + p.s.length ≤ 16777216) (hl : Q.length ≤ 1000000) :
    DiskV (w'.setCell ⟨g, 12, none⟩ q') g vs q' k { D with queue := Q } ∧ Mv g w (w'.setCell ⟨g, 12, none⟩ q') := by
  have hgg : w'.heap[g]? = w.heap[g]? := hg.block g h.lt (fun e => (h.fq e.symm).2 rfl)
  have hblk : Blk w' g _ _ := hgg.trans h.blk
  have hne : q'.ownBlock ≠ some g := own_ne ho hblk (by decide)
  have hsame : ∀ b, b < w.heap.size → q.ownBlock ≠ some b → b ≠ g → (w'.setCell ⟨g, 12, none⟩ q').heap[b]? = w.heap[b]? := fun b hb hn hbg => by
    rw [set_other w' g 12 b q' hbg]
    exact hg.block b hb (fun e => hn e.symm)
  have hM1 : Mv g w w' := Mv.of_grown hg (fun x hx => h.fq hx) h.lt
  refine ⟨⟨hblk.set 12 q', fun i hi => ?_, ?_, fun ha => ?_, h.apart, ⟨h.good.len, hp, hl, h.good.lost0, h.good.lost1, h.good.armed0, h.good.armed1⟩, h.kone⟩, hM1.store hblk 12 q' fun x hx => ?_⟩
  · refine own_same (h.file i hi) fun b hb => hsame b (own_lt (h.file i hi) hb) (fun e => ?_) (h.ffile hi hb).2
    rcases own_apart h.pend (h.file i hi) (by decide) with h1 | h1
    · rw [h1] at e; cases e
    · exact h1 (e.trans hb.symm)
  · exact own_same ho fun b hb => set_other w' g 12 b q' (fun e => hne (by rw [← e]; exact hb))
  · exact own_same (h.keep ha) fun b hb => hsame b (h.keep_lt ha hb) (fun e => h.not_keep ha hb (h.fq e).1) (fun e => h.not_keep ha hb (.inl e))
  · rcases hs x hx with h1 | h1
    · exact .inr (.inl (h.fq h1).1)
    · exact .inr (.inr h1)
theorem grown_refl (w : World) (r : Option Nat) : w.grownBy w r := ⟨rfl, rfl, rfl, Nat.le_refl _, fun _ _ _ => rfl⟩
theorem DiskV.qshape (h : DiskV w g vs q k D) : ∃ qa gq cap, q = .slice qa D.queue.length cap ∧ (0 < D.queue.length → qa = some ⟨gq, 0, none⟩) ∧ D.queue.length ≤ cap ∧ cap ≤ 9223372036854775807 := by
  rcases h.pend.2 with ⟨rfl, h0⟩ | ⟨gq, cap, cur, rfl, _, _, h1, h2, _⟩
  · exact ⟨none, 0, 0, by rw [h0], fun hp => by omega, by omega, by omega⟩
  · exact ⟨_, gq, cap, rfl, fun _ => rfl, h1, by unfold maxLen at h2; omega⟩
theorem DiskV.piece {gq n cap : Nat} (h : DiskV w g vs (.slice (some ⟨gq, 0, none⟩) n cap) k D) {j : Nat} {p : Dk.Piece} (hp : D.queue[j]? = some p) :
    w.cell? ⟨gq, j * 3, none⟩ = some (.int .i64 (p.f : Int)) ∧ w.cell? ⟨gq, j * 3 + 1, none⟩ = some (.int .i64 (p.at_ : Int)) ∧ w.cell? ⟨gq, j * 3 + 2, none⟩ = some (.string (enc p.s)) := by
  have key : ∀ (i : Nat) (v : Value), (pc p)[i]? = some v → w.cell? ⟨gq, j * 3 + i, none⟩ = some v := fun i v hv => by
    have h1 := h.pend.cells (g := gq) rfl (j * 3 + i) v (pv_at D.queue j i p v hp hv)
    have h2 : (⟨gq, 0, none⟩ : Addr).add (j * 3 + i) = ⟨gq, j * 3 + i, none⟩ := by unfold Addr.add; split <;> simp_all
    rw [h2] at h1
    exact h1
  exact ⟨key 0 _ rfl, key 1 _ rfl, key 2 _ rfl⟩
end
/-- A slice of ints that reads as a list. -/
structure IR (w : World) (a : Option Addr) (b off : Nat) (ks : List Int) : Prop where
  addr : 0 < ks.length → a = some ⟨b, off, none⟩
  cell : ∀ j, j < ks.length → w.cell? ⟨b, off + j, none⟩ = some (.int .i64 (ks.getD j 0))
  lt : 0 < ks.length → b < w.heap.size
  fit : ks.length ≤ 9223372036854775807
theorem IR.mv {w w' : World} {a : Option Addr} {b off g : Nat} {ks : List Int} (h : IR w a b off ks) (hm : Mv g w w') (hf : 0 < ks.length → ¬ Foot w g b) : IR w' a b off ks :=
  ⟨h.addr, fun j hj => (World.cell?_of_block (a := ⟨b, off + j, none⟩) (hm.block b (h.lt (by omega)) (hf (by omega)))).trans (h.cell j hj), fun hp => Nat.lt_of_lt_of_le (h.lt hp) hm.size, h.fit⟩
theorem IR.below {w w' : World} {a : Option Addr} {b off : Nat} {ks : List Int} (h : IR w a b off ks) (hm : Below w.heap.size w w') : IR w' a b off ks :=
  ⟨h.addr, fun j hj => (World.cell?_of_block (a := ⟨b, off + j, none⟩) (hm.block b (h.lt (by omega)))).trans (h.cell j hj), fun hp => Nat.lt_of_lt_of_le (h.lt hp) hm.size, h.fit⟩
theorem ext_take (s : ByteArray) (n : Nat) : (s.extract 0 n).data.toList = s.data.toList.take n := by
  simp [ByteArray.extract, ByteArray.copySlice]
def partB (s : List UInt8) (k : Option Int) : List UInt8 := if k = some 1 then s else if k = some 2 then s.take 24 else []
theorem part_partB (p : Dk.Piece) (k : Option Int) : Dk.part p k = partB p.s k := rfl
theorem own_slice {w : World} {base : Nat} {e : TypeId} {size : Nat} {v : Value} {n : Nat} {xs : List Value} (h : w.ownsRow base e size v n xs) : ∃ pa n c, v = .slice pa n c := by
  rcases h.2 with ⟨rfl, _⟩ | ⟨g, cap, cur, rfl, _⟩
  · exact ⟨_, _, _, rfl⟩
  · exact ⟨_, _, _, rfl⟩
set_option maxHeartbeats 1000000 in
set_option maxRecDepth 100000 in
theorem survivor_any (s : ByteArray) (i : Nat) (hi : i ≤ 1000000000) (a : Option Addr) (b off n cap : Nat) (ks : List Int) (w : World) (h : IR w a b off ks) (hn : ks.length = n) :
    Calls Try.prog 31 #[.string s, .int .i64 i, .slice a n cap] w fun e w' => e = .returned (.string (enc (partB s.data.toList ks[i]?))) ∧ w = w' := by
  have hfit := h.fit
  by_cases hlt : i < n
  · obtain rfl := h.addr (by omega)
    have c := h.cell i (by omega)
    obtain ⟨x, hx⟩ : ∃ x, ks.getD i 0 = x := ⟨_, rfl⟩
    rw [hx] at c
    have hk : ks[i]? = some x := by rw [← hx, List.getD_eq_getElem?_getD, List.getElem?_eq_getElem (by omega)]; rfl
    rw [hk]
    have hin : ¬ n ≤ i := by omega
    have hfit' : n ≤ 9223372036854775807 := by omega
    clear h hx hk hn hfit
    by_cases h1 : x = 1
    · subst h1
      have HR := Lib.hid (show s = enc (partB s.data.toList (some 1)) from rfl)
      go_enter Try.func31, Try.ntmps31
      go_wp2
      go_ret
      exact ⟨ret_str HR.out, rfl⟩
    · by_cases h2 : x = 2
      · subst h2
        by_cases hs : s.size ≤ 24
        · have HR := Lib.hid (show s = enc (partB s.data.toList (some 2)) from by
            have : partB s.data.toList (some 2) = s.data.toList := by
              show s.data.toList.take 24 = _
              rw [List.take_of_length_le (by rw [← Lib.size_eq s]; exact hs)]
            rw [this]; rfl)
          go_enter Try.func31, Try.ntmps31
          go_wp2
          go_ret
          exact ⟨ret_str HR.out, rfl⟩
        · have hs' : 24 < s.size := by omega
          have HR := Lib.hid (show s.extract 0 24 = enc (partB s.data.toList (some 2)) from by
            have e := ext_take s 24
            show _ = enc (s.data.toList.take 24)
            rw [← e]; rfl)
          go_enter Try.func31, Try.ntmps31
          go_wp2
          go_ret
          exact ⟨ret_str HR.out, rfl⟩
      · have HR := Lib.hid (show (⟨#[]⟩ : ByteArray) = enc (partB s.data.toList (some x)) from by unfold partB; simp [h1, h2, enc])
        have e1 : (x == 1) = false := by simpa using h1
        have e2 : (x == 2) = false := by simpa using h2
        go_enter Try.func31, Try.ntmps31
        go_wp2
        go_ret
        exact ⟨ret_str HR.out, rfl⟩
  · have hk : ks[i]? = none := List.getElem?_eq_none (by omega)
    rw [hk]
    have hin : n ≤ i := by omega
    clear h hn hk
    go_enter Try.func31, Try.ntmps31
    go_wp2
    go_ret
    exact ⟨rfl, rfl⟩
set_option maxHeartbeats 1000000 in
set_option maxRecDepth 100000 in
theorem dput_any (g : Nat) (vs : Nat → Value) (q k : Value) (D : Dk.Disk) (f at_ : Nat) (s : ByteArray) (w : World) (h : DiskV w g vs q k D) (hf : f < 12) (hat : at_ + s.size ≤ 16777216) :
    Calls Try.prog 32 #[.pointer (some ⟨g, 0, none⟩), .int .i64 f, .int .i64 at_, .string s] w fun e w' => (∃ v, e = .returned v) ∧ (∃ vs', DiskV w' g vs' q k { D with last := Dk.setLast D.last f (Dk.put (D.last f) at_ s.data.toList) }) ∧ Mv g w w' := by
  have c1 := h.cfile f hf
  have fr := h.blk.free f
  have hlen := h.good.len f hf
  have hsz := Lib.hid (Lib.size_eq s)
  have C := Lib.hid (put_any 0 (vs f) (D.last f) at_ s w.drew (h.drew.file f hf) (Nat.zero_le _) (by omega) (by omega) (by omega))
  have H := Lib.hid h
  have hlt := h.lt
  clear h
  obtain ⟨V, hV⟩ : ∃ V, vs f = V := ⟨_, rfl⟩
  rw [hV] at c1
  have HV := Lib.hid hV
  rw [hV] at C
  clear hV
  go_enter Try.func32, Try.ntmps32
  have key : ∀ (w1 : World) (v1 : Value), w1.ownsRow 0 5 1 v1 (Dk.put (D.last f) at_ s.data.toList).length (bv (Dk.put (D.last f) at_ s.data.toList)) → w.drew.grownBy w1 V.ownBlock → SF w.drew V v1 →
      Hid ((∃ vs', DiskV (w1.setCell ⟨g, f, none⟩ v1) g vs' q k { D with last := Dk.setLast D.last f (Dk.put (D.last f) at_ s.data.toList) }) ∧ Mv g w (w1.setCell ⟨g, f, none⟩ v1)) ∧ w1.frozen? ⟨g, f, none⟩ = false ∧ w1.cell? ⟨g, f, none⟩ = some V ∧ ∃ pa n c, v1 = .slice pa n c := fun w1 v1 ho hg hs => by
    have hd := H.out.drew
    rw [← HV.out] at hg hs
    obtain ⟨a, b⟩ := hd.setFile hf hg ho hs (by rw [Dk.put_length]; have := hsz.out; omega)
    have hgg : w1.heap[g]? = w.heap[g]? := hg.block g H.out.lt (fun e => (H.out.ffile hf e.symm).2 rfl)
    have hb : Blk w1 g _ _ := hgg.trans H.out.blk
    exact ⟨⟨⟨_, a⟩, ⟨b.os, b.tape, b.output, b.size, b.block, b.foot⟩⟩, hb.free f, by rw [← HV.out]; exact hb.cell (dcells_file vs q k D f hf), own_slice ho⟩
  have KEY := Lib.hid key
  clear key
  go_region_with (go_at_call 43; refine C.out.mono ?_; rintro _ w1 ⟨v1, rfl, ho, hg, hs⟩; obtain ⟨HK, fr1, cc1, pa, nn, cc, rfl⟩ := KEY.out w1 v1 ho hg hs; clear ho hg hs)
  all_goals go_end0
  all_goals exact ⟨⟨_, rfl⟩, HK.out.1, HK.out.2⟩
end Go.Proofs.Ytbelmadbjiiodaa
namespace Go.Proofs.Ytbelmadbjiiodaa
open Go Go.RowKit
namespace Dk
theorem overK_snoc (f : Nat) : ∀ (q : List Piece) (ks : List Int) (s : B) (i : Nat) (p : Piece), q[i]? = some p →
    overK f s (q.take (i + 1)) ks = (match ks[i]? with | some k => if p.f = f ∧ (k = 1 ∨ k = 2) then put (overK f s (q.take i) ks) p.at_ (part p (some k)) else overK f s (q.take i) ks | none => overK f s (q.take i) ks)
  | [], _, _, _, _, h => by simp at h
  | p0 :: q, [], s, i, p, h => by
    have : ∀ q, overK f s q [] = s := fun q => by cases q <;> rfl
    rw [this, this]; rfl
  | p0 :: q, k :: ks, s, 0, p, h => by
    simp at h; subst h
    simp [overK]
  | p0 :: q, k :: ks, s, i + 1, p, h => by
    have ih := overK_snoc f q ks (if p0.f = f ∧ (k = 1 ∨ k = 2) then put s p0.at_ (part p0 (some k)) else s) i p (by simpa using h)
    simpa [overK] using ih
def during (D : Disk) (ks : List Int) (i : Nat) : Disk := { D with last := fun f => overK f (D.last f) (D.queue.take i) ks }
theorem during_zero (D : Disk) (ks : List Int) : during D ks 0 = D := by
  have : (fun f => overK f (D.last f) (D.queue.take 0) ks) = D.last := by
    funext f; rw [List.take_zero]; unfold overK; rfl
  unfold during; rw [this]
theorem part_some {s : B} (hs : s ≠ []) (k : Int) : partB s (some k) = [] ↔ ¬ (k = 1 ∨ k = 2) := by
  unfold partB
  by_cases h1 : k = 1
  · simp [h1, hs]
  · by_cases h2 : k = 2
    · subst h2
      simp [hs]
    · simp [h1, h2]
theorem during_skip (D : Disk) (ks : List Int) (i : Nat) (p : Piece) (hp : D.queue[i]? = some p) (hs : p.s ≠ []) (h : partB p.s ks[i]? = []) : during D ks (i + 1) = during D ks i := by
  unfold during
  have : (fun f => overK f (D.last f) (D.queue.take (i + 1)) ks) = (fun f => overK f (D.last f) (D.queue.take i) ks) := by
    funext f
    rw [overK_snoc f D.queue ks (D.last f) i p hp]
    cases hk : ks[i]? with
    | none => rfl
    | some k =>
      rw [hk] at h
      have := (part_some hs k).1 h
      simp only
      rw [if_neg (fun h => this h.2)]
  rw [this]
theorem during_put (D : Disk) (ks : List Int) (i : Nat) (p : Piece) (hp : D.queue[i]? = some p) (hs : p.s ≠ []) (h : partB p.s ks[i]? ≠ []) :
    during D ks (i + 1) = { during D ks i with last := setLast (during D ks i).last p.f (put ((during D ks i).last p.f) p.at_ (partB p.s ks[i]?)) } := by
  unfold during
  have : (fun f => overK f (D.last f) (D.queue.take (i + 1)) ks) = setLast (fun f => overK f (D.last f) (D.queue.take i) ks) p.f (put (overK p.f (D.last p.f) (D.queue.take i) ks) p.at_ (partB p.s ks[i]?)) := by
    funext f
    rw [overK_snoc f D.queue ks (D.last f) i p hp]
    unfold setLast
    cases hk : ks[i]? with
    | none => rw [hk] at h; exact absurd (by unfold partB; simp) h
    | some k =>
      rw [hk] at h
      have h2 : k = 1 ∨ k = 2 := Classical.byContradiction fun hc => h ((part_some hs k).2 hc)
      simp only
      by_cases hf : p.f = f
      · subst hf
        rw [if_pos ⟨rfl, h2⟩, if_pos rfl]; rfl
      · rw [if_neg (fun h => hf h.1), if_neg (fun e => hf e.symm)]
  rw [this]
def crashed (D : Disk) : Disk := { D with queue := [], down := true, armed := 0 }
theorem crash_during (D : Disk) (ks : List Int) (h : D.down = false) : crash D ks = crashed (during D ks D.queue.length) := by
  unfold crash crashed during
  rw [h, List.take_length]; rfl
theorem part_le (s : B) (k : Option Int) : (partB s k).length ≤ s.length := by
  unfold partB
  split
  · exact Nat.le_refl _
  · split <;> simp <;> omega
end Dk
theorem DiskV.crashed {w : World} {g : Nat} {vs : Nat → Value} {q k : Value} {D : Dk.Disk} (h : DiskV w g vs q k D) :
    DiskV ((((w.setCell ⟨g, 12, none⟩ (.slice none 0 0)).setCell ⟨g, 13, none⟩ (.bool true)).setCell ⟨g, 15, none⟩ (.int .i64 0)).setCell ⟨g, 16, none⟩ (.slice none 0 0)) g vs (.slice none 0 0) (.slice none 0 0) (Dk.crashed D) ∧
    Mv g w ((((w.setCell ⟨g, 12, none⟩ (.slice none 0 0)).setCell ⟨g, 13, none⟩ (.bool true)).setCell ⟨g, 15, none⟩ (.int .i64 0)).setCell ⟨g, 16, none⟩ (.slice none 0 0)) := by
  obtain ⟨a1, m1⟩ := h.setQ (q' := .slice none 0 0) (Q := []) (grown_refl w _) (World.ownsRow_nil _ _ _ _) (fun x hx => by cases hx) (fun p hp => by cases hp) (by simp)
  have a2 := a1.mark 13 (.bool true) { D with queue := [], down := true } (.slice none 0 0) k rfl rfl rfl (fun ha => a1.keep_set ha 13 _) rfl ⟨a1.good.len, a1.good.pcs, a1.good.q, a1.good.lost0, a1.good.lost1, a1.good.armed0, a1.good.armed1⟩ a1.kone
  have m2 := Mv.set a1.blk 13 (.bool true) (fun x hx => by cases hx)
  have a3 := a2.mark 15 (.int .i64 0) (Dk.crashed D) (.slice none 0 0) k rfl rfl rfl (fun ha => absurd rfl ha) rfl ⟨a1.good.len, a1.good.pcs, a1.good.q, a1.good.lost0, a1.good.lost1, (by decide : (0 : Int) ≤ 0), (by decide : (0 : Int) ≤ 9223372036854775807)⟩ a1.kone
  have m3 := Mv.set a2.blk 15 (.int .i64 0) (fun x hx => by cases hx)
  have a4 := a3.mark 16 (.slice none 0 0) (Dk.crashed D) (.slice none 0 0) (.slice none 0 0) rfl rfl rfl (fun ha => absurd rfl ha) rfl a3.good rfl
  have m4 := Mv.set a3.blk 16 (.slice none 0 0) (fun x hx => by cases hx)
  exact ⟨a4, ((m1.trans m2).trans m3).trans m4⟩
theorem DiskV.alloc {w : World} {g : Nat} {vs : Nat → Value} {q k : Value} {D : Dk.Disk} (h : DiskV w g vs q k D) (o : Obj) : DiskV (w.alloc o) g vs q k D := h.below (Below.alloc (Below.refl _ _) (Nat.le_refl _) o)
theorem Mv.alloc {w w' : World} {g : Nat} (h : Mv g w w') (hg : g < w.heap.size) (o : Obj) : Mv g w (w'.alloc o) := h.trans (Mv.of_below (Below.alloc (Below.refl _ _) (Nat.le_refl _) o) (Nat.lt_of_lt_of_le hg h.size))
set_option maxHeartbeats 1000000 in
set_option maxRecDepth 100000 in
theorem crash_down (g : Nat) (vs : Nat → Value) (q k : Value) (D : Dk.Disk) (v : Value) (w : World) (h : DiskV w g vs q k D) (hd : D.down = true) :
    Calls Try.prog 11 #[.pointer (some ⟨g, 0, none⟩), v] w fun e w' => (∃ v, e = .returned v) ∧ w = w' := by
  have c := h.cdown
  rw [hd] at c
  clear h
  go_enter Try.func11, Try.ntmps11
  go_wp2
  (try simp only [Exit.inBlock, Exit.then]); refine bodyPost_ret (results_none rfl _ _ _) rfl ?_
  exact ⟨⟨_, rfl⟩, rfl⟩
set_option maxHeartbeats 4000000 in
set_option maxRecDepth 100000 in
theorem crash_up (g : Nat) (vs : Nat → Value) (q k : Value) (D : Dk.Disk) (a : Option Addr) (b off n cap : Nat) (ks : List Int) (w : World) (h : DiskV w g vs q k D) (hd : D.down = false) (hk : IR w a b off ks) (hn : ks.length = n) (hf : 0 < ks.length → ¬ Foot w g b) :
    Calls Try.prog 11 #[.pointer (some ⟨g, 0, none⟩), .slice a n cap] w fun e w' => (∃ v, e = .returned v) ∧ (∃ vs' q' k', DiskV w' g vs' q' k' (Dk.crash D ks)) ∧ Mv g w w' := by
  have c13 := h.cdown
  have c12 := h.cq
  have hgood := Lib.hid h.good
  rw [hd] at c13
  rw [Dk.crash_during D ks hd]
  obtain ⟨qa, gq, qc, rfl, hqa, hql, hqc⟩ := h.qshape
  have H := Lib.hid h
  have HK := Lib.hid hk
  have HF := Lib.hid hf
  have HN := Lib.hid hn
  have HA := Lib.hid hqa
  clear h hk hf hn hqa
  obtain ⟨m, hm⟩ : ∃ m, D.queue.length = m := ⟨_, rfl⟩
  rw [hm] at HA H c12 hql
  have HM := Lib.hid hm
  rw [hm]
  clear hm
  go_enter Try.func11, Try.ntmps11
  go_wp2
  go_loopw [4, 5, 6, 16] (fun x4 x5 x6 i wr => ∃ j : Nat, i = .int .i64 j ∧ j ≤ m ∧ Hid (∃ vs', DiskV wr g vs' (.slice qa m qc) k (Dk.during D ks j)) ∧ Hid (Mv g w wr)) (fun _ _ _ i _ => m - (intOf i).toNat)
  case atStart => exact ⟨0, rfl, Nat.zero_le _, ⟨vs, by rw [Dk.during_zero]; exact H.out⟩, Mv.refl _ _⟩
  case round =>
    obtain ⟨j, rfl, hj, hD, hMv⟩ := hrel
    obtain ⟨vs1, h1⟩ := hD.out
    by_cases hlt : j < m
    · obtain ⟨p, hp⟩ : ∃ p, D.queue[j]? = some p := ⟨_, List.getElem?_eq_getElem (by rw [HM.out]; exact hlt)⟩
      obtain rfl := HA.out (by omega)
      obtain ⟨c0, c1, c2⟩ := h1.piece (j := j) (p := p) hp
      have hpg := hgood.out.pcs p (List.mem_of_getElem? hp)
      have hfit := hgood.out.q
      have hm0 := HM.out
      have HP := Lib.hid hp
      have H1 := Lib.hid h1
      have HI := Lib.hid (HK.out.mv hMv.out HF.out)
      have HG := Lib.hid hpg
      have h61 : (p.at_ + p.s.length ≤ 16777216) := hpg.2.2
      have hlt1 : wr.heap.size ≠ g := by have := h1.lt; omega
      have C1 := Lib.hid (fun w1 : World => fun hi : IR w1 a b off ks => survivor_any (enc p.s) j (by omega) a b off n cap ks w1 hi HN.out)
      clear hD h1 hp hpg hm0
      by_cases hX : partB p.s ks[j]? = []
      · have HX := Lib.hid hX
        have HE := Lib.hid (show enc (partB (enc p.s).data.toList ks[j]?) = ⟨#[]⟩ from by
          show enc (partB p.s ks[j]?) = _
          rw [hX]; rfl)
        clear hX
        go_wp2_with (go_at_call 31; refine (C1.out _ (HI.out.below (Below.alloc (Below.refl _ _) (Nat.le_refl _) _))).mono ?_; rintro _ w1 ⟨rfl, rfl⟩; rw [HE.out])
        go_roundw
        case rel => exact ⟨j + 1, by go_num, by omega, ⟨vs1, by rw [Dk.during_skip D ks j p HP.out HG.out.2.1 HX.out]; exact H1.out.alloc _⟩, hMv.out.alloc H.out.lt _⟩
        case measure => simp [intOf]; omega
      · have HX := Lib.hid hX
        obtain ⟨R, hR⟩ : ∃ R, enc (partB (enc p.s).data.toList ks[j]?) = R := ⟨_, rfl⟩
        have hRl : R.data.toList = partB p.s ks[j]? := by rw [← hR]; rfl
        have hRs : R.size ≤ p.s.length := by
          rw [Lib.size_eq R, hRl]; exact Dk.part_le _ _
        have hne : R.toList.isEmpty = false := by
          rw [ByteArray.toList_eq, hRl]
          cases h : partB p.s ks[j]? with
          | nil => exact absurd h hX
          | cons x l => rfl
        have hne2 : (R.toList != []) = true := by
          cases h : R.toList with
          | nil => rw [h] at hne; cases hne
          | cons x l => rfl
        have C2 := Lib.hid (fun w1 : World => fun hi : DiskV w1 g vs1 (.slice (some ⟨gq, 0, none⟩) m qc) k (Dk.during D ks j) => dput_any g vs1 _ k (Dk.during D ks j) p.f p.at_ R w1 hi HG.out.1 (by omega))
        have HRR := Lib.hid hR
        have HRL := Lib.hid hRl
        clear hX hR hRl hRs
        go_wp2_with (first | (go_at_call 31; refine (C1.out _ (HI.out.below (Below.alloc (Below.refl _ _) (Nat.le_refl _) _))).mono ?_; rintro _ w1 ⟨rfl, rfl⟩; rw [HRR.out]) | (go_at_call 32; refine (C2.out _ (H1.out.alloc _)).mono ?_; rintro _ w2 ⟨⟨v2, rfl⟩, ⟨vs2, h2⟩, hm2⟩; have H2 := Lib.hid h2; have HM2 := Lib.hid hm2; clear h2 hm2))
        go_roundw
        case rel => exact ⟨j + 1, by go_num, by omega, ⟨vs2, by rw [Dk.during_put D ks j p HP.out HG.out.2.1 HX.out, ← HRL.out]; exact H2.out⟩, (hMv.out.alloc H.out.lt _).trans HM2.out⟩
        case measure => simp [intOf]; omega
    · obtain rfl : j = m := by omega
      have f12 := h1.blk.free 12
      have f13 := h1.blk.free 13
      have f15 := h1.blk.free 15
      have f16 := h1.blk.free 16
      have e12 := h1.cq
      have e13 := h1.cdown
      have e15 := h1.carmed
      have e16 := h1.ckeep
      have HC := Lib.hid h1.crashed
      clear h1 hD
      go_wp2
      go_end0
      exact ⟨⟨_, rfl⟩, ⟨_, _, _, HC.out.1⟩, hMv.out.trans HC.out.2⟩
/-- What a disk is, in short. -/
def DiskAt (w : World) (g : Nat) (D : Dk.Disk) : Prop := ∃ vs q k, DiskV w g vs q k D
theorem crash_any (g : Nat) (D : Dk.Disk) (a : Option Addr) (b off n cap : Nat) (ks : List Int) (w : World) (h : DiskAt w g D) (hk : IR w a b off ks) (hn : ks.length = n) (hf : 0 < ks.length → ¬ Foot w g b) :
    Calls Try.prog 11 #[.pointer (some ⟨g, 0, none⟩), .slice a n cap] w fun e w' => (∃ v, e = .returned v) ∧ DiskAt w' g (Dk.crash D ks) ∧ Mv g w w' := by
  obtain ⟨vs, q, k, h⟩ := h
  by_cases hd : D.down = true
  · refine (crash_down g vs q k D _ w h hd).mono ?_
    rintro e w' ⟨he, rfl⟩
    exact ⟨he, ⟨vs, q, k, by unfold Dk.crash; rw [if_pos hd]; exact h⟩, Mv.refl _ _⟩
  · exact crash_up g vs q k D a b off n cap ks w h (by simpa using hd) hk hn hf
end Go.Proofs.Ytbelmadbjiiodaa
