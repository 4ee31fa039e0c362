/-
  The disk's queue; put into a file; what survives.
-/
import Derived.Test.YtbpodclodflgfaaKA
import Derived.Lib.IndexBytes
namespace Go.Proofs.Ytbpodclodflgfaa
open Go Go.RowKit
theorem SF.sub {w : World} {v v' : Value} (h : SF w v v') : ∀ x, v'.ownBlock = some x → v.ownBlock = some x ∨ w.heap.size ≤ x := fun x hx => by
  rcases h with h | ⟨b, h1, h2⟩
  · exact .inl (by rw [← h]; exact hx)
  · rw [h1] at hx
    injection hx with hx
    exact .inr (by omega)
section
variable {w w' : World} {g : Nat} {vs : Nat → Value} {q k : Value} {D : Dk.Disk}
/-- The queue's row has been rewritten, and its value stored. -/
theorem DiskV.setQ (h : DiskV w g vs q k D) {q' : Value} {Q : List Dk.Piece} (hg : w.grownBy w' q.ownBlock) (ho : w'.ownsRow 0 63 3 q' Q.length (pv Q)) (hs : ∀ x, q'.ownBlock = some x → q.ownBlock = some x ∨ w.heap.size ≤ x)
    (hp : ∀ p ∈ Q, p.f < 12 ∧ p.s ≠ [] ∧ p.at_ + p.s.length ≤ 16777216) (hl : Q.length ≤ 1000000) :
    DiskV (w'.setCell ⟨g, 12, none⟩ q') g vs q' k { D with queue := Q } ∧ Mv g w (w'.setCell ⟨g, 12, none⟩ q') := by
  have hgg : w'.heap[g]? = w.heap[g]? := hg.block g h.lt (fun e => (h.fq e.symm).2 rfl)
  have hblk : Blk w' g _ _ := hgg.trans h.blk
  have hne : q'.ownBlock ≠ some g := own_ne ho hblk (by decide)
  have hsame : ∀ b, b < w.heap.size → q.ownBlock ≠ some b → b ≠ g → (w'.setCell ⟨g, 12, none⟩ q').heap[b]? = w.heap[b]? := fun b hb hn hbg => by
    rw [set_other w' g 12 b q' hbg]
    exact hg.block b hb (fun e => hn e.symm)
  have hM1 : Mv g w w' := Mv.of_grown hg (fun x hx => h.fq hx) h.lt
  refine ⟨⟨hblk.set 12 q', fun i hi => ?_, ?_, fun ha => ?_, h.apart, ⟨h.good.len, hp, hl, h.good.lost0, h.good.lost1, h.good.armed0, h.good.armed1⟩, h.kone⟩, hM1.store hblk 12 q' fun x hx => ?_⟩
  · refine own_same (h.file i hi) fun b hb => hsame b (own_lt (h.file i hi) hb) (fun e => ?_) (h.ffile hi hb).2
    rcases own_apart h.pend (h.file i hi) (by decide) with h1 | h1
    · rw [h1] at e; cases e
    · exact h1 (e.trans hb.symm)
  · exact own_same ho fun b hb => set_other w' g 12 b q' (fun e => hne (by rw [← e]; exact hb))
  · exact own_same (h.keep ha) fun b hb => hsame b (h.keep_lt ha hb) (fun e => h.not_keep ha hb (h.fq e).1) (fun e => h.not_keep ha hb (.inl e))
  · rcases hs x hx with h1 | h1
    · exact .inr (.inl (h.fq h1).1)
    · exact .inr (.inr h1)
theorem grown_refl (w : World) (r : Option Nat) : w.grownBy w r := ⟨rfl, rfl, rfl, Nat.le_refl _, fun _ _ _ => rfl⟩
theorem DiskV.qshape (h : DiskV w g vs q k D) : ∃ qa gq cap, q = .slice qa D.queue.length cap ∧ (0 < D.queue.length → qa = some ⟨gq, 0, none⟩) ∧ D.queue.length ≤ cap ∧ cap ≤ 9223372036854775807 := by
  rcases h.pend.2 with ⟨rfl, h0⟩ | ⟨gq, cap, cur, rfl, _, _, h1, h2, _⟩
  · exact ⟨none, 0, 0, by rw [h0], fun hp => by omega, by omega, by omega⟩
  · exact ⟨_, gq, cap, rfl, fun _ => rfl, h1, by unfold maxLen at h2; omega⟩
theorem DiskV.piece {gq n cap : Nat} (h : DiskV w g vs (.slice (some ⟨gq, 0, none⟩) n cap) k D) {j : Nat} {p : Dk.Piece} (hp : D.queue[j]? = some p) :
    w.cell? ⟨gq, j * 3, none⟩ = some (.int .i64 (p.f : Int)) ∧ w.cell? ⟨gq, j * 3 + 1, none⟩ = some (.int .i64 (p.at_ : Int)) ∧ w.cell? ⟨gq, j * 3 + 2, none⟩ = some (.string (enc p.s)) := by
  have key : ∀ (i : Nat) (v : Value), (pc p)[i]? = some v → w.cell? ⟨gq, j * 3 + i, none⟩ = some v := fun i v hv => by
    have h1 := h.pend.cells (g := gq) rfl (j * 3 + i) v (pv_at D.queue j i p v hp hv)
    have h2 : (⟨gq, 0, none⟩ : Addr).add (j * 3 + i) = ⟨gq, j * 3 + i, none⟩ := by unfold Addr.add; split <;> simp_all
    rw [h2] at h1
    exact h1
  exact ⟨key 0 _ rfl, key 1 _ rfl, key 2 _ rfl⟩
end
/-- A slice of ints that reads as a list. -/
structure IR (w : World) (a : Option Addr) (b off : Nat) (ks : List Int) : Prop where
  addr : 0 < ks.length → a = some ⟨b, off, none⟩
  cell : ∀ j, j < ks.length → w.cell? ⟨b, off + j, none⟩ = some (.int .i64 (ks.getD j 0))
  lt : 0 < ks.length → b < w.heap.size
  fit : ks.length ≤ 9223372036854775807
theorem IR.mv {w w' : World} {a : Option Addr} {b off g : Nat} {ks : List Int} (h : IR w a b off ks) (hm : Mv g w w') (hf : 0 < ks.length → ¬ Foot w g b) : IR w' a b off ks :=
  ⟨h.addr, fun j hj => (World.cell?_of_block (a := ⟨b, off + j, none⟩) (hm.block b (h.lt (by omega)) (hf (by omega)))).trans (h.cell j hj), fun hp => Nat.lt_of_lt_of_le (h.lt hp) hm.size, h.fit⟩
theorem IR.below {w w' : World} {a : Option Addr} {b off : Nat} {ks : List Int} (h : IR w a b off ks) (hm : Below w.heap.size w w') : IR w' a b off ks :=
  ⟨h.addr, fun j hj => (World.cell?_of_block (a := ⟨b, off + j, none⟩) (hm.block b (h.lt (by omega)))).trans (h.cell j hj), fun hp => Nat.lt_of_lt_of_le (h.lt hp) hm.size, h.fit⟩
theorem ext_take (s : ByteArray) (n : Nat) : (s.extract 0 n).data.toList = s.data.toList.take n := by
  simp [ByteArray.extract, ByteArray.copySlice]
def partB (s : List UInt8) (k : Option Int) : List UInt8 := if k = some 1 then s else if k = some 2 then s.take 24 else []
theorem part_partB (p : Dk.Piece) (k : Option Int) : Dk.part p k = partB p.s k := rfl
theorem own_slice {w : World} {base : Nat} {e : TypeId} {size : Nat} {v : Value} {n : Nat} {xs : List Value} (h : w.ownsRow base e size v n xs) : ∃ pa n c, v = .slice pa n c := by
  rcases h.2 with ⟨rfl, _⟩ | ⟨g, cap, cur, rfl, _⟩
  · exact ⟨_, _, _, rfl⟩
  · exact ⟨_, _, _, rfl⟩
set_option maxHeartbeats 1000000 in
set_option maxRecDepth 100000 in
theorem survivor_any (s : ByteArray) (i : Nat) (hi : i ≤ 1000000000) (a : Option Addr) (b off n cap : Nat) (ks : List Int) (w : World) (h : IR w a b off ks) (hn : ks.length = n) :
    Calls Try.prog 37 #[.string s, .int .i64 i, .slice a n cap] w fun e w' => e = .returned (.string (enc (partB s.data.toList ks[i]?))) ∧ w = w' := by
  have hfit := h.fit
  by_cases hlt : i < n
  · obtain rfl := h.addr (by omega)
    have c := h.cell i (by omega)
    obtain ⟨x, hx⟩ : ∃ x, ks.getD i 0 = x := ⟨_, rfl⟩
    rw [hx] at c
    have hk : ks[i]? = some x := by rw [← hx, List.getD_eq_getElem?_getD, List.getElem?_eq_getElem (by omega)]; rfl
    rw [hk]
    have hin : ¬ n ≤ i := by omega
    have hfit' : n ≤ 9223372036854775807 := by omega
    clear h hx hk hn hfit
    by_cases h1 : x = 1
    · subst h1
      have HR := Lib.hid (show s = enc (partB s.data.toList (some 1)) from rfl)
      go_enter Try.func37, Try.ntmps37
      go_wp2
      go_ret
      exact ⟨ret_str HR.out, rfl⟩
    · by_cases h2 : x = 2
      · subst h2
        by_cases hs : s.size ≤ 24
        · have HR := Lib.hid (show s = enc (partB s.data.toList (some 2)) from by
            have : partB s.data.toList (some 2) = s.data.toList := by
              show s.data.toList.take 24 = _
              rw [List.take_of_length_le (by rw [← Lib.size_eq s]; exact hs)]
            rw [this]; rfl)
          go_enter Try.func37, Try.ntmps37
          go_wp2
          go_ret
          exact ⟨ret_str HR.out, rfl⟩
        · have hs' : 24 < s.size := by omega
          have HR := Lib.hid (show s.extract 0 24 = enc (partB s.data.toList (some 2)) from by
            have e := ext_take s 24
            show _ = enc (s.data.toList.take 24)
            rw [← e]; rfl)
          go_enter Try.func37, Try.ntmps37
          go_wp2
          go_ret
          exact ⟨ret_str HR.out, rfl⟩
      · have HR := Lib.hid (show (⟨#[]⟩ : ByteArray) = enc (partB s.data.toList (some x)) from by unfold partB; simp [h1, h2, enc])
        have e1 : (x == 1) = false := by simpa using h1
        have e2 : (x == 2) = false := by simpa using h2
        go_enter Try.func37, Try.ntmps37
        go_wp2
        go_ret
        exact ⟨ret_str HR.out, rfl⟩
  · have hk : ks[i]? = none := List.getElem?_eq_none (by omega)
    rw [hk]
    have hin : n ≤ i := by omega
    clear h hn hk
    go_enter Try.func37, Try.ntmps37
    go_wp2
    go_ret
    exact ⟨rfl, rfl⟩
set_option maxHeartbeats 1000000 in
set_option maxRecDepth 100000 in
theorem dput_any (g : Nat) (vs : Nat → Value) (q k : Value) (D : Dk.Disk) (f at_ : Nat) (s : ByteArray) (w : World) (h : DiskV w g vs q k D) (hf : f < 12) (hat : at_ + s.size ≤ 16777216) :
    Calls Try.prog 38 #[.pointer (some ⟨g, 0, none⟩), .int .i64 f, .int .i64 at_, .string s] w fun e w' => (∃ v, e = .returned v) ∧ (∃ vs', DiskV w' g vs' q k { D with last := Dk.setLast D.last f (Dk.put (D.last f) at_ s.data.toList) }) ∧ Mv g w w' := by
  have c1 := h.cfile f hf
  have fr := h.blk.free f
  have hlen := h.good.len f hf
  have hsz := Lib.hid (Lib.size_eq s)
  have C := Lib.hid (put_any 0 (vs f) (D.last f) at_ s w.drew (h.drew.file f hf) (Nat.zero_le _) (by omega) (by omega) (by omega))
  have H := Lib.hid h
  have hlt := h.lt
  clear h
  obtain ⟨V, hV⟩ : ∃ V, vs f = V := ⟨_, rfl⟩
  rw [hV] at c1
  have HV := Lib.hid hV
  rw [hV] at C
  clear hV
  go_enter Try.func38, Try.ntmps38
  have key : ∀ (w1 : World) (v1 : Value), w1.ownsRow 0 5 1 v1 (Dk.put (D.last f) at_ s.data.toList).length (bv (Dk.put (D.last f) at_ s.data.toList)) → w.drew.grownBy w1 V.ownBlock → SF w.drew V v1 →
      Hid ((∃ vs', DiskV (w1.setCell ⟨g, f, none⟩ v1) g vs' q k { D with last := Dk.setLast D.last f (Dk.put (D.last f) at_ s.data.toList) }) ∧ Mv g w (w1.setCell ⟨g, f, none⟩ v1)) ∧ w1.frozen? ⟨g, f, none⟩ = false ∧ w1.cell? ⟨g, f, none⟩ = some V ∧ ∃ pa n c, v1 = .slice pa n c := fun w1 v1 ho hg hs => by
    have hd := H.out.drew
    rw [← HV.out] at hg hs
    obtain ⟨a, b⟩ := hd.setFile hf hg ho hs (by rw [Dk.put_length]; have := hsz.out; omega)
    have hgg : w1.heap[g]? = w.heap[g]? := hg.block g H.out.lt (fun e => (H.out.ffile hf e.symm).2 rfl)
    have hb : Blk w1 g _ _ := hgg.trans H.out.blk
    exact ⟨⟨⟨_, a⟩, ⟨b.os, b.tape, b.output, b.size, b.block, b.foot⟩⟩, hb.free f, by rw [← HV.out]; exact hb.cell (dcells_file vs q k D f hf), own_slice ho⟩
  have KEY := Lib.hid key
  clear key
  go_region_with (go_at_call 48; refine C.out.mono ?_; rintro _ w1 ⟨v1, rfl, ho, hg, hs⟩; obtain ⟨HK, fr1, cc1, pa, nn, cc, rfl⟩ := KEY.out w1 v1 ho hg hs; clear ho hg hs)
  all_goals go_end0
  all_goals exact ⟨⟨_, rfl⟩, HK.out.1, HK.out.2⟩
end Go.Proofs.Ytbpodclodflgfaa
