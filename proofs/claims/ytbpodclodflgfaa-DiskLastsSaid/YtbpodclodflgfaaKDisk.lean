/-
  What of memory is a disk; what a call on it may change.
-/
import Derived.Test.YtbpodclodflgfaaKPutC
namespace Go.Proofs.Ytbpodclodflgfaa
open Go Go.RowKit
namespace Dk
structure Good (D : Disk) : Prop where
  len : ∀ f, f < 12 → (D.last f).length ≤ 16777216
  pcs : ∀ p ∈ D.queue, p.f < 12 ∧ p.s ≠ [] ∧ p.at_ + p.s.length ≤ 16777216
  q : D.queue.length ≤ 1000000
  lost0 : 0 ≤ D.lost
  lost1 : D.lost ≤ 9223372036854775807
  armed0 : 0 ≤ D.armed
  armed1 : D.armed ≤ 9223372036854775807
end Dk
def dcells (vs : Nat → Value) (q k : Value) (D : Dk.Disk) : List Value :=
  [vs 0, vs 1, vs 2, vs 3, vs 4, vs 5, vs 6, vs 7, vs 8, vs 9, vs 10, vs 11, q, .bool D.down, .int .i64 D.lost, .int .i64 D.armed, k]
def upd (vs : Nat → Value) (f : Nat) (v : Value) : Nat → Value := fun i => if i = f then v else vs i
theorem dcells_file (vs : Nat → Value) (q k : Value) (D : Dk.Disk) (f : Nat) (hf : f < 12) : (dcells vs q k D)[f]? = some (vs f) := by
  match f, hf with
  | 0, _ | 1, _ | 2, _ | 3, _ | 4, _ | 5, _ | 6, _ | 7, _ | 8, _ | 9, _ | 10, _ | 11, _ => rfl
theorem dcells_upd (vs : Nat → Value) (q k : Value) (D : Dk.Disk) (f : Nat) (hf : f < 12) (v : Value) (l : Nat → Dk.B) : (dcells vs q k D).set f v = dcells (upd vs f v) q k { D with last := l } := by
  match f, hf with
  | 0, _ | 1, _ | 2, _ | 3, _ | 4, _ | 5, _ | 6, _ | 7, _ | 8, _ | 9, _ | 10, _ | 11, _ => rfl
/-- A row's facts speak of its block alone. -/
theorem own_same {w w' : World} {base : Nat} {e : TypeId} {size : Nat} {v : Value} {n : Nat} {xs : List Value} (h : w.ownsRow base e size v n xs) (he : ∀ b, v.ownBlock = some b → w'.heap[b]? = w.heap[b]?) : w'.ownsRow base e size v n xs := by
  refine ⟨h.1, ?_⟩
  rcases h.2 with hn | ⟨g, cap, cur, rfl, hb, hg, rest⟩
  · exact .inl hn
  · exact .inr ⟨g, cap, cur, rfl, hb, (he g rfl).trans hg, rest⟩
theorem own_base {w : World} {base : Nat} {e : TypeId} {size : Nat} {v : Value} {n : Nat} {xs : List Value} (h : w.ownsRow base e size v n xs) : w.ownsRow 0 e size v n xs := by
  refine ⟨h.1, ?_⟩
  rcases h.2 with hn | ⟨g, cap, cur, rfl, hb, rest⟩
  · exact .inl hn
  · exact .inr ⟨g, cap, cur, rfl, Nat.zero_le _, rest⟩
theorem own_ne {w : World} {base : Nat} {e t : TypeId} {size : Nat} {v : Value} {n g : Nat} {xs L : List Value} (h : w.ownsRow base e size v n xs) (hb : Blk w g t L) (ht : e ≠ t) : v.ownBlock ≠ some g := by
  intro he
  rcases h.2 with ⟨rfl, _⟩ | ⟨g', cap, cur, rfl, _, hg, _⟩
  · cases he
  · injection he with he
    have he : g' = g := he
    subst he
    unfold Blk at hb
    rw [hg] at hb
    injection hb with hb
    injection hb with _ h2 _
    exact ht h2
theorem own_apart {w : World} {base base' : Nat} {e t : TypeId} {size size' : Nat} {v v' : Value} {n n' : Nat} {xs xs' : List Value} (h : w.ownsRow base e size v n xs) (h' : w.ownsRow base' t size' v' n' xs') (ht : e ≠ t) : v.ownBlock = none ∨ v.ownBlock ≠ v'.ownBlock := by
  rcases h'.2 with ⟨rfl, _⟩ | ⟨g', cap, cur, rfl, _, hg, _⟩
  · cases hv : v.ownBlock with
    | none => exact .inl rfl
    | some x => exact .inr (by simp [Value.ownBlock])
  · refine .inr ?_
    exact own_ne (L := cur.toList) h (by unfold Blk; simpa using hg) ht
theorem own_lt {w : World} {base : Nat} {e : TypeId} {size : Nat} {v : Value} {n b : Nat} {xs : List Value} (h : w.ownsRow base e size v n xs) (hb : v.ownBlock = some b) : b < w.heap.size := (h.lt b hb).2
/-- Block g, a disk: its twelve files, the pieces, the marks, what is kept. -/
structure DiskV (w : World) (g : Nat) (vs : Nat → Value) (q k : Value) (D : Dk.Disk) : Prop where
  blk : Blk w g 56 (dcells vs q k D)
  file : ∀ f, f < 12 → w.ownsRow 0 5 1 (vs f) (D.last f).length (bv (D.last f))
  pend : w.ownsRow 0 63 3 q D.queue.length (pv D.queue)
  keep : D.armed ≠ 0 → w.ownsRow 0 3 1 k D.keep.length (iv D.keep)
  apart : ∀ f f', f < 12 → f' < 12 → f ≠ f' → (vs f).ownBlock = none ∨ (vs f).ownBlock ≠ (vs f').ownBlock
  good : Dk.Good D
  kone : k.oneCell' = true
/-- The blocks that block g, as a disk, may write. -/
def Foot (w : World) (g b : Nat) : Prop := b = g ∨ ∃ i v, i < 13 ∧ w.cell? ⟨g, i, none⟩ = some v ∧ v.ownBlock = some b
/-- Only the disk's own blocks have been written, and new ones made; what it owns now it owned, or is new. -/
structure Mv (g : Nat) (w w' : World) : Prop where
  os : w'.os = w.os
  tape : w'.tape = w.tape
  output : w'.output = w.output
  size : w.heap.size ≤ w'.heap.size
  block : ∀ b, b < w.heap.size → ¬ Foot w g b → w'.heap[b]? = w.heap[b]?
  foot : ∀ b, Foot w' g b → Foot w g b ∨ w.heap.size ≤ b
theorem Mv.refl (g : Nat) (w : World) : Mv g w w := ⟨rfl, rfl, rfl, Nat.le_refl _, fun _ _ _ => rfl, fun _ h => .inl h⟩
theorem Mv.trans {g : Nat} {a b c : World} (h : Mv g a b) (k : Mv g b c) : Mv g a c :=
  ⟨k.os.trans h.os, k.tape.trans h.tape, k.output.trans h.output, Nat.le_trans h.size k.size,
   fun x hx hn => (k.block x (Nat.lt_of_lt_of_le hx h.size) (fun hf => by
    rcases h.foot x hf with h1 | h1
    · exact hn h1
    · omega)).trans (h.block x hx hn),
   fun x hx => by
    rcases k.foot x hx with h1 | h1
    · exact h.foot x h1
    · have := h.size; exact .inr (by omega)⟩
theorem foot_same {w w' : World} {g b : Nat} (he : w'.heap[g]? = w.heap[g]?) (h : Foot w' g b) : Foot w g b := by
  rcases h with h | ⟨i, v, hi, hc, hv⟩
  · exact .inl h
  · exact .inr ⟨i, v, hi, by rw [← hc]; exact (World.cell?_of_block (a := ⟨g, i, none⟩) he).symm, hv⟩
theorem Mv.of_below {g : Nat} {w w' : World} (h : Below w.heap.size w w') (hg : g < w.heap.size) : Mv g w w' :=
  ⟨h.os, h.tape, h.output, h.size, fun b hb _ => h.block b hb, fun _ hf => .inl (foot_same (h.block g hg) hf)⟩
theorem Mv.drews {g : Nat} {w w' : World} (h : Mv g w w') (n : Nat) : Mv g w (w'.drewN n) := ⟨h.os, h.tape, h.output, h.size, h.block, h.foot⟩
theorem Mv.drew {g : Nat} {w w' : World} (h : Mv g w w') : Mv g w w'.drew := ⟨h.os, h.tape, h.output, h.size, h.block, h.foot⟩
theorem Mv.of_grown {g : Nat} {w w' : World} {r : Option Nat} (h : w.grownBy w' r) (hr : ∀ x, r = some x → Foot w g x ∧ x ≠ g) (hg : g < w.heap.size) : Mv g w w' := by
  refine ⟨h.os, h.tape, h.output, h.size, fun b hb hn => h.block b hb (fun e => hn (hr b e.symm).1), fun x hx => .inl (foot_same (h.block g hg (fun e => (hr g e.symm).2 rfl)) hx)⟩
theorem set_size (w : World) (a : Addr) (v : Value) : (w.setCell a v).heap.size = w.heap.size := by simp [World.setCell]
theorem set_other (w : World) (g i b : Nat) (v : Value) (h : b ≠ g) : (w.setCell ⟨g, i, none⟩ v).heap[b]? = w.heap[b]? := Below.heap_setCell _ _ _ _ (fun e => h e)
theorem Mv.store {g : Nat} {w w' : World} (h : Mv g w w') {t : TypeId} {L : List Value} (hb : Blk w' g t L) (i : Nat) (v : Value) (hv : ∀ x, v.ownBlock = some x → 13 ≤ i ∨ Foot w g x ∨ w.heap.size ≤ x) : Mv g w (w'.setCell ⟨g, i, none⟩ v) := by
  refine ⟨h.os, h.tape, h.output, by rw [set_size]; exact h.size, fun b hbs hn => (set_other w' g i b v (fun e => hn (.inl e))).trans (h.block b hbs hn), fun x hx => ?_⟩
  rcases hx with rfl | ⟨j, u, hj, hc, hu⟩
  · exact .inl (.inl rfl)
  · have hB := hb.set i v
    by_cases hij : i = j
    · subst hij
      by_cases hl : i < L.length
      · have h2 := hB.cell (j := i) (v := v) (by simp [hl])
        rw [h2] at hc
        injection hc with hc
        subst hc
        rcases hv x hu with h | h | h
        · omega
        · exact .inl h
        · exact .inr h
      · exfalso
        unfold Blk at hB
        simp [World.cell?, hB, hl] at hc
    · refine h.foot x (.inr ⟨j, u, hj, ?_, hu⟩)
      unfold Blk at hB hb
      simp [World.cell?, hB, hij] at hc
      simp [World.cell?, hb, hc]
theorem Mv.set {g : Nat} {w : World} {t : TypeId} {L : List Value} (hb : Blk w g t L) (i : Nat) (v : Value) (hv : ∀ x, v.ownBlock = some x → 13 ≤ i ∨ Foot w g x ∨ w.heap.size ≤ x) : Mv g w (w.setCell ⟨g, i, none⟩ v) := (Mv.refl g w).store hb i v hv
variable {w w' : World} {g : Nat} {vs : Nat → Value} {q k : Value} {D : Dk.Disk}
theorem DiskV.lt (h : DiskV w g vs q k D) : g < w.heap.size := h.blk.lt
theorem DiskV.cfile (h : DiskV w g vs q k D) (f : Nat) (hf : f < 12) : w.cell? ⟨g, f, none⟩ = some (vs f) := h.blk.cell (dcells_file vs q k D f hf)
theorem DiskV.cq (h : DiskV w g vs q k D) : w.cell? ⟨g, 12, none⟩ = some q := h.blk.cell rfl
theorem DiskV.cdown (h : DiskV w g vs q k D) : w.cell? ⟨g, 13, none⟩ = some (.bool D.down) := h.blk.cell rfl
theorem DiskV.clost (h : DiskV w g vs q k D) : w.cell? ⟨g, 14, none⟩ = some (.int .i64 D.lost) := h.blk.cell rfl
theorem DiskV.carmed (h : DiskV w g vs q k D) : w.cell? ⟨g, 15, none⟩ = some (.int .i64 D.armed) := h.blk.cell rfl
theorem DiskV.ckeep (h : DiskV w g vs q k D) : w.cell? ⟨g, 16, none⟩ = some k := h.blk.cell rfl
theorem DiskV.ffile (h : DiskV w g vs q k D) {f x : Nat} (hf : f < 12) (hx : (vs f).ownBlock = some x) : Foot w g x ∧ x ≠ g :=
  ⟨.inr ⟨f, vs f, by omega, h.cfile f hf, hx⟩, fun e => own_ne (h.file f hf) h.blk (by decide) (by rw [← e]; exact hx)⟩
theorem DiskV.fq (h : DiskV w g vs q k D) {x : Nat} (hx : q.ownBlock = some x) : Foot w g x ∧ x ≠ g :=
  ⟨.inr ⟨12, q, by omega, h.cq, hx⟩, fun e => own_ne h.pend h.blk (by decide) (by rw [← e]; exact hx)⟩
/-- What the disk may write bears one of three types. -/
theorem DiskV.types (h : DiskV w g vs q k D) {b : Nat} (hf : Foot w g b) : ∃ cs t, w.heap[b]? = some (.cells cs t (0, 0)) ∧ (t = 56 ∨ t = 5 ∨ t = 63) := by
  rcases hf with rfl | ⟨i, v, hi, hc, hv⟩
  · exact ⟨_, _, h.blk, .inl rfl⟩
  · by_cases h12 : i = 12
    · subst h12
      rw [h.cq] at hc
      injection hc with hc
      subst hc
      rcases h.pend.2 with ⟨rfl, _⟩ | ⟨g', cap, cur, rfl, _, hg, _⟩
      · cases hv
      · injection hv with hv
        change g' = b at hv
        subst hv
        exact ⟨_, _, hg, .inr (.inr rfl)⟩
    · have hi' : i < 12 := by omega
      rw [h.cfile i hi'] at hc
      injection hc with hc
      subst hc
      rcases (h.file i hi').2 with ⟨h0, _⟩ | ⟨g', cap, cur, h0, _, hg, _⟩
      · rw [h0] at hv; cases hv
      · rw [h0] at hv
        injection hv with hv
        change g' = b at hv
        subst hv
        exact ⟨_, _, hg, .inr (.inl rfl)⟩
theorem DiskV.not_foot (h : DiskV w g vs q k D) {b : Nat} {cs : Array Value} {t : TypeId} {z : Nat × Nat} (hb : w.heap[b]? = some (.cells cs t z)) (h1 : t ≠ 56) (h2 : t ≠ 5) (h3 : t ≠ 63) : ¬ Foot w g b := fun hf => by
  obtain ⟨cs', t', h4, h5⟩ := h.types hf
  rw [hb] at h4
  injection h4 with h4
  injection h4 with _ h6 _
  subst h6
  rcases h5 with rfl | rfl | rfl
  · exact h1 rfl
  · exact h2 rfl
  · exact h3 rfl
theorem DiskV.not_keep (h : DiskV w g vs q k D) (ha : D.armed ≠ 0) {b : Nat} (hb : k.ownBlock = some b) : ¬ Foot w g b := by
  rcases (h.keep ha).2 with ⟨rfl, _⟩ | ⟨g', cap, cur, rfl, _, hg, _⟩
  · cases hb
  · injection hb with hb
    change g' = b at hb
    subst hb
    exact h.not_foot hg (by decide) (by decide) (by decide)
/-- A world in which the disk's blocks are as they were. -/
theorem DiskV.frame (h : DiskV w g vs q k D) (hs : ∀ b, Foot w g b → w'.heap[b]? = w.heap[b]?) (hk : ∀ b, D.armed ≠ 0 → k.ownBlock = some b → w'.heap[b]? = w.heap[b]?) : DiskV w' g vs q k D :=
  ⟨(hs g (.inl rfl)).trans h.blk, fun f hf => own_same (h.file f hf) fun b hb => hs b (h.ffile hf hb).1, own_same h.pend fun b hb => hs b (h.fq hb).1, fun ha => own_same (h.keep ha) fun b hb => hk b ha hb, h.apart, h.good, h.kone⟩
theorem DiskV.foot_lt (h : DiskV w g vs q k D) {b : Nat} (hf : Foot w g b) : b < w.heap.size := by
  obtain ⟨cs, t, h1, _⟩ := h.types hf
  exact lt_of_block h1
theorem DiskV.keep_lt (h : DiskV w g vs q k D) {b : Nat} (ha : D.armed ≠ 0) (hb : k.ownBlock = some b) : b < w.heap.size := own_lt (h.keep ha) hb
theorem DiskV.below (h : DiskV w g vs q k D) (hb : Below w.heap.size w w') : DiskV w' g vs q k D := h.frame (fun b hf => hb.block b (h.foot_lt hf)) (fun b ha hk => hb.block b (h.keep_lt ha hk))
theorem DiskV.drews (h : DiskV w g vs q k D) (n : Nat) : DiskV (w.drewN n) g vs q k D := ⟨h.blk, h.file, h.pend, h.keep, h.apart, h.good, h.kone⟩
theorem DiskV.drew (h : DiskV w g vs q k D) : DiskV w.drew g vs q k D := ⟨h.blk, h.file, h.pend, h.keep, h.apart, h.good, h.kone⟩
/-- The marks. -/
theorem DiskV.mark (h : DiskV w g vs q k D) (i : Nat) (v : Value) (D' : Dk.Disk) (q' k' : Value) (hl : D'.last = D.last) (hq : D'.queue = D.queue) (hqq : q' = q) (hk : D'.armed ≠ 0 → (w.setCell ⟨g, i, none⟩ v).ownsRow 0 3 1 k' D'.keep.length (iv D'.keep)) (hset : (dcells vs q k D).set i v = dcells vs q' k' D') (hg : Dk.Good D') (hk1 : k'.oneCell' = true) : DiskV (w.setCell ⟨g, i, none⟩ v) g vs q' k' D' := by
  subst hqq
  refine ⟨by rw [← hset]; exact h.blk.set i v, fun f hf => ?_, ?_, hk, h.apart, hg, hk1⟩
  · rw [hl]
    exact own_same (h.file f hf) fun b hb => set_other w g i b v (h.ffile hf hb).2
  · rw [hq]
    exact own_same h.pend fun b hb => set_other w g i b v (h.fq hb).2
theorem DiskV.keep_set (h : DiskV w g vs q k D) (ha : D.armed ≠ 0) (i : Nat) (v : Value) : (w.setCell ⟨g, i, none⟩ v).ownsRow 0 3 1 k D.keep.length (iv D.keep) :=
  own_same (h.keep ha) fun b hb => set_other w g i b v (fun e => h.not_keep ha hb (.inl e))
/-- A file's row has been rewritten, and its value stored. -/
theorem DiskV.setFile (h : DiskV w g vs q k D) {f : Nat} (hf : f < 12) {v' : Value} {s : Dk.B} (hg : w.grownBy w' (vs f).ownBlock) (ho : w'.ownsRow 0 5 1 v' s.length (bv s)) (hs : SF w (vs f) v') (hl : s.length ≤ 16777216) :
    DiskV (w'.setCell ⟨g, f, none⟩ v') g (upd vs f v') q k { D with last := Dk.setLast D.last f s } ∧ Mv g w (w'.setCell ⟨g, f, none⟩ v') := by
  have hgg : w'.heap[g]? = w.heap[g]? := hg.block g h.lt (fun e => (h.ffile hf e.symm).2 rfl)
  have hblk : Blk w' g _ _ := hgg.trans h.blk
  have hne : v'.ownBlock ≠ some g := own_ne ho hblk (by decide)
  have hsame : ∀ b, b < w.heap.size → (vs f).ownBlock ≠ some b → b ≠ g → (w'.setCell ⟨g, f, none⟩ v').heap[b]? = w.heap[b]? := fun b hb hn hbg => by
    rw [set_other w' g f b v' hbg]
    exact hg.block b hb (fun e => hn e.symm)
  have hM1 : Mv g w w' := Mv.of_grown hg (fun x hx => h.ffile hf hx) h.lt
  refine ⟨⟨by rw [← dcells_upd vs q k D f hf v' _]; exact hblk.set f v', fun i hi => ?_, ?_, fun ha => ?_, fun i j hi hj hij => ?_, ?_, h.kone⟩, hM1.store hblk f v' fun x hx => ?_⟩
  · show World.ownsRow _ _ _ _ (upd vs f v' i) (Dk.setLast D.last f s i).length (bv (Dk.setLast D.last f s i))
    unfold upd Dk.setLast
    by_cases hif : i = f
    · rw [if_pos hif, if_pos hif]
      exact own_same ho fun b hb => set_other w' g f b v' (fun e => hne (by rw [← e]; exact hb))
    · rw [if_neg hif, if_neg hif]
      refine own_same (h.file i hi) fun b hb => hsame b (own_lt (h.file i hi) hb) (fun e => ?_) (h.ffile hi hb).2
      rcases h.apart i f hi hf hif with h1 | h1
      · rw [h1] at hb; cases hb
      · exact h1 (hb.trans e.symm)
  · refine own_same h.pend fun b hb => hsame b (own_lt h.pend hb) (fun e => ?_) (h.fq hb).2
    rcases own_apart h.pend (h.file f hf) (by decide) with h1 | h1
    · rw [h1] at hb; cases hb
    · exact h1 (hb.trans e.symm)
  · refine own_same (h.keep ha) fun b hb => hsame b (h.keep_lt ha hb) (fun e => h.not_keep ha hb (h.ffile hf e).1) (fun e => h.not_keep ha hb (.inl e))
  · have key : ∀ j, j < 12 → j ≠ f → v'.ownBlock = none ∨ v'.ownBlock ≠ (vs j).ownBlock := fun j hj hjf => by
      rcases hs with h1 | ⟨b, h1, h2⟩
      · rw [h1]; exact h.apart f j hf hj (fun e => hjf e.symm)
      · refine .inr fun e => ?_
        rw [h1] at e
        have := own_lt (h.file j hj) e.symm
        omega
    unfold upd
    by_cases hif : i = f
    · rw [if_pos hif, if_neg (by omega)]
      exact key j hj (by omega)
    · rw [if_neg hif]
      by_cases hjf : j = f
      · rw [if_pos hjf]
        rcases key i hi hif with h1 | h1
        · cases hv : (vs i).ownBlock with
          | none => exact .inl rfl
          | some x => exact .inr (by rw [h1]; simp)
        · exact .inr fun e => h1 e.symm
      · rw [if_neg hjf]
        exact h.apart i j hi hj hij
  · refine ⟨fun i hi => ?_, h.good.pcs, h.good.q, h.good.lost0, h.good.lost1, h.good.armed0, h.good.armed1⟩
    show (Dk.setLast D.last f s i).length ≤ _
    unfold Dk.setLast
    split
    · exact hl
    · exact h.good.len i hi
  · rcases hs with h1 | ⟨b, h1, h2⟩
    · rw [h1] at hx
      exact .inr (.inl (h.ffile hf hx).1)
    · rw [h1] at hx
      injection hx with hx
      exact .inr (.inr (by omega))
end Go.Proofs.Ytbpodclodflgfaa
