/-
  Blocks of memory whose cells are all known; what only writes one of them.
-/
import Derived.Test.YteiabaddmclmlaaDoorDLib
import Derived.OneCell
import Derived.Laws.CopyOwn
import Derived.Laws.Rows
import Derived.Laws.Tables
import Derived.Lib.SmallJoins
import Derived.Deep.QuietTactic
import Derived.BigQuiet
import Derived.LoopTactic
import Derived.Deep.DeepMust
import Derived.BigRegion
import Derived.IntWalk
namespace Go.Proofs.YteiabaddmclmlaaDoor
open Go Go.RowKit

theorem ret_int {k : IntKind} {a b : Int} (h : a = b) : Ending.returned (.int k a) = .returned (.int k b) := by rw [h]
theorem ret_bool {a b : Bool} (h : a = b) : Ending.returned (.bool a) = .returned (.bool b) := by rw [h]
theorem ret_str {a b : ByteArray} (h : a = b) : Ending.returned (.string a) = .returned (.string b) := by rw [h]
theorem below_drewN {B : Nat} {a w : World} (h : Below B a w) (n : Nat) : Below B a (w.drewN n) := ⟨h.os, h.tape, h.output, h.size, h.block⟩
/-- Only block g may have been written, and new blocks made. -/
abbrev Gr (g : Nat) (W w' : World) : Prop := W.grownBy w' (some g)
theorem Gr.refl (g : Nat) (W : World) : Gr g W W := ⟨rfl, rfl, rfl, Nat.le_refl _, fun _ _ _ => rfl⟩
theorem Gr.trans {g : Nat} {a b c : World} (h : Gr g a b) (k : Gr g b c) : Gr g a c :=
  ⟨k.os.trans h.os, k.tape.trans h.tape, k.output.trans h.output, Nat.le_trans h.size k.size, fun i hi hn => (k.block i (Nat.lt_of_lt_of_le hi h.size) hn).trans (h.block i hi hn)⟩
theorem Gr.of_below {g : Nat} {a b : World} (h : Below a.heap.size a b) : Gr g a b := ⟨h.os, h.tape, h.output, h.size, fun i hi _ => h.block i hi⟩
theorem Gr.set {g : Nat} (W : World) (o : Nat) (v : Value) : Gr g W (W.setCell ⟨g, o, none⟩ v) :=
  ⟨rfl, rfl, rfl, by simp [World.setCell], fun i _ hn => Below.heap_setCell _ _ _ _ (fun e => hn (by rw [e]))⟩
theorem Gr.below {g B : Nat} {a b : World} (h : Gr g a b) (hB : B ≤ a.heap.size) (hg : B ≤ g) : Below B a b :=
  ⟨h.os, h.tape, h.output, h.size, fun k hk => h.block k (by omega) (fun e => by injection e; omega)⟩
theorem Gr.drews {g : Nat} {a b : World} (h : Gr g a b) (n : Nat) : Gr g a (b.drewN n) := ⟨h.os, h.tape, h.output, h.size, h.block⟩
theorem Gr.setRow {g : Nat} {a b : World} (h : Gr g a b) (cs : Array Value) : Gr g a (b.setRow g cs) :=
  ⟨h.os, h.tape, h.output, by simpa [World.setRow] using h.size, fun i hi hn => (setRow_other b g i cs (fun e => hn (by rw [e]))).trans (h.block i hi hn)⟩

theorem Gr.below_set {B : Nat} {a b : World} (h : Below B a b) {g o : Nat} (hg : B ≤ g) {v : Value} : Below B a (b.setCell ⟨g, o, none⟩ v) := h.setCell (p := ⟨g, o, none⟩) hg v

/-- All cells of block g, of which none is frozen. -/
def Blk (w : World) (g : Nat) (t : TypeId) (L : List Value) : Prop := w.heap[g]? = some (.cells L.toArray t (0, 0))
variable {w w' : World} {g k : Nat} {t : TypeId} {L : List Value}
theorem Blk.lt (h : Blk w g t L) : g < w.heap.size := lt_of_block h
theorem Blk.cell (h : Blk w g t L) {j : Nat} {v : Value} (hv : L[j]? = some v) : w.cell? ⟨g, j, none⟩ = some v := by unfold Blk at h; simp [World.cell?, h, hv]
theorem Blk.free (h : Blk w g t L) (j : Nat) : w.frozen? ⟨g, j, none⟩ = false := by unfold Blk at h; simp [World.frozen?, h]
theorem Blk.set (h : Blk w g t L) (j : Nat) (v : Value) : Blk (w.setCell ⟨g, j, none⟩ v) g t (L.set j v) := by
  have := heap_setCell_same w g j _ _ v h
  simpa [Blk] using this
theorem Blk.setRow (h : Blk w g t L) (M : List Value) : Blk (w.setRow g M.toArray) g t M := setRow_heap w g _ _ t _ h
theorem Blk.below (h : Blk w g t L) (hb : Below w.heap.size w w') : Blk w' g t L := (hb.block g h.lt).trans h
theorem Blk.other (h : Blk w g t L) (hb : Gr k w w') (hne : g ≠ k) : Blk w' g t L := (hb.block g h.lt (fun e => by injection e; omega)).trans h
theorem Blk.drews (h : Blk w g t L) (n : Nat) : Blk (w.drewN n) g t L := h
theorem alloc_size (w : World) (o : Obj) : (w.alloc o).heap.size = w.heap.size + 1 := by
  show (w.heap.push o).size = _
  simp
theorem below_alloc {B : Nat} {a w : World} (h : Below B a w) (hB : B ≤ a.heap.size) (o : Obj) : Below B a (w.alloc o) := Below.alloc h (Nat.le_trans hB h.size) o
theorem Blk.drew (h : Blk w g t L) : Blk w.drew g t L := h
theorem Blk.as {L' : List Value} (h : Blk w g t L) (e : L = L') : Blk w g t L' := e ▸ h
theorem Gr.drew {g : Nat} {a b : World} (h : Gr g a b) : Gr g a b.drew := ⟨h.os, h.tape, h.output, h.size, h.block⟩
theorem Blk.made (w : World) (c : Array Value) (t : TypeId) : Blk (w.alloc (.cells c t)) w.heap.size t c.toList := by
  show (w.heap.push _)[w.heap.size]? = _
  simp
/-- Bytes, and words, as cells. -/
def bv (l : List UInt8) : List Value := l.map fun c => .int .u8 (c.toNat : Int)
def wv (l : List Dg.W32) : List Value := l.map fun x => .int .u32 (x.toNat : Int)
theorem bv_length (l : List UInt8) : (bv l).length = l.length := by simp [bv]
theorem wv_length (l : List Dg.W32) : (wv l).length = l.length := by simp [wv]
theorem bv_at {l : List UInt8} {j : Nat} (h : j < l.length) : (bv l)[j]? = some (.int .u8 ((l.getD j 0).toNat : Int)) := by
  simp [bv, h]
theorem wv_at {l : List Dg.W32} {j : Nat} (h : j < l.length) : (wv l)[j]? = some (.int .u32 ((l.getD j 0).toNat : Int)) := by
  simp [wv, h]
theorem splice_four : ∀ (off : Nat) (L : List Value) (a b c d : Value), off + 4 ≤ L.length → (((L.set off a).set (off + 1) b).set (off + 2) c).set (off + 3) d = splice L off [a, b, c, d]
  | 0, p :: q :: r :: s :: L, a, b, c, d, _ => by simp [splice]
  | 0, [], _, _, _, _, h => by simp at h
  | 0, [_], _, _, _, _, h => by simp at h
  | 0, [_, _], _, _, _, _, h => by simp at h
  | 0, [_, _, _], _, _, _, _, h => by simp at h
  | off + 1, [], _, _, _, _, h => by simp at h
  | off + 1, p :: L, a, b, c, d, h => by
    have := splice_four off L a b c d (by simp at h; omega)
    exact congrArg (p :: ·) this
theorem bv_splice (l m : List UInt8) (off : Nat) : splice (bv l) off (bv m) = bv (splice l off m) := by
  simp [bv, splice]
end Go.Proofs.YteiabaddmclmlaaDoor
