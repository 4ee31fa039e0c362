/-
  Blocks of memory; rows of bytes, of pieces, of ints; appending to a row says which block it is behind it.
-/
import Derived.Test.YtbpodclodflgfaaProg
import Derived.Test.YtbpodclodflgfaaKPut
import Derived.WalkKit
import Derived.WalkSpells
import Derived.WalkLawsBesides
import Derived.Outline
import Derived.OneCell
import Derived.Laws.CopyOwn
import Derived.Laws.Rows
import Derived.Laws.Tables
import Derived.Laws.OwnMore
import Derived.Lib.SmallJoins
import Derived.Lib.AppendStr
import Derived.Lib.AppendZerosOnto
import Derived.Deep.QuietTactic
import Derived.BigQuiet
import Derived.LoopTactic
import Derived.Deep.DeepMust
import Derived.BigRegion
import Derived.BigFrame
import Derived.IntWalk
import Derived.OwnWalk
import Derived.StillTailTactics
namespace Go.Proofs.Ytbpodclodflgfaa
open Go Go.RowKit

theorem ret_int {k : IntKind} {a b : Int} (h : a = b) : Ending.returned (.int k a) = .returned (.int k b) := by rw [h]
theorem ret_bool {a b : Bool} (h : a = b) : Ending.returned (.bool a) = .returned (.bool b) := by rw [h]
theorem ret_str {a b : ByteArray} (h : a = b) : Ending.returned (.string a) = .returned (.string b) := by rw [h]
theorem below_drewN {B : Nat} {a w : World} (h : Below B a w) (n : Nat) : Below B a (w.drewN n) := ⟨h.os, h.tape, h.output, h.size, h.block⟩
theorem below_drew {B : Nat} {a w : World} (h : Below B a w) : Below B a w.drew := ⟨h.os, h.tape, h.output, h.size, h.block⟩
/-- All cells of block g, of which none is frozen. -/
def Blk (w : World) (g : Nat) (t : TypeId) (L : List Value) : Prop := w.heap[g]? = some (.cells L.toArray t (0, 0))
variable {w w' : World} {g k : Nat} {t : TypeId} {L : List Value}
theorem Blk.lt (h : Blk w g t L) : g < w.heap.size := lt_of_block h
theorem Blk.cell (h : Blk w g t L) {j : Nat} {v : Value} (hv : L[j]? = some v) : w.cell? ⟨g, j, none⟩ = some v := by unfold Blk at h; simp [World.cell?, h, hv]
theorem Blk.free (h : Blk w g t L) (j : Nat) : w.frozen? ⟨g, j, none⟩ = false := by unfold Blk at h; simp [World.frozen?, h]
theorem Blk.set (h : Blk w g t L) (j : Nat) (v : Value) : Blk (w.setCell ⟨g, j, none⟩ v) g t (L.set j v) := by
  have := heap_setCell_same w g j _ _ v h
  simpa [Blk] using this
theorem Blk.as {L' : List Value} (h : Blk w g t L) (e : L = L') : Blk w g t L' := e ▸ h
theorem Blk.made (w : World) (c : Array Value) (t : TypeId) : Blk (w.alloc (.cells c t)) w.heap.size t c.toList := by
  show (w.heap.push _)[w.heap.size]? = _
  simp
theorem alloc_size (w : World) (o : Obj) : (w.alloc o).heap.size = w.heap.size + 1 := by
  show (w.heap.push o).size = _
  simp
theorem below_alloc {B : Nat} {a w : World} (h : Below B a w) (hB : B ≤ a.heap.size) (o : Obj) : Below B a (w.alloc o) := Below.alloc h (Nat.le_trans hB h.size) o
/-- Bytes, ints, pieces as cells. -/
def bv (l : List UInt8) : List Value := l.map fun c => .int .u8 (c.toNat : Int)
def iv (l : List Int) : List Value := l.map fun c => .int .i64 c
def enc (l : List UInt8) : ByteArray := ⟨l.toArray⟩
def pc (p : Dk.Piece) : List Value := [.int .i64 (p.f : Int), .int .i64 (p.at_ : Int), .string (enc p.s)]
def pv (q : List Dk.Piece) : List Value := q.flatMap pc
theorem bv_length (l : List UInt8) : (bv l).length = l.length := by simp [bv]
theorem iv_length (l : List Int) : (iv l).length = l.length := by simp [iv]
theorem bv_append (a b : List UInt8) : bv (a ++ b) = bv a ++ bv b := by simp [bv]
theorem bv_cells (l : List UInt8) : ∀ v ∈ bv l, v.oneCell' = true := fun v hv => by
  obtain ⟨b, _, rfl⟩ := List.mem_map.1 hv
  rfl
theorem iv_cells (l : List Int) : ∀ v ∈ iv l, v.oneCell' = true := fun v hv => by
  obtain ⟨b, _, rfl⟩ := List.mem_map.1 hv
  rfl
theorem pv_cells (l : List Dk.Piece) : ∀ v ∈ pv l, v.oneCell' = true := fun v hv => by
  obtain ⟨p, _, h⟩ := List.mem_flatMap.1 hv
  simp [pc] at h
  rcases h with rfl | rfl | rfl <;> rfl
theorem pv_append (a b : List Dk.Piece) : pv (a ++ b) = pv a ++ pv b := by simp [pv]
theorem pv_cons (p : Dk.Piece) (q : List Dk.Piece) : pv (p :: q) = pc p ++ pv q := by simp [pv]
theorem pv_length : ∀ q : List Dk.Piece, (pv q).length = q.length * 3
  | [] => rfl
  | p :: q => by rw [pv_cons, List.length_append, pv_length q]; simp [pc]; omega
theorem pv_at : ∀ (q : List Dk.Piece) (j i : Nat) (p : Dk.Piece) (v : Value), q[j]? = some p → (pc p)[i]? = some v → (pv q)[j * 3 + i]? = some v
  | [], j, i, p, v, h, _ => by simp at h
  | p :: q, 0, i, p', v, h, hv => by
    simp at h; subst h
    rw [pv_cons, Nat.zero_mul, Nat.zero_add, List.getElem?_append_left (List.getElem?_eq_some_iff.1 hv).1]
    exact hv
  | p :: q, j + 1, i, p', v, h, hv => by
    rw [pv_cons, List.getElem?_append_right (by simp [pc]; omega)]
    have := pv_at q j i p' v (by simpa using h) hv
    rw [← this]; congr 1; simp [pc]; omega
theorem pv_take (q : List Dk.Piece) (n : Nat) : (pv q).take (n * 3) = pv (q.take n) := by
  rw [← List.take_append_drop n q, pv_append, List.take_append_drop]
  by_cases h : n ≤ q.length
  · rw [List.take_left' (by rw [pv_length, List.length_take, Nat.min_eq_left h])]
  · rw [List.drop_of_length_le (by omega), List.take_of_length_le (l := q) (by omega)]
    rw [List.take_of_length_le (by rw [List.length_append, pv_length]; simp [pv]; omega)]
    simp [pv]
theorem infoU : (Try.prog.info? 5).map (fun i => (i.zero, i.size, i.bytes)) = some (some (.int .u8 0), 1, 1) := by kernel_rfl
theorem infoI : (Try.prog.info? 3).map (fun i => (i.zero, i.size, i.bytes)) = some (some (.int .i64 0), 1, 8) := by kernel_rfl
theorem infoP : (Try.prog.info? 63).map (fun i => (i.zero, i.size, i.bytes)) = some (some (.agg #[.int .i64 0, .int .i64 0, .string ⟨#[]⟩]), 3, 32) := by kernel_rfl

/-- The value's block is the same, or new. -/
def SF (w : World) (v v' : Value) : Prop := v'.ownBlock = v.ownBlock ∨ ∃ b, v'.ownBlock = some b ∧ w.heap.size ≤ b
theorem SF.refl (w : World) (v : Value) : SF w v v := .inl rfl
theorem SF.trans {w w' : World} {a b c : Value} (h : SF w a b) (k : SF w' b c) (hw : w.heap.size ≤ w'.heap.size) : SF w a c := by
  rcases k with k | ⟨x, k1, k2⟩
  · rcases h with h | ⟨x, h1, h2⟩
    · exact .inl (k.trans h)
    · exact .inr ⟨x, k.trans h1, h2⟩
  · exact .inr ⟨x, k1, Nat.le_trans hw k2⟩
theorem grown_two {w a b : World} {r r' : Option Nat} (h : w.grownBy a r) (k : a.grownBy b r') (hr : r' = r ∨ ∃ x, r' = some x ∧ w.heap.size ≤ x) : w.grownBy b r :=
  ⟨k.os.trans h.os, k.tape.trans h.tape, k.output.trans h.output, Nat.le_trans h.size k.size, fun i hi hn => (k.block i (Nat.lt_of_lt_of_le hi h.size) (by
    rcases hr with rfl | ⟨x, rfl, hx⟩
    · exact hn
    · intro e; injection e with e; omega)).trans (h.block i hi hn)⟩
section
variable (w : World) {base : Nat} {e : TypeId} {size : Nat} {v : Value} {n : Nat} {xs : List Value}
theorem app_same (ty : TypeId) (i : TypeInfo) (z : Value) (bytes : Nat) {ts : TypeId} (ht : Try.prog.underlying ts = some (.slice e)) (hi : Try.prog.info? e = some i) (hz : i.zero = some z)
    (hsize : i.size = size) (hby : i.bytes = bytes) (hzs : z.cells.size = size) (hsz : 0 < size) (hown : w.ownsRow base e size v n xs)
    (a : Addr) (m c : Nat) (news : List Value) (hl : news.length = m * size) (hnews : ∀ j u, news[j]? = some u → w.cell? (a.add j) = some u) (h1 : ∀ u ∈ news, u.oneCell' = true)
    (h63 : n + m ≤ maxLen) (hbytes : (n + m) * bytes ≤ 140737488355328) (hbase : base ≤ w.heap.size) :
    ∃ v' w', (Builtin.append_ #[ts, ts] ty #[v, .slice (some a) m c]).run Try.prog w = .ok v' w' ∧ w'.ownsRow base e size v' (n + m) (xs ++ news) ∧ w.grownBy w' v.ownBlock ∧ SF w v v' := by
  obtain ⟨v', w', hr, h2, h3, _⟩ := run_append_own (P := Try.prog) w base ts ty e i z size bytes ht hi hz hsize hby hzs hsz v n xs hown a m c news hl hnews h1 h63 hbytes hbase
  refine ⟨v', w', hr, h2, h3, ?_⟩
  subst hsize
  subst hby
  rcases hown.2 with ⟨rfl, rfl⟩ | ⟨g, cap, cur, rfl, hbg, hg, hnc, hcm, hcs, htake⟩
  · by_cases hm : m = 0
    · subst hm
      have hn : news = [] := List.eq_nil_of_length_eq_zero (by simpa using hl)
      subst hn
      rcases h2.2 with ⟨rfl, _⟩ | ⟨g', cap', cur', rfl, _⟩
      · exact .inl rfl
      · have : (Builtin.append_ #[ts, ts] ty #[.slice none 0 0, .slice (some a) 0 c]).run Try.prog w = .ok (.slice none 0 0) w := by
          simp [Builtin.append_, run_underlying ht, sizeOf, typeInfo, hi, Builtin.lenOf, Builtin.firstCells, loadCells, loadCellsFrom]
        rw [this] at hr
        injection hr with h _
        cases h
    · have hr2 := run_append_nil (P := Try.prog) w ts ty e i z ht hi hz a m c news hl hnews (by omega) (by simp only [maxLen] at h63; omega) (by have hb := hbytes; simp only [Nat.zero_add] at hb; omega)
      rw [hr2] at hr
      injection hr with h _
      subst h
      exact .inr ⟨_, rfl, Nat.le_refl _⟩
  · by_cases hroom : n + m ≤ cap
    · have hfit : n * i.size + news.length ≤ cur.size := by rw [hl, hcs, ← Nat.add_mul]; exact Nat.mul_le_mul_right _ hroom
      have hr2 := run_append_room (P := Try.prog) w ts ty e i ht hi g n cap cur hg a m c news hl hnews h1 hroom hfit
      rw [hr2] at hr
      injection hr with h _
      subst h
      exact .inl rfl
    · have holds : ∀ j u, xs[j]? = some u → w.cell? ((⟨g, 0, none⟩ : Addr).add j) = some u := hown.cells (g := g) rfl
      have hr2 := run_append_grow (P := Try.prog) w ts ty e i z ht hi hz ⟨g, 0, none⟩ n cap xs hown.1 holds a m c news hl hnews (by omega) (by simp only [maxLen] at h63; omega) (growslice_fits (by omega) hbytes)
      rw [hr2] at hr
      injection hr with h _
      subst h
      exact .inr ⟨_, rfl, Nat.le_refl _⟩
end
end Go.Proofs.Ytbpodclodflgfaa
