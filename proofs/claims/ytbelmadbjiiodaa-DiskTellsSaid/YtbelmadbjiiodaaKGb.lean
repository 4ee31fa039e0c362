/-
  Blocks of memory; rows of bytes, of pieces, of ints; appending to a row says which block it is behind it.
  append of a string and of zeros to a row of bytes, with the block that it has behind it; put.
  put of the program: a string into a row of bytes.
  put of the program: the walk.
  What of memory is a disk; what a call on it may change.
-/
import Derived.Test.YtbelmadbjiiodaaProg
import Derived.Test.YtbelmadbjiiodaaKGa
import Derived.WalkKit
import Derived.WalkSpells
import Derived.WalkLawsBesides
import Derived.Outline
import Derived.OneCell
import Derived.Laws.CopyOwn
import Derived.Laws.Rows
import Derived.Laws.Tables
import Derived.Laws.OwnMore
import Derived.Lib.SmallJoins
import Derived.Lib.AppendStr
import Derived.Lib.AppendZerosOnto
import Derived.Deep.QuietTactic
import Derived.BigQuiet
import Derived.LoopTactic
import Derived.Deep.DeepMust
import Derived.BigRegion
import Derived.BigFrame
import Derived.IntWalk
import Derived.OwnWalk
import Derived.StillTailTactics
import Derived.Lib.IndexBytes
namespace Go.Proofs.Ytbelmadbjiiodaa
open Go Go.RowKit

theorem ret_int {k : IntKind} {a b : Int} (h : a = b) : Ending.returned (.int k a) = .returned (.int k b) := by rw [h]
theorem ret_bool {a b : Bool} (h : a = b) : Ending.returned (.bool a) = .returned (.bool b) := by rw [h]
theorem ret_str {a b : ByteArray} (h : a = b) : Ending.returned (.string a) = .returned (.string b) := by rw [h]
theorem below_drewN {B : Nat} {a w : World} (h : Below B a w) (n : Nat) : Below B a (w.drewN n) := ⟨h.os, h.tape, h.output, h.size, h.block⟩
theorem below_drew {B : Nat} {a w : World} (h : Below B a w) : Below B a w.drew := ⟨h.os, h.tape, h.output, h.size, h.block⟩
/-- All cells of block g, of which none is frozen. -/
def Blk (w : World) (g : Nat) (t : TypeId) (L : List Value) : Prop := w.heap[g]? = some (.cells L.toArray t (0, 0))
variable {w w' : World} {g k : Nat} {t : TypeId} {L : List Value}
theorem Blk.lt (h : Blk w g t L) : g < w.heap.size := lt_of_block h
theorem Blk.cell (h : Blk w g t L) {j : Nat} {v : Value} (hv : L[j]? = some v) : w.cell? ⟨g, j, none⟩ = some v := by unfold Blk at h; simp [World.cell?, h, hv]
theorem Blk.free (h : Blk w g t L) (j : Nat) : w.frozen? ⟨g, j, none⟩ = false := by unfold Blk at h; simp [World.frozen?, h]
theorem Blk.set (h : Blk w g t L) (j : Nat) (v : Value) : Blk (w.setCell ⟨g, j, none⟩ v) g t (L.set j v) := by
  have := heap_setCell_same w g j _ _ v h
  simpa [Blk] using this
theorem Blk.as {L' : List Value} (h : Blk w g t L) (e : L = L') : Blk w g t L' := e ▸ h
theorem Blk.made (w : World) (c : Array Value) (t : TypeId) : Blk (w.alloc (.cells c t)) w.heap.size t c.toList := by
  show (w.heap.push _)[w.heap.size]? = _
  simp
theorem alloc_size (w : World) (o : Obj) : (w.alloc o).heap.size = w.heap.size + 1 := by
  show (w.heap.push o).size = _
  simp
theorem below_alloc {B : Nat} {a w : World} (h : Below B a w) (hB : B ≤ a.heap.size) (o : Obj) : Below B a (w.alloc o) := Below.alloc h (Nat.le_trans hB h.size) o
/-- Bytes, ints, pieces as cells. -/
def bv (l : List UInt8) : List Value := l.map fun c => .int .u8 (c.toNat : Int)
def iv (l : List Int) : List Value := l.map fun c => .int .i64 c
def enc (l : List UInt8) : ByteArray := ⟨l.toArray⟩
def pc (p : Dk.Piece) : List Value := [.int .i64 (p.f : Int), .int .i64 (p.at_ : Int), .string (enc p.s)]
def pv (q : List Dk.Piece) : List Value := q.flatMap pc
theorem bv_length (l : List UInt8) : (bv l).length = l.length := by simp [bv]
theorem iv_length (l : List Int) : (iv l).length = l.length := by simp [iv]
theorem bv_append (a b : List UInt8) : bv (a ++ b) = bv a ++ bv b := by simp [bv]
theorem bv_cells (l : List UInt8) : ∀ v ∈ bv l, v.oneCell' = true := fun v hv => by
  obtain ⟨b, _, rfl⟩ := List.mem_map.1 hv
  rfl
theorem iv_cells (l : List Int) : ∀ v ∈ iv l, v.oneCell' = true := fun v hv => by
  obtain ⟨b, _, rfl⟩ := List.mem_map.1 hv
  rfl
theorem pv_cells (l : List Dk.Piece) : ∀ v ∈ pv l, v.oneCell' = true := fun v hv => by
  obtain ⟨p, _, h⟩ := List.mem_flatMap.1 hv
  simp [pc] at h
  rcases h with rfl | rfl | rfl <;> rfl
theorem pv_append (a b : List Dk.Piece) : pv (a ++ b) = pv a ++ pv b := by simp [pv]
theorem pv_cons (p : Dk.Piece) (q : List Dk.Piece) : pv (p :: q) = pc p ++ pv q := by simp [pv]
theorem pv_length : ∀ q : List Dk.Piece, (pv q).length = q.length * 3
  | [] => rfl
  | p :: q => by rw [pv_cons, List.length_append, pv_length q]; simp [pc]; omega
theorem pv_at : ∀ (q : List Dk.Piece) (j i : Nat) (p : Dk.Piece) (v : Value), q[j]? = some p → (pc p)[i]? = some v → (pv q)[j * 3 + i]? = some v
  | [], j, i, p, v, h, _ => by simp at h
  | p :: q, 0, i, p', v, h, hv => by
    simp at h; subst h
    rw [pv_cons, Nat.zero_mul, Nat.zero_add, List.getElem?_append_left (List.getElem?_eq_some_iff.1 hv).1]
    exact hv
  | p :: q, j + 1, i, p', v, h, hv => by
    rw [pv_cons, List.getElem?_append_right (by simp [pc]; omega)]
    have := pv_at q j i p' v (by simpa using h) hv
    rw [← this]; congr 1; simp [pc]; omega
theorem pv_take (q : List Dk.Piece) (n : Nat) : (pv q).take (n * 3) = pv (q.take n) := by
  rw [← List.take_append_drop n q, pv_append, List.take_append_drop]
  by_cases h : n ≤ q.length
  · rw [List.take_left' (by rw [pv_length, List.length_take, Nat.min_eq_left h])]
  · rw [List.drop_of_length_le (by omega), List.take_of_length_le (l := q) (by omega)]
    rw [List.take_of_length_le (by rw [List.length_append, pv_length]; simp [pv]; omega)]
    simp [pv]
theorem infoU : (Try.prog.info? 5).map (fun i => (i.zero, i.size, i.bytes)) = some (some (.int .u8 0), 1, 1) := by kernel_rfl
theorem infoI : (Try.prog.info? 3).map (fun i => (i.zero, i.size, i.bytes)) = some (some (.int .i64 0), 1, 8) := by kernel_rfl
theorem infoP : (Try.prog.info? 57).map (fun i => (i.zero, i.size, i.bytes)) = some (some (.agg #[.int .i64 0, .int .i64 0, .string ⟨#[]⟩]), 3, 32) := by kernel_rfl

/-- The value's block is the same, or new. -/
def SF (w : World) (v v' : Value) : Prop := v'.ownBlock = v.ownBlock ∨ ∃ b, v'.ownBlock = some b ∧ w.heap.size ≤ b
theorem SF.refl (w : World) (v : Value) : SF w v v := .inl rfl
theorem SF.trans {w w' : World} {a b c : Value} (h : SF w a b) (k : SF w' b c) (hw : w.heap.size ≤ w'.heap.size) : SF w a c := by
  rcases k with k | ⟨x, k1, k2⟩
  · rcases h with h | ⟨x, h1, h2⟩
    · exact .inl (k.trans h)
    · exact .inr ⟨x, k.trans h1, h2⟩
  · exact .inr ⟨x, k1, Nat.le_trans hw k2⟩
theorem grown_two {w a b : World} {r r' : Option Nat} (h : w.grownBy a r) (k : a.grownBy b r') (hr : r' = r ∨ ∃ x, r' = some x ∧ w.heap.size ≤ x) : w.grownBy b r :=
  ⟨k.os.trans h.os, k.tape.trans h.tape, k.output.trans h.output, Nat.le_trans h.size k.size, fun i hi hn => (k.block i (Nat.lt_of_lt_of_le hi h.size) (by
    rcases hr with rfl | ⟨x, rfl, hx⟩
    · exact hn
    · intro e; injection e with e; omega)).trans (h.block i hi hn)⟩
section
variable (w : World) {base : Nat} {e : TypeId} {size : Nat} {v : Value} {n : Nat} {xs : List Value}
theorem app_same (ty : TypeId) (i : TypeInfo) (z : Value) (bytes : Nat) {ts : TypeId} (ht : Try.prog.underlying ts = some (.slice e)) (hi : Try.prog.info? e = some i) (hz : i.zero = some z)
    (hsize : i.size = size) (hby : i.bytes = bytes) (hzs : z.cells.size = size) (hsz : 0 < size) (hown : w.ownsRow base e size v n xs)
    (a : Addr) (m c : Nat) (news : List Value) (hl : news.length = m * size) (hnews : ∀ j u, news[j]? = some u → w.cell? (a.add j) = some u) (h1 : ∀ u ∈ news, u.oneCell' = true)
    (h63 : n + m ≤ maxLen) (hbytes : (n + m) * bytes ≤ 140737488355328) (hbase : base ≤ w.heap.size) :
    ∃ v' w', (Builtin.append_ #[ts, ts] ty #[v, .slice (some a) m c]).run Try.prog w = .ok v' w' ∧ w'.ownsRow base e size v' (n + m) (xs ++ news) ∧ w.grownBy w' v.ownBlock ∧ SF w v v' := by
  obtain ⟨v', w', hr, h2, h3, _⟩ := run_append_own (P := Try.prog) w base ts ty e i z size bytes ht hi hz hsize hby hzs hsz v n xs hown a m c news hl hnews h1 h63 hbytes hbase
  refine ⟨v', w', hr, h2, h3, ?_⟩
  subst hsize
  subst hby
  rcases hown.2 with ⟨rfl, rfl⟩ | ⟨g, cap, cur, rfl, hbg, hg, hnc, hcm, hcs, htake⟩
  · by_cases hm : m = 0
    · subst hm
      have hn : news = [] := List.eq_nil_of_length_eq_zero (by simpa using hl)
      subst hn
      rcases h2.2 with ⟨rfl, _⟩ | ⟨g', cap', cur', rfl, _⟩
      · exact .inl rfl
      · have : (Builtin.append_ #[ts, ts] ty #[.slice none 0 0, .slice (some a) 0 c]).run Try.prog w = .ok (.slice none 0 0) w := by
          simp [Builtin.append_, run_underlying ht, sizeOf, typeInfo, hi, Builtin.lenOf, Builtin.firstCells, loadCells, loadCellsFrom]
        rw [this] at hr
        injection hr with h _
        cases h
    · have hr2 := run_append_nil (P := Try.prog) w ts ty e i z ht hi hz a m c news hl hnews (by omega) (by simp only [maxLen] at h63; omega) (by have hb := hbytes; simp only [Nat.zero_add] at hb; omega)
      rw [hr2] at hr
      injection hr with h _
      subst h
      exact .inr ⟨_, rfl, Nat.le_refl _⟩
  · by_cases hroom : n + m ≤ cap
    · have hfit : n * i.size + news.length ≤ cur.size := by rw [hl, hcs, ← Nat.add_mul]; exact Nat.mul_le_mul_right _ hroom
      have hr2 := run_append_room (P := Try.prog) w ts ty e i ht hi g n cap cur hg a m c news hl hnews h1 hroom hfit
      rw [hr2] at hr
      injection hr with h _
      subst h
      exact .inl rfl
    · have holds : ∀ j u, xs[j]? = some u → w.cell? ((⟨g, 0, none⟩ : Addr).add j) = some u := hown.cells (g := g) rfl
      have hr2 := run_append_grow (P := Try.prog) w ts ty e i z ht hi hz ⟨g, 0, none⟩ n cap xs hown.1 holds a m c news hl hnews (by omega) (by simp only [maxLen] at h63; omega) (growslice_fits (by omega) hbytes)
      rw [hr2] at hr
      injection hr with h _
      subst h
      exact .inr ⟨_, rfl, Nat.le_refl _⟩
end
end Go.Proofs.Ytbelmadbjiiodaa
namespace Go.Proofs.Ytbelmadbjiiodaa
open Go Go.RowKit
theorem zeros_list (k : Nat) : (Builtin.zeroCells (Value.int IntKind.u8 0).cells k).toList = bv (List.replicate k 0) := by
  have hz : (Value.int IntKind.u8 0).cells = #[Value.int IntKind.u8 0] := rfl
  rw [hz]
  refine List.ext_getElem (by simp [Builtin.zeroCells, bv]) fun i h1 h2 => ?_
  simp [Builtin.zeroCells, bv, Nat.mod_one]
section
variable (w : World) {base : Nat} {v : Value} {l : List UInt8}
theorem app_str (ty : TypeId) (hown : w.ownsRow base 5 1 v l.length (bv l)) (s : ByteArray) (hbig : l.length + s.size ≤ 1000000000) (hbase : base ≤ w.heap.size) :
    ∃ v' w', (Builtin.append_ #[43, 9] ty #[v, .string s]).run Try.prog w = .ok v' w' ∧ w'.ownsRow base 5 1 v' (l ++ s.data.toList).length (bv (l ++ s.data.toList)) ∧ w.grownBy w' v.ownBlock ∧ SF w v v' := by
  obtain ⟨i, hi, hz, hsize, hby⟩ := info_parts infoU
  obtain ⟨v', w', hr, h2, h3, h4⟩ := Lib.run_append_own_string (P := Try.prog) w base 43 9 ty 5 i Try.underlying43 Try.underlying9 hi hz hsize hby v l.length (bv l) hown s (by unfold maxLen; omega) (by omega) hbase
  have hz2 := Lib.size_eq s
  refine ⟨v', w', hr, ?_, h3, ?_⟩
  · rw [List.length_append, bv_append, ← hz2]; exact h2
  rcases hown.2 with ⟨rfl, h0⟩ | ⟨g, cap, cur, rfl, hbg, hg, hnc, hcm, hcs, htake⟩
  · by_cases hm : s.size = 0
    · have := h4.2 ⟨rfl, hm⟩
      subst this
      exact .inl rfl
    · have hr2 := run_append_nil_string (P := Try.prog) w 43 9 ty 5 i (.int .u8 0) Try.underlying43 Try.underlying9 hi hz s (by omega) (by omega) (by rw [hby]; omega)
      rw [hr2] at hr
      injection hr with h _
      subst h
      exact .inr ⟨_, rfl, Nat.le_refl _⟩
  · by_cases hroom : l.length + s.size ≤ cap
    · have hcs' : cur.size = cap := by simpa using hcs
      have hr2 := Lib.run_append_room_string (P := Try.prog) w 43 9 ty 5 i Try.underlying43 Try.underlying9 hi hsize g l.length cap cur hg s hroom (by omega)
      rw [hr2] at hr
      injection hr with h _
      subst h
      exact .inl rfl
    · have holds : ∀ j u, (bv l)[j]? = some u → w.cell? ((⟨g, 0, none⟩ : Addr).add j) = some u := hown.cells (g := g) rfl
      have hr2 := Lib.run_append_grow_string (P := Try.prog) w 43 9 ty 5 i (.int .u8 0) Try.underlying43 Try.underlying9 hi hz ⟨g, 0, none⟩ l.length cap (bv l) (by rw [hsize, bv_length, Nat.mul_one]) holds s (by omega) (by omega) (by rw [hby]; exact growslice_fits (by omega) (by omega))
      rw [hr2] at hr
      injection hr with h _
      subst h
      exact .inr ⟨_, rfl, Nat.le_refl _⟩
theorem app_zeros (ty : TypeId) (hown : w.ownsRow base 5 1 v l.length (bv l)) (kq : IntKind) (k : Nat) (hk : 0 < k) (hbig : l.length + k ≤ 1000000000) (hbase : base ≤ w.heap.size) :
    ∃ v' w', (Builtin.append_ #[43, 3] ty #[v, .int kq k]).run Try.prog w = .ok v' w' ∧ w'.ownsRow base 5 1 v' (l ++ List.replicate k 0).length (bv (l ++ List.replicate k 0)) ∧ w.grownBy w' v.ownBlock ∧ SF w v v' := by
  obtain ⟨i, hi, hz, hsize, hby⟩ := info_parts infoU
  have hlen : (l ++ List.replicate k (0 : UInt8)).length = l.length + k := by simp
  have hzl := zeros_list k
  have grown : ∀ (old : Nat), ∀ (row : Option Nat),
      (w.drew.alloc (.cells ((bv l).toArray ++ Builtin.zeroCells (Value.int .u8 0).cells k ++ Builtin.zeroCells (Value.int .u8 0).cells (grownCap w (l.length + k) old 5 - (l.length + k))) 5)).ownsRow base 5 1
        (.slice (some ⟨w.heap.size, 0, none⟩) (l.length + k) (grownCap w (l.length + k) old 5)) (l.length + k) (bv (l ++ List.replicate k 0)) ∧
      w.grownBy (w.drew.alloc (.cells ((bv l).toArray ++ Builtin.zeroCells (Value.int .u8 0).cells k ++ Builtin.zeroCells (Value.int .u8 0).cells (grownCap w (l.length + k) old 5 - (l.length + k))) 5)) row := by
    intro old row
    have hge := grownCap_ge w (l.length + k) old 5
    have hcm : grownCap w (l.length + k) old 5 ≤ maxLen := grownCap_le_maxLen w (l.length + k) old 5 (by unfold maxLen; omega)
    have hone : (Value.int IntKind.u8 0).cells.size = 1 := rfl
    refine ⟨⟨by rw [bv_length, hlen]; omega, .inr ⟨w.heap.size, _, _, rfl, hbase, heap_alloc_new w.drew _, hge, hcm, ?_, ?_⟩⟩, ⟨rfl, rfl, rfl, by simp, fun j hj _ => heap_alloc_old w.drew _ hj⟩⟩
    · simp only [Array.size_append, List.size_toArray, size_zeroCells, hone, bv_length]
      omega
    · simp only [Array.toList_append, hzl]
      rw [← bv_append, List.take_left' (by rw [bv_length, hlen]; omega)]
  rcases hown.2 with ⟨rfl, h0⟩ | ⟨g, cap, cur, rfl, hbg, hg, hnc, hcm, hcs, htake⟩
  · have hl : l = [] := List.eq_nil_of_length_eq_zero h0
    subst hl
    have hr := Lib.run_append_nil_zeros (P := Try.prog) w 43 3 ty 5 i (.int .u8 0) kq .i64 Try.underlying43 Try.underlying3 hi hz k hk (by omega) (by omega) (by rw [hby]; omega)
    have hg := grown 0 none
    simp only [List.length_nil, Nat.zero_add, List.nil_append, bv, List.map_nil, Array.empty_append] at hg hr ⊢
    exact ⟨_, _, hr, by rw [List.length_replicate]; exact hg.1, hg.2, .inr ⟨_, rfl, Nat.le_refl _⟩⟩
  · by_cases hroom : l.length + k ≤ cap
    · have hcs' : cur.size = cap := by simpa using hcs
      have hzlen : (bv (List.replicate k 0)).length = k := by rw [bv_length, List.length_replicate]
      have hst := run_storeCells_at Try.prog g l.length 5 (bv (List.replicate k 0)) 0 cur w hg (by rw [hzlen]; omega) (bv_cells _)
      simp only [Nat.add_zero, hzlen] at hst
      have hw : IntKind.i64.wrap (k : Int) = k := by rw [IntKind.wrap_i64]; omega
      have hneg : ¬ ((k : Int) < 0) := by omega
      have h48i : ¬ (281474976710656 < (k : Int)) := by omega
      have hk0 : k ≠ 0 := by omega
      have hr : (Builtin.append_ #[43, 3] ty #[.slice (some ⟨g, 0, none⟩) l.length cap, .int kq k]).run Try.prog w =
          .ok (.slice (some ⟨g, 0, none⟩) (l.length + k) cap) (w.setRow g (cur.toList.take l.length ++ bv (List.replicate k 0) ++ cur.toList.drop (l.length + k)).toArray) := by
        simp [Builtin.append_, run_underlying (P := Try.prog) Try.underlying43, run_underlying (P := Try.prog) Try.underlying3, sizeOf, typeInfo, zeroValue, hi, hz, hsize, hby, asInt, asIntOf, hw, hneg, h48i, hroom, hk0, zeros_list, Addr.add_lit, hst]
      refine ⟨_, _, hr, ⟨by rw [bv_length, hlen]; omega, .inr ⟨g, cap, _, by rw [hlen], hbg, setRow_heap w g cur _ _ _ hg, by rw [hlen]; exact hroom, hcm, ?_, ?_⟩⟩, ⟨rfl, rfl, rfl, by simp, fun k _ hk => setRow_other w g k _ (fun e => hk (by simp [Value.ownBlock, e]))⟩, .inl rfl⟩
      · simp only [List.size_toArray, List.length_append, List.length_take, List.length_drop, Array.length_toList, hzlen]
        omega
      · have ht' : cur.toList.take l.length = bv l := by simpa using htake
        rw [ht', ← bv_append, List.take_left' (by rw [bv_length]; omega)]
    · have holds : ∀ j u, (bv l)[j]? = some u → w.drew.cell? ((⟨g, 0, none⟩ : Addr).add j) = some u := hown.cells (g := g) rfl
      have hf := run_firstCells_some (P := Try.prog) w.drew i.size l.length ⟨g, 0, none⟩ l.length cap (bv l) (by rw [hsize, bv_length, Nat.mul_one]) holds
      have hr := Lib.run_append_grow_zeros (P := Try.prog) w 43 3 ty 5 i (.int .u8 0) kq .i64 Try.underlying43 Try.underlying3 hi hz (some ⟨g, 0, none⟩) l.length cap (bv l) hf k hk (by omega) (by omega) (by omega) (by rw [hby]; omega) (by rw [hby]; exact growslice_fits (by omega) (by omega))
      have hgr := grown cap (some g)
      exact ⟨_, _, hr, by rw [hlen]; exact hgr.1, hgr.2, .inr ⟨_, rfl, Nat.le_refl _⟩⟩
end
section
variable {w : World} {ops : Array Oper} {o : Oper} {a : Act} {Q : Exit → Act → World → Prop} {rest : List Oper}
theorem wpList_app_str (hgd : o.guard = none) (s x : Operand) (ho : o.op = .call { callee := .builtin .append, args := #[s, x], argTypes := #[43, 9] })
    {base : Nat} {v : Value} {l : List UInt8} (hs : a.eval s = v) (hown : w.ownsRow base 5 1 v l.length (bv l)) (b : ByteArray) (hx : a.eval x = .string b) (hbig : l.length + b.size ≤ 1000000000) (hbase : base ≤ w.heap.size)
    (h : ∀ v' w', Hid (w'.ownsRow base 5 1 v' (l ++ b.data.toList).length (bv (l ++ b.data.toList))) → Hid (w.grownBy w' v.ownBlock) → Hid (SF w v v') → wpList Try.prog ops Q rest (a.put o.dst v') w') : wpList Try.prog ops Q (o :: rest) a w := by
  refine wpList_plain hgd fun K hK => ?_
  obtain ⟨v', w', hr, h2, h3, h4⟩ := app_str w o.type hown b hbig hbase
  unfold Oper.wp execOp
  simp only [ho, resolve, invoke, builtin, Sem.run_bind, Sem.run_pure, Result.andThen_ok, List.map_toArray, List.map_cons, List.map_nil, hs, hx, hr]
  exact hK _ _ (h v' w' h2 h3 h4)
theorem wpList_app_zeros (hgd : o.guard = none) (s x : Operand) (ho : o.op = .call { callee := .builtin .append, args := #[s, x], argTypes := #[43, 3] })
    {base : Nat} {v : Value} {l : List UInt8} (hs : a.eval s = v) (hown : w.ownsRow base 5 1 v l.length (bv l)) (kq : IntKind) (z : Int) (k : Nat) (hx : a.eval x = .int kq z) (hz : z = (k : Int)) (hk : 0 < k) (hbig : l.length + k ≤ 1000000000) (hbase : base ≤ w.heap.size)
    (h : ∀ v' w', Hid (w'.ownsRow base 5 1 v' (l ++ List.replicate k 0).length (bv (l ++ List.replicate k 0))) → Hid (w.grownBy w' v.ownBlock) → Hid (SF w v v') → wpList Try.prog ops Q rest (a.put o.dst v') w') : wpList Try.prog ops Q (o :: rest) a w := by
  subst hz
  refine wpList_plain hgd fun K hK => ?_
  obtain ⟨v', w', hr, h2, h3, h4⟩ := app_zeros w o.type hown kq k hk hbig hbase
  unfold Oper.wp execOp
  simp only [ho, resolve, invoke, builtin, Sem.run_bind, Sem.run_pure, Result.andThen_ok, List.map_toArray, List.map_cons, List.map_nil, hs, hx, hr]
  exact hK _ _ (h v' w' h2 h3 h4)
end
end Go.Proofs.Ytbelmadbjiiodaa
namespace Go.Proofs.Ytbelmadbjiiodaa
open Go Go.RowKit
namespace Dk
/-- What copy and append of put leave. -/
def laid (l : B) (at_ : Nat) (t : B) : B := splice l at_ (t.take (min t.length (l.length - at_))) ++ t.drop (min t.length (l.length - at_))
theorem laid_put (l : B) (at_ : Nat) (t : B) (h : at_ ≤ l.length) : laid l at_ t = put l at_ t := by
  refine List.ext_getElem? fun i => ?_
  rw [put_at]
  unfold laid splice
  obtain ⟨m, hm⟩ : ∃ m, min t.length (l.length - at_) = m := ⟨_, rfl⟩
  rw [hm]
  have h1 : (t.take m).length = m := by rw [List.length_take]; omega
  rw [h1]
  have ha : (l.take at_).length = at_ := by rw [List.length_take]; omega
  by_cases c1 : i < at_
  · rw [if_neg (by omega), if_pos (by omega), List.append_assoc, List.getElem?_append_left (by omega), List.getElem?_take_of_lt c1]
  · by_cases c2 : i < at_ + m
    · rw [if_pos (by omega), List.append_assoc, List.getElem?_append_right (by omega), ha, List.append_assoc, List.getElem?_append_left (by omega), List.getElem?_take_of_lt (by omega)]
    · by_cases c3 : i < l.length
      · rw [List.append_assoc, List.getElem?_append_right (by omega), ha, List.append_assoc, List.getElem?_append_right (by omega), h1, List.getElem?_append_left (by rw [List.length_drop]; omega), List.getElem?_drop]
        rw [if_neg (by omega), if_pos c3]
        congr 1; omega
      · rw [List.append_assoc, List.getElem?_append_right (by omega), ha, List.append_assoc, List.getElem?_append_right (by omega), h1, List.getElem?_append_right (by rw [List.length_drop]; omega), List.length_drop, List.getElem?_drop]
        by_cases c4 : i < at_ + t.length
        · rw [if_pos (by omega)]
          congr 1; omega
        · rw [if_neg (by omega), if_neg c3, if_neg c4]
          rw [List.getElem?_eq_none (by omega)]
theorem put_pad (l : B) (at_ : Nat) (t : B) (h : l.length ≤ at_) : put (l ++ List.replicate (at_ - l.length) 0) at_ t = put l at_ t := by
  refine List.ext_getElem? fun i => ?_
  rw [put_at, put_at, List.length_append, List.length_replicate]
  by_cases c1 : at_ ≤ i ∧ i < at_ + t.length
  · rw [if_pos c1, if_pos c1]
  · rw [if_neg c1, if_neg c1]
    by_cases c2 : i < l.length
    · rw [if_pos (by omega), if_pos c2, List.getElem?_append_left c2]
    · rw [if_neg c2]
      by_cases c3 : i < at_
      · rw [if_pos (by omega), if_pos (by omega), List.getElem?_append_right (by omega), List.getElem?_replicate, if_pos (by omega)]
      · rw [if_neg (by omega)]
end Dk
theorem copy_into (w : World) {base g cap : Nat} {l : List UInt8} (ty : TypeId) (hown : w.ownsRow base 5 1 (.slice (some ⟨g, 0, none⟩) l.length cap) l.length (bv l)) (at_ c n : Nat) (s : ByteArray) (hn : n = l.length - at_) (dp : Option Addr)
    (hdp : 0 < n → dp = some ⟨g, at_, none⟩) (hat : at_ ≤ l.length) :
    ∃ w', (Builtin.copy_ #[43, 9] ty #[.slice dp n c, .string s]).run Try.prog w = .ok (goInt (Nat.min s.size n)) w' ∧
      w'.ownsRow base 5 1 (.slice (some ⟨g, 0, none⟩) l.length cap) l.length (bv (splice l at_ (s.data.toList.take (min s.data.toList.length (l.length - at_))))) ∧ w.grownBy w' (some g) ∧ w'.heap.size = w.heap.size := by
  obtain ⟨i, hi, hz, hsize, hby⟩ := info_parts infoU
  have hsz := Lib.size_eq s
  obtain ⟨m, hm⟩ : ∃ m, Nat.min s.size n = m := ⟨_, rfl⟩
  have hm1 : m ≤ n := by rw [← hm]; exact Nat.min_le_right _ _
  have hm2 : m ≤ s.size := by rw [← hm]; exact Nat.min_le_left _ _
  have hmm : min s.data.toList.length (l.length - at_) = m := by rw [← hsz, ← hn, ← hm]; try rfl
  rw [hmm, hm]
  have htk : List.take m (List.map (fun b : UInt8 => Value.int IntKind.u8 (b.toNat : Int)) s.data.toList) = bv (s.data.toList.take m) := by
    rw [← List.map_take]; rfl
  have hlen : (bv (s.data.toList.take m)).length = m := by rw [bv_length, List.length_take]; omega
  rcases hown.2 with ⟨h0, _⟩ | ⟨g', cap', cur, hv, hbg, hg, hnc, hcm, hcs, htake⟩
  · cases h0
  injection hv with hv1 _ hv2
  injection hv1 with hv1
  injection hv1 with hv1
  subst hv1
  subst hv2
  by_cases h0 : m = 0
  · refine ⟨w, ?_, ?_, ⟨rfl, rfl, rfl, Nat.le_refl _, fun _ _ _ => rfl⟩, rfl⟩
    · rw [h0] at htk
      cases dp <;> simp [Builtin.copy_, run_underlying (P := Try.prog) Try.underlying43, Builtin.lenOf, Builtin.firstCells, sizeOf, typeInfo, hi, hm, h0, storeCells]
    · rw [h0]
      simpa [splice] using hown
  · obtain rfl := hdp (by omega)
    have hcs' : cur.size = cap := by simpa using hcs
    have hst := run_storeCells_at Try.prog g at_ 5 (bv (s.data.toList.take m)) 0 cur w hg (by rw [hlen]; omega) (bv_cells _)
    rw [hlen] at hst
    simp only [Nat.add_zero] at hst
    obtain ⟨C, hC⟩ : ∃ C, cur.toList.take at_ ++ bv (s.data.toList.take m) ++ cur.toList.drop (at_ + m) = C := ⟨_, rfl⟩
    rw [hC] at hst
    refine ⟨w.setRow g C.toArray, ?_, ⟨?_, .inr ⟨g, cap, C.toArray, rfl, hbg, setRow_heap w g cur C.toArray 5 _ hg, hnc, hcm, ?_, ?_⟩⟩, ⟨rfl, rfl, rfl, by simp, fun k _ hk => setRow_other w g k _ (fun e => hk (by rw [e]))⟩, by simp⟩
    · simp [Builtin.copy_, run_underlying (P := Try.prog) Try.underlying43, Builtin.lenOf, Builtin.firstCells, sizeOf, typeInfo, hi, hm]
      rw [htk, hst]
      simp [Result.andThen]
    · rw [bv_length, length_splice _ _ _ (by rw [List.length_take]; omega)]; try omega
    · rw [← hC]
      simp only [List.size_toArray, List.length_append, List.length_take, List.length_drop, Array.length_toList, hlen]
      omega
    · have ht' : cur.toList.take l.length = bv l := by simpa using htake
      have e1 : cur.toList = bv l ++ cur.toList.drop l.length := by rw [← ht', List.take_append_drop]
      have e2 : bv (splice l at_ (s.data.toList.take m)) = splice (bv l) at_ (bv (s.data.toList.take m)) := by
        unfold splice
        rw [bv_append, bv_append, bv_length]
        simp [bv]
      rw [e2, Nat.mul_one, ← hC]
      unfold splice
      rw [hlen]
      show ((cur.toList.take at_ ++ bv (s.data.toList.take m)) ++ cur.toList.drop (at_ + m)).take l.length = _
      rw [e1, List.take_append_of_le_length (l₁ := bv l) (by rw [bv_length]; omega), List.drop_append_of_le_length (l₁ := bv l) (by rw [bv_length]; omega), ← List.append_assoc, List.take_left' (by simp only [List.length_append, List.length_take, List.length_drop, bv_length, hlen]; omega), List.append_assoc]
theorem wpList_copy_into {w : World} {ops : Array Oper} {o : Oper} {a : Act} {Q : Exit → Act → World → Prop} {rest : List Oper} (hgd : o.guard = none) (d x : Operand)
    (ho : o.op = .call { callee := .builtin .copy, args := #[d, x], argTypes := #[43, 9] }) {base g cap : Nat} {l : List UInt8}
    (hown : w.ownsRow base 5 1 (.slice (some ⟨g, 0, none⟩) l.length cap) l.length (bv l)) (at_ c n : Nat) (s : ByteArray) (dp : Option Addr) (hd : a.eval d = .slice dp n c) (hs : a.eval x = .string s) (hn : n = l.length - at_)
    (hdp : 0 < n → dp = some ⟨g, at_, none⟩) (hat : at_ ≤ l.length) (m : Nat) (hm : Nat.min s.size n = m)
    (h : ∀ w', Hid (w'.ownsRow base 5 1 (.slice (some ⟨g, 0, none⟩) l.length cap) (splice l at_ (s.data.toList.take (min s.data.toList.length (l.length - at_)))).length (bv (splice l at_ (s.data.toList.take (min s.data.toList.length (l.length - at_)))))) → Hid (w.grownBy w' (some g)) → Hid (w'.heap.size = w.heap.size) → wpList Try.prog ops Q rest (a.put o.dst (goInt m)) w') : wpList Try.prog ops Q (o :: rest) a w := by
  subst hm
  refine wpList_plain hgd fun K hK => ?_
  obtain ⟨w', hr, h2, h3, h4⟩ := copy_into w o.type hown at_ c n s hn dp hdp hat
  unfold Oper.wp execOp
  simp only [ho, resolve, invoke, builtin, Sem.run_bind, Sem.run_pure, Result.andThen_ok, List.map_toArray, List.map_cons, List.map_nil, hd, hs, hr]
  exact hK _ _ (h w' (by show World.ownsRow _ _ _ _ _ _ _; rw [length_splice _ _ _ (by rw [List.length_take]; omega)]; exact h2) h3 h4)
theorem copy_nil (w : World) (ty : TypeId) (s : ByteArray) : (Builtin.copy_ #[43, 9] ty #[.slice none 0 0, .string s]).run Try.prog w = .ok (goInt 0) w := by
  obtain ⟨i, hi, hz, hsize, hby⟩ := info_parts infoU
  simp [Builtin.copy_, run_underlying (P := Try.prog) Try.underlying43, Builtin.lenOf, Builtin.firstCells, sizeOf, typeInfo, hi]
theorem wpList_copy_nil {w : World} {ops : Array Oper} {o : Oper} {a : Act} {Q : Exit → Act → World → Prop} {rest : List Oper} (hgd : o.guard = none) (d x : Operand)
    (ho : o.op = .call { callee := .builtin .copy, args := #[d, x], argTypes := #[43, 9] }) (s : ByteArray) (hd : a.eval d = .slice none 0 0) (hs : a.eval x = .string s)
    (h : wpList Try.prog ops Q rest (a.put o.dst (.int .i64 0)) w) : wpList Try.prog ops Q (o :: rest) a w := by
  refine wpList_plain hgd fun K hK => ?_
  have hr := copy_nil w o.type s
  unfold Oper.wp execOp
  simp only [ho, resolve, invoke, builtin, Sem.run_bind, Sem.run_pure, Result.andThen_ok, List.map_toArray, List.map_cons, List.map_nil, hd, hs, hr]
  exact hK _ _ h
end Go.Proofs.Ytbelmadbjiiodaa
namespace Go.Proofs.Ytbelmadbjiiodaa
open Go Go.RowKit
theorem splice_len {α : Type} (L : List α) (off : Nat) (cs : List α) : (splice L off cs).length ≤ L.length + cs.length + (off + cs.length) := by simp [splice]; omega
theorem app_len {l : List UInt8} (at_ : Nat) (s : ByteArray) (hl : l.length ≤ 100000000) (hs : s.size ≤ 100000000) (m : Nat) : (splice l at_ (s.data.toList.take (min s.data.toList.length (l.length - at_)))).length + (s.extract m s.size).size ≤ 1000000000 := by
  have h1 := Lib.size_eq s
  have h2 : (s.extract m s.size).size ≤ s.size := by rw [ByteArray.size_extract]; omega
  have h3 : (splice l at_ (s.data.toList.take (min s.data.toList.length (l.length - at_)))).length ≤ l.length + s.size := by
    simp [splice]; omega
  omega
set_option maxHeartbeats 2000000 in
set_option maxRecDepth 100000 in
theorem put_in (base g cap : Nat) (l : List UInt8) (at_ : Nat) (s : ByteArray) (w : World) (hown : w.ownsRow base 5 1 (.slice (some ⟨g, 0, none⟩) l.length cap) l.length (bv l)) (hb : base ≤ w.heap.size) (hat : at_ ≤ l.length) (hl : l.length ≤ 100000000) (hs : s.size ≤ 100000000) :
    Calls Try.prog 43 #[.slice (some ⟨g, 0, none⟩) l.length cap, .int .i64 at_, .string s] w fun e w' => ∃ v', e = .returned v' ∧ w'.ownsRow base 5 1 v' (Dk.put l at_ s.data.toList).length (bv (Dk.put l at_ s.data.toList)) ∧ w.grownBy w' (some g) ∧ SF w (.slice (some ⟨g, 0, none⟩) l.length cap) v' := by
  have hlc : l.length ≤ cap ∧ cap ≤ 9223372036854775807 := by
    rcases hown.2 with ⟨h0, _⟩ | ⟨g', cap', cur, hv, _, _, h1, h2, _⟩
    · cases h0
    · injection hv with _ _ h3
      subst h3
      exact ⟨h1, by unfold maxLen at h2; omega⟩
  obtain ⟨hlc, hcm⟩ := hlc
  have HO := Lib.hid hown
  clear hown
  obtain ⟨m, hm⟩ : ∃ m, Nat.min s.size (l.length - at_) = m := ⟨_, rfl⟩
  have hm2 : m ≤ s.size := by rw [← hm]; exact Nat.min_le_left _ _
  have HM := Lib.hid hm
  have HP := Lib.hid (Dk.laid_put l at_ s.data.toList hat)
  have HE := Lib.hid (show (s.extract m s.size).data.toList = s.data.toList.drop m from Lib.extract_to_end s m)
  clear hm
  have hb' := hb
  go_enter Try.func43, Try.ntmps43
  go_wp2_with (first | (at_builtin; refine wpList_app_str rfl (.tmp 23) (.tmp 26) rfl rfl HO1.out _ rfl (app_len at_ s hl hs m) (Nat.le_trans hb HG1.out.size) ?_; intro v2 w2 HO2 HG2 HS2) | (refine wpList_copy_into rfl (.tmp 20) (.tmp 21) rfl HO.out at_ _ _ s _ rfl rfl rfl (by intro hp; first | rfl | (rw [if_neg (by omega)]) | (split <;> first | rfl | (exfalso; omega))) hat m HM.out ?_; intro w1 HO1 HG1 HZ1))
  all_goals
    go_ret
    refine ⟨v2, rfl, ?_, ?_, ?_⟩
    · rw [← HP.out]
      unfold Dk.laid
      have h2 := HO2.out
      rw [HE.out] at h2
      have e : min s.data.toList.length (l.length - at_) = m := by rw [← Lib.size_eq s]; exact HM.out
      rw [e] at h2 ⊢
      exact h2
    · exact grown_two HG1.out HG2.out (.inl rfl)
    · rcases HS2.out with h | ⟨x, h1, h2⟩
      · exact .inl h
      · exact .inr ⟨x, h1, by rw [← HZ1.out]; exact h2⟩
set_option maxHeartbeats 2000000 in
set_option maxRecDepth 100000 in
theorem put_nil (base : Nat) (s : ByteArray) (w : World) (hb : base ≤ w.heap.size) (hs : s.size ≤ 100000000) :
    Calls Try.prog 43 #[.slice none 0 0, .int .i64 0, .string s] w fun e w' => ∃ v', e = .returned v' ∧ w'.ownsRow base 5 1 v' s.data.toList.length (bv s.data.toList) ∧ w.grownBy w' none ∧ SF w (.slice none 0 0) v' := by
  have HO := Lib.hid (World.ownsRow_nil w base 5 1)
  go_enter Try.func43, Try.ntmps43
  go_wp2_with (first | (at_builtin; refine wpList_app_str (l := []) rfl (.tmp 23) (.tmp 26) rfl rfl HO.out _ rfl (by simp; omega) hb ?_; intro v2 w2 HO2 HG2 HS2) | (refine wpList_copy_nil rfl (.tmp 20) (.tmp 21) rfl s rfl rfl ?_))
  go_ret
  refine ⟨v2, rfl, ?_, HG2.out, HS2.out⟩
  exact HO2.out
theorem row_of {w : World} {base : Nat} {v : Value} {l : List UInt8} (h : w.ownsRow base 5 1 v l.length (bv l)) : (v = .slice none 0 0 ∧ l = []) ∨ ∃ g cap, v = .slice (some ⟨g, 0, none⟩) l.length cap ∧ base ≤ g ∧ g < w.heap.size := by
  rcases h.2 with ⟨rfl, h0⟩ | ⟨g, cap, cur, rfl, hb, hg, _⟩
  · exact .inl ⟨rfl, List.eq_nil_of_length_eq_zero h0⟩
  · exact .inr ⟨g, cap, rfl, hb, (Array.getElem?_eq_some_iff.1 hg).1⟩
theorem far_row {w : World} {base : Nat} {v : Value} {l : List UInt8} (h : w.ownsRow base 5 1 v l.length (bv l)) (hp : 0 < l.length) : ∃ g cap, v = .slice (some ⟨g, 0, none⟩) l.length cap ∧ l.length ≤ cap ∧ cap ≤ 9223372036854775807 := by
  rcases h.2 with ⟨rfl, h0⟩ | ⟨g, cap, cur, rfl, hb, hg, h1, h2, _⟩
  · omega
  · exact ⟨g, cap, rfl, h1, by unfold maxLen at h2; omega⟩
theorem app_far (l : List UInt8) (s : ByteArray) (hl : l.length ≤ 100000000) (hs : s.size ≤ 100000000) : (splice l l.length (s.data.toList.take (min s.data.toList.length (l.length - l.length)))).length + s.size ≤ 1000000000 := by
  simp [splice]; omega
set_option maxHeartbeats 2000000 in
set_option maxRecDepth 100000 in
theorem put_far (base : Nat) (v : Value) (l : List UInt8) (n : Nat) (pa : Option Addr) (cap : Nat) (hv : v = .slice pa n cap) (hn : l.length = n) (at_ : Nat) (s : ByteArray) (w : World) (hown : w.ownsRow base 5 1 v l.length (bv l)) (hb : base ≤ w.heap.size) (hat : n < at_) (hl : at_ ≤ 100000000) (hs : s.size ≤ 100000000) :
    Calls Try.prog 43 #[.slice pa n cap, .int .i64 at_, .string s] w fun e w' => ∃ v', e = .returned v' ∧ w'.ownsRow base 5 1 v' (Dk.put l at_ s.data.toList).length (bv (Dk.put l at_ s.data.toList)) ∧ (w.grownBy w' v.ownBlock) ∧ SF w v v' := by
  have HO := Lib.hid hown
  have HV := Lib.hid hv
  have HN := Lib.hid hn
  obtain ⟨z, hz⟩ : ∃ z, at_ - n = z := ⟨_, rfl⟩
  have hz1 : (at_ : Int) - (n : Int) = (z : Int) := by omega
  have hzp : 0 < z := by omega
  have hzl : l.length + z ≤ 1000000000 := by omega
  obtain ⟨L, hL⟩ : ∃ L, l ++ List.replicate z (0 : UInt8) = L := ⟨_, rfl⟩
  have hLl : L.length = at_ := by rw [← hL]; simp; omega
  have HP := Lib.hid (show Dk.put L at_ s.data.toList = Dk.put l at_ s.data.toList from by rw [← hL, ← hz, ← hn]; exact Dk.put_pad l at_ _ (by omega))
  have HQ := Lib.hid (Dk.laid_put L at_ s.data.toList (by omega))
  have HL := Lib.hid hL
  have hm : Nat.min s.size 0 = 0 := Nat.min_zero _
  have HM := Lib.hid hm
  subst hLl
  clear hown hv hn hz hL hm
  go_enter Try.func43, Try.ntmps43
  go_wp2_with (first | (at_builtin; refine wpList_app_zeros (l := l) rfl (.tmp 12) (.tmp 16) rfl HV.out.symm HO.out _ _ z rfl (by omega) hzp hzl hb ?_; intro v1 w1 HO1 HG1 HS1; rw [HL.out] at HO1; obtain ⟨g1, cap1, rfl, hlc, hcm⟩ := far_row HO1.out (by omega)) | (at_builtin; refine wpList_app_str rfl (.tmp 23) (.tmp 26) rfl rfl HO3.out _ rfl (app_far L s hl hs) (Nat.le_trans hb (Nat.le_trans HG1.out.size HG3.out.size)) ?_; intro v2 w2 HO2 HG2 HS2) | (refine wpList_copy_into rfl (.tmp 20) (.tmp 21) rfl HO1.out L.length _ _ s _ rfl rfl (by omega) (by intro hp; exfalso; omega) (Nat.le_refl _) 0 HM.out ?_; intro w3 HO3 HG3 HZ3))
  all_goals
    go_ret
    refine ⟨v2, rfl, ?_, ?_, ?_⟩
    · rw [← HP.out, ← HQ.out]
      unfold Dk.laid
      have e : min s.data.toList.length (L.length - L.length) = 0 := by omega
      have h2 := HO2.out
      rw [e] at h2 ⊢
      exact h2
    · exact grown_two HG1.out (grown_two HG3.out HG2.out (.inl rfl)) HS1.out
    · exact SF.trans HS1.out (SF.trans (w' := w3) (SF.refl _ _) HS2.out HG3.out.size) HG1.out.size
/-- put, whatever the row. -/
theorem put_any (base : Nat) (v : Value) (l : List UInt8) (at_ : Nat) (s : ByteArray) (w : World) (hown : w.ownsRow base 5 1 v l.length (bv l)) (hb : base ≤ w.heap.size) (hl : l.length ≤ 100000000) (ha : at_ ≤ 100000000) (hs : s.size ≤ 100000000) :
    Calls Try.prog 43 #[v, .int .i64 at_, .string s] w fun e w' => ∃ v', e = .returned v' ∧ w'.ownsRow base 5 1 v' (Dk.put l at_ s.data.toList).length (bv (Dk.put l at_ s.data.toList)) ∧ w.grownBy w' v.ownBlock ∧ SF w v v' := by
  by_cases hat : l.length < at_
  · rcases row_of hown with ⟨rfl, rfl⟩ | ⟨g, cap, rfl, _⟩
    · exact put_far base _ _ 0 none 0 rfl rfl at_ s w hown hb hat ha hs
    · exact put_far base _ _ l.length _ _ rfl rfl at_ s w hown hb hat ha hs
  · rcases row_of hown with ⟨rfl, rfl⟩ | ⟨g, cap, rfl, _⟩
    · obtain rfl : at_ = 0 := by simp at hat; omega
      have e : Dk.put [] 0 s.data.toList = s.data.toList := by
        have := Dk.put_end [] s.data.toList
        simpa using this
      rw [e]
      exact put_nil base s w hb hs
    · exact put_in base g cap l at_ s w hown hb (by omega) hl hs
end Go.Proofs.Ytbelmadbjiiodaa
namespace Go.Proofs.Ytbelmadbjiiodaa
open Go Go.RowKit
namespace Dk
structure Good (D : Disk) : Prop where
  len : ∀ f, f < 12 → (D.last f).length ≤ 16777216
  pcs : ∀ p ∈ D.queue, p.f < 12 ∧ p.s ≠ [] ∧ p.at_ + p.s.length ≤ 16777216
  q : D.queue.length ≤ 1000000
  lost0 : 0 ≤ D.lost
  lost1 : D.lost ≤ 9223372036854775807
  armed0 : 0 ≤ D.armed
  armed1 : D.armed ≤ 9223372036854775807
end Dk
def dcells (vs : Nat → Value) (q k : Value) (D : Dk.Disk) : List Value :=
  [vs 0, vs 1, vs 2, vs 3, vs 4, vs 5, vs 6, vs 7, vs 8, vs 9, vs 10, vs 11, q, .bool D.down, .int .i64 D.lost, .int .i64 D.armed, k]
def upd (vs : Nat → Value) (f : Nat) (v : Value) : Nat → Value := fun i => if i = f then v else vs i
theorem dcells_file (vs : Nat → Value) (q k : Value) (D : Dk.Disk) (f : Nat) (hf : f < 12) : (dcells vs q k D)[f]? = some (vs f) := by
  match f, hf with
  | 0, _ | 1, _ | 2, _ | 3, _ | 4, _ | 5, _ | 6, _ | 7, _ | 8, _ | 9, _ | 10, _ | 11, _ => rfl
theorem dcells_upd (vs : Nat → Value) (q k : Value) (D : Dk.Disk) (f : Nat) (hf : f < 12) (v : Value) (l : Nat → Dk.B) : (dcells vs q k D).set f v = dcells (upd vs f v) q k { D with last := l } := by
  match f, hf with
  | 0, _ | 1, _ | 2, _ | 3, _ | 4, _ | 5, _ | 6, _ | 7, _ | 8, _ | 9, _ | 10, _ | 11, _ => rfl
/-- A row's facts speak of its block alone. -/
theorem own_same {w w' : World} {base : Nat} {e : TypeId} {size : Nat} {v : Value} {n : Nat} {xs : List Value} (h : w.ownsRow base e size v n xs) (he : ∀ b, v.ownBlock = some b → w'.heap[b]? = w.heap[b]?) : w'.ownsRow base e size v n xs := by
  refine ⟨h.1, ?_⟩
  rcases h.2 with hn | ⟨g, cap, cur, rfl, hb, hg, rest⟩
  · exact .inl hn
  · exact .inr ⟨g, cap, cur, rfl, hb, (he g rfl).trans hg, rest⟩
theorem own_base {w : World} {base : Nat} {e : TypeId} {size : Nat} {v : Value} {n : Nat} {xs : List Value} (h : w.ownsRow base e size v n xs) : w.ownsRow 0 e size v n xs := by
  refine ⟨h.1, ?_⟩
  rcases h.2 with hn | ⟨g, cap, cur, rfl, hb, rest⟩
  · exact .inl hn
  · exact .inr ⟨g, cap, cur, rfl, Nat.zero_le _, rest⟩
theorem own_ne {w : World} {base : Nat} {e t : TypeId} {size : Nat} {v : Value} {n g : Nat} {xs L : List Value} (h : w.ownsRow base e size v n xs) (hb : Blk w g t L) (ht : e ≠ t) : v.ownBlock ≠ some g := by
  intro he
  rcases h.2 with ⟨rfl, _⟩ | ⟨g', cap, cur, rfl, _, hg, _⟩
  · cases he
  · injection he with he
    have he : g' = g := he
    subst he
    unfold Blk at hb
    rw [hg] at hb
    injection hb with hb
    injection hb with _ h2 _
    exact ht h2
theorem own_apart {w : World} {base base' : Nat} {e t : TypeId} {size size' : Nat} {v v' : Value} {n n' : Nat} {xs xs' : List Value} (h : w.ownsRow base e size v n xs) (h' : w.ownsRow base' t size' v' n' xs') (ht : e ≠ t) : v.ownBlock = none ∨ v.ownBlock ≠ v'.ownBlock := by
  rcases h'.2 with ⟨rfl, _⟩ | ⟨g', cap, cur, rfl, _, hg, _⟩
  · cases hv : v.ownBlock with
    | none => exact .inl rfl
    | some x => exact .inr (by simp [Value.ownBlock])
  · refine .inr ?_
    exact own_ne (L := cur.toList) h (by unfold Blk; simpa using hg) ht
theorem own_lt {w : World} {base : Nat} {e : TypeId} {size : Nat} {v : Value} {n b : Nat} {xs : List Value} (h : w.ownsRow base e size v n xs) (hb : v.ownBlock = some b) : b < w.heap.size := (h.lt b hb).2
/-- Block g, a disk: its twelve files, the pieces, the marks, what is kept. -/
structure DiskV (w : World) (g : Nat) (vs : Nat → Value) (q k : Value) (D : Dk.Disk) : Prop where
  blk : Blk w g 49 (dcells vs q k D)
  file : ∀ f, f < 12 → w.ownsRow 0 5 1 (vs f) (D.last f).length (bv (D.last f))
  pend : w.ownsRow 0 57 3 q D.queue.length (pv D.queue)
  keep : D.armed ≠ 0 → w.ownsRow 0 3 1 k D.keep.length (iv D.keep)
  apart : ∀ f f', f < 12 → f' < 12 → f ≠ f' → (vs f).ownBlock = none ∨ (vs f).ownBlock ≠ (vs f').ownBlock
  good : Dk.Good D
  kone : k.oneCell' = true
/-- The blocks that block g, as a disk, may write. -/
def Foot (w : World) (g b : Nat) : Prop := b = g ∨ ∃ i v, i < 13 ∧ w.cell? ⟨g, i, none⟩ = some v ∧ v.ownBlock = some b
/-- Only the disk's own blocks have been written, and new ones made; what it owns now it owned, or is new. -/
structure Mv (g : Nat) (w w' : World) : Prop where
  os : w'.os = w.os
  tape : w'.tape = w.tape
  output : w'.output = w.output
  size : w.heap.size ≤ w'.heap.size
  block : ∀ b, b < w.heap.size → ¬ Foot w g b → w'.heap[b]? = w.heap[b]?
  foot : ∀ b, Foot w' g b → Foot w g b ∨ w.heap.size ≤ b
theorem Mv.refl (g : Nat) (w : World) : Mv g w w := ⟨rfl, rfl, rfl, Nat.le_refl _, fun _ _ _ => rfl, fun _ h => .inl h⟩
theorem Mv.trans {g : Nat} {a b c : World} (h : Mv g a b) (k : Mv g b c) : Mv g a c :=
  ⟨k.os.trans h.os, k.tape.trans h.tape, k.output.trans h.output, Nat.le_trans h.size k.size,
   fun x hx hn => (k.block x (Nat.lt_of_lt_of_le hx h.size) (fun hf => by
    rcases h.foot x hf with h1 | h1
    · exact hn h1
    · omega)).trans (h.block x hx hn),
   fun x hx => by
    rcases k.foot x hx with h1 | h1
    · exact h.foot x h1
    · have := h.size; exact .inr (by omega)⟩
theorem foot_same {w w' : World} {g b : Nat} (he : w'.heap[g]? = w.heap[g]?) (h : Foot w' g b) : Foot w g b := by
  rcases h with h | ⟨i, v, hi, hc, hv⟩
  · exact .inl h
  · exact .inr ⟨i, v, hi, by rw [← hc]; exact (World.cell?_of_block (a := ⟨g, i, none⟩) he).symm, hv⟩
theorem Mv.of_below {g : Nat} {w w' : World} (h : Below w.heap.size w w') (hg : g < w.heap.size) : Mv g w w' :=
  ⟨h.os, h.tape, h.output, h.size, fun b hb _ => h.block b hb, fun _ hf => .inl (foot_same (h.block g hg) hf)⟩
theorem Mv.drews {g : Nat} {w w' : World} (h : Mv g w w') (n : Nat) : Mv g w (w'.drewN n) := ⟨h.os, h.tape, h.output, h.size, h.block, h.foot⟩
theorem Mv.drew {g : Nat} {w w' : World} (h : Mv g w w') : Mv g w w'.drew := ⟨h.os, h.tape, h.output, h.size, h.block, h.foot⟩
theorem Mv.of_grown {g : Nat} {w w' : World} {r : Option Nat} (h : w.grownBy w' r) (hr : ∀ x, r = some x → Foot w g x ∧ x ≠ g) (hg : g < w.heap.size) : Mv g w w' := by
  refine ⟨h.os, h.tape, h.output, h.size, fun b hb hn => h.block b hb (fun e => hn (hr b e.symm).1), fun x hx => .inl (foot_same (h.block g hg (fun e => (hr g e.symm).2 rfl)) hx)⟩
theorem set_size (w : World) (a : Addr) (v : Value) : (w.setCell a v).heap.size = w.heap.size := by simp [World.setCell]
theorem set_other (w : World) (g i b : Nat) (v : Value) (h : b ≠ g) : (w.setCell ⟨g, i, none⟩ v).heap[b]? = w.heap[b]? := Below.heap_setCell _ _ _ _ (fun e => h e)
theorem Mv.store {g : Nat} {w w' : World} (h : Mv g w w') {t : TypeId} {L : List Value} (hb : Blk w' g t L) (i : Nat) (v : Value) (hv : ∀ x, v.ownBlock = some x → 13 ≤ i ∨ Foot w g x ∨ w.heap.size ≤ x) : Mv g w (w'.setCell ⟨g, i, none⟩ v) := by
  refine ⟨h.os, h.tape, h.output, by rw [set_size]; exact h.size, fun b hbs hn => (set_other w' g i b v (fun e => hn (.inl e))).trans (h.block b hbs hn), fun x hx => ?_⟩
  rcases hx with rfl | ⟨j, u, hj, hc, hu⟩
  · exact .inl (.inl rfl)
  · have hB := hb.set i v
    by_cases hij : i = j
    · subst hij
      by_cases hl : i < L.length
      · have h2 := hB.cell (j := i) (v := v) (by simp [hl])
        rw [h2] at hc
        injection hc with hc
        subst hc
        rcases hv x hu with h | h | h
        · omega
        · exact .inl h
        · exact .inr h
      · exfalso
        unfold Blk at hB
        simp [World.cell?, hB, hl] at hc
    · refine h.foot x (.inr ⟨j, u, hj, ?_, hu⟩)
      unfold Blk at hB hb
      simp [World.cell?, hB, hij] at hc
      simp [World.cell?, hb, hc]
theorem Mv.set {g : Nat} {w : World} {t : TypeId} {L : List Value} (hb : Blk w g t L) (i : Nat) (v : Value) (hv : ∀ x, v.ownBlock = some x → 13 ≤ i ∨ Foot w g x ∨ w.heap.size ≤ x) : Mv g w (w.setCell ⟨g, i, none⟩ v) := (Mv.refl g w).store hb i v hv
variable {w w' : World} {g : Nat} {vs : Nat → Value} {q k : Value} {D : Dk.Disk}
theorem DiskV.lt (h : DiskV w g vs q k D) : g < w.heap.size := h.blk.lt
theorem DiskV.cfile (h : DiskV w g vs q k D) (f : Nat) (hf : f < 12) : w.cell? ⟨g, f, none⟩ = some (vs f) := h.blk.cell (dcells_file vs q k D f hf)
theorem DiskV.cq (h : DiskV w g vs q k D) : w.cell? ⟨g, 12, none⟩ = some q := h.blk.cell rfl
theorem DiskV.cdown (h : DiskV w g vs q k D) : w.cell? ⟨g, 13, none⟩ = some (.bool D.down) := h.blk.cell rfl
theorem DiskV.clost (h : DiskV w g vs q k D) : w.cell? ⟨g, 14, none⟩ = some (.int .i64 D.lost) := h.blk.cell rfl
theorem DiskV.carmed (h : DiskV w g vs q k D) : w.cell? ⟨g, 15, none⟩ = some (.int .i64 D.armed) := h.blk.cell rfl
theorem DiskV.ckeep (h : DiskV w g vs q k D) : w.cell? ⟨g, 16, none⟩ = some k := h.blk.cell rfl
theorem DiskV.ffile (h : DiskV w g vs q k D) {f x : Nat} (hf : f < 12) (hx : (vs f).ownBlock = some x) : Foot w g x ∧ x ≠ g :=
  ⟨.inr ⟨f, vs f, by omega, h.cfile f hf, hx⟩, fun e => own_ne (h.file f hf) h.blk (by decide) (by rw [← e]; exact hx)⟩
theorem DiskV.fq (h : DiskV w g vs q k D) {x : Nat} (hx : q.ownBlock = some x) : Foot w g x ∧ x ≠ g :=
  ⟨.inr ⟨12, q, by omega, h.cq, hx⟩, fun e => own_ne h.pend h.blk (by decide) (by rw [← e]; exact hx)⟩
/-- What the disk may write bears one of three types. -/
theorem DiskV.types (h : DiskV w g vs q k D) {b : Nat} (hf : Foot w g b) : ∃ cs t, w.heap[b]? = some (.cells cs t (0, 0)) ∧ (t = 49 ∨ t = 5 ∨ t = 57) := by
  rcases hf with rfl | ⟨i, v, hi, hc, hv⟩
  · exact ⟨_, _, h.blk, .inl rfl⟩
  · by_cases h12 : i = 12
    · subst h12
      rw [h.cq] at hc
      injection hc with hc
      subst hc
      rcases h.pend.2 with ⟨rfl, _⟩ | ⟨g', cap, cur, rfl, _, hg, _⟩
      · cases hv
      · injection hv with hv
        change g' = b at hv
        subst hv
        exact ⟨_, _, hg, .inr (.inr rfl)⟩
    · have hi' : i < 12 := by omega
      rw [h.cfile i hi'] at hc
      injection hc with hc
      subst hc
      rcases (h.file i hi').2 with ⟨h0, _⟩ | ⟨g', cap, cur, h0, _, hg, _⟩
      · rw [h0] at hv; cases hv
      · rw [h0] at hv
        injection hv with hv
        change g' = b at hv
        subst hv
        exact ⟨_, _, hg, .inr (.inl rfl)⟩
theorem DiskV.not_foot (h : DiskV w g vs q k D) {b : Nat} {cs : Array Value} {t : TypeId} {z : Nat × Nat} (hb : w.heap[b]? = some (.cells cs t z)) (h1 : t ≠ 49) (h2 : t ≠ 5) (h3 : t ≠ 57) : ¬ Foot w g b := fun hf => by
  obtain ⟨cs', t', h4, h5⟩ := h.types hf
  rw [hb] at h4
  injection h4 with h4
  injection h4 with _ h6 _
  subst h6
  rcases h5 with rfl | rfl | rfl
  · exact h1 rfl
  · exact h2 rfl
  · exact h3 rfl
theorem DiskV.not_keep (h : DiskV w g vs q k D) (ha : D.armed ≠ 0) {b : Nat} (hb : k.ownBlock = some b) : ¬ Foot w g b := by
  rcases (h.keep ha).2 with ⟨rfl, _⟩ | ⟨g', cap, cur, rfl, _, hg, _⟩
  · cases hb
  · injection hb with hb
    change g' = b at hb
    subst hb
    exact h.not_foot hg (by decide) (by decide) (by decide)
/-- A world in which the disk's blocks are as they were. -/
theorem DiskV.frame (h : DiskV w g vs q k D) (hs : ∀ b, Foot w g b → w'.heap[b]? = w.heap[b]?) (hk : ∀ b, D.armed ≠ 0 → k.ownBlock = some b → w'.heap[b]? = w.heap[b]?) : DiskV w' g vs q k D :=
  ⟨(hs g (.inl rfl)).trans h.blk, fun f hf => own_same (h.file f hf) fun b hb => hs b (h.ffile hf hb).1, own_same h.pend fun b hb => hs b (h.fq hb).1, fun ha => own_same (h.keep ha) fun b hb => hk b ha hb, h.apart, h.good, h.kone⟩
theorem DiskV.foot_lt (h : DiskV w g vs q k D) {b : Nat} (hf : Foot w g b) : b < w.heap.size := by
  obtain ⟨cs, t, h1, _⟩ := h.types hf
  exact lt_of_block h1
theorem DiskV.keep_lt (h : DiskV w g vs q k D) {b : Nat} (ha : D.armed ≠ 0) (hb : k.ownBlock = some b) : b < w.heap.size := own_lt (h.keep ha) hb
theorem DiskV.below (h : DiskV w g vs q k D) (hb : Below w.heap.size w w') : DiskV w' g vs q k D := h.frame (fun b hf => hb.block b (h.foot_lt hf)) (fun b ha hk => hb.block b (h.keep_lt ha hk))
theorem DiskV.drews (h : DiskV w g vs q k D) (n : Nat) : DiskV (w.drewN n) g vs q k D := ⟨h.blk, h.file, h.pend, h.keep, h.apart, h.good, h.kone⟩
theorem DiskV.drew (h : DiskV w g vs q k D) : DiskV w.drew g vs q k D := ⟨h.blk, h.file, h.pend, h.keep, h.apart, h.good, h.kone⟩
/-- The marks. -/
theorem DiskV.mark (h : DiskV w g vs q k D) (i : Nat) (v : Value) (D' : Dk.Disk) (q' k' : Value) (hl : D'.last = D.last) (hq : D'.queue = D.queue) (hqq : q' = q) (hk : D'.armed ≠ 0 → (w.setCell ⟨g, i, none⟩ v).ownsRow 0 3 1 k' D'.keep.length (iv D'.keep)) (hset : (dcells vs q k D).set i v = dcells vs q' k' D') (hg : Dk.Good D') (hk1 : k'.oneCell' = true) : DiskV (w.setCell ⟨g, i, none⟩ v) g vs q' k' D' := by
  subst hqq
  refine ⟨by rw [← hset]; exact h.blk.set i v, fun f hf => ?_, ?_, hk, h.apart, hg, hk1⟩
  · rw [hl]
    exact own_same (h.file f hf) fun b hb => set_other w g i b v (h.ffile hf hb).2
  · rw [hq]
    exact own_same h.pend fun b hb => set_other w g i b v (h.fq hb).2
theorem DiskV.keep_set (h : DiskV w g vs q k D) (ha : D.armed ≠ 0) (i : Nat) (v : Value) : (w.setCell ⟨g, i, none⟩ v).ownsRow 0 3 1 k D.keep.length (iv D.keep) :=
  own_same (h.keep ha) fun b hb => set_other w g i b v (fun e => h.not_keep ha hb (.inl e))
/-- A file's row has been rewritten, and its value stored. -/
theorem DiskV.setFile (h : DiskV w g vs q k D) {f : Nat} (hf : f < 12) {v' : Value} {s : Dk.B} (hg : w.grownBy w' (vs f).ownBlock) (ho : w'.ownsRow 0 5 1 v' s.length (bv s)) (hs : SF w (vs f) v') (hl : s.length ≤ 16777216) :
    DiskV (w'.setCell ⟨g, f, none⟩ v') g (upd vs f v') q k { D with last := Dk.setLast D.last f s } ∧ Mv g w (w'.setCell ⟨g, f, none⟩ v') := by
  have hgg : w'.heap[g]? = w.heap[g]? := hg.block g h.lt (fun e => (h.ffile hf e.symm).2 rfl)
  have hblk : Blk w' g _ _ := hgg.trans h.blk
  have hne : v'.ownBlock ≠ some g := own_ne ho hblk (by decide)
  have hsame : ∀ b, b < w.heap.size → (vs f).ownBlock ≠ some b → b ≠ g → (w'.setCell ⟨g, f, none⟩ v').heap[b]? = w.heap[b]? := fun b hb hn hbg => by
    rw [set_other w' g f b v' hbg]
    exact hg.block b hb (fun e => hn e.symm)
  have hM1 : Mv g w w' := Mv.of_grown hg (fun x hx => h.ffile hf hx) h.lt
  refine ⟨⟨by rw [← dcells_upd vs q k D f hf v' _]; exact hblk.set f v', fun i hi => ?_, ?_, fun ha => ?_, fun i j hi hj hij => ?_, ?_, h.kone⟩, hM1.store hblk f v' fun x hx => ?_⟩
  · show World.ownsRow _ _ _ _ (upd vs f v' i) (Dk.setLast D.last f s i).length (bv (Dk.setLast D.last f s i))
    unfold upd Dk.setLast
    by_cases hif : i = f
    · rw [if_pos hif, if_pos hif]
      exact own_same ho fun b hb => set_other w' g f b v' (fun e => hne (by rw [← e]; exact hb))
    · rw [if_neg hif, if_neg hif]
      refine own_same (h.file i hi) fun b hb => hsame b (own_lt (h.file i hi) hb) (fun e => ?_) (h.ffile hi hb).2
      rcases h.apart i f hi hf hif with h1 | h1
      · rw [h1] at hb; cases hb
      · exact h1 (hb.trans e.symm)
  · refine own_same h.pend fun b hb => hsame b (own_lt h.pend hb) (fun e => ?_) (h.fq hb).2
    rcases own_apart h.pend (h.file f hf) (by decide) with h1 | h1
    · rw [h1] at hb; cases hb
    · exact h1 (hb.trans e.symm)
  · refine own_same (h.keep ha) fun b hb => hsame b (h.keep_lt ha hb) (fun e => h.not_keep ha hb (h.ffile hf e).1) (fun e => h.not_keep ha hb (.inl e))
  · have key : ∀ j, j < 12 → j ≠ f → v'.ownBlock = none ∨ v'.ownBlock ≠ (vs j).ownBlock := fun j hj hjf => by
      rcases hs with h1 | ⟨b, h1, h2⟩
      · rw [h1]; exact h.apart f j hf hj (fun e => hjf e.symm)
      · refine .inr fun e => ?_
        rw [h1] at e
        have := own_lt (h.file j hj) e.symm
        omega
    unfold upd
    by_cases hif : i = f
    · rw [if_pos hif, if_neg (by omega)]
      exact key j hj (by omega)
    · rw [if_neg hif]
      by_cases hjf : j = f
      · rw [if_pos hjf]
        rcases key i hi hif with h1 | h1
        · cases hv : (vs i).ownBlock with
          | none => exact .inl rfl
          | some x => exact .inr (by rw [h1]; simp)
        · exact .inr fun e => h1 e.symm
      · rw [if_neg hjf]
        exact h.apart i j hi hj hij
  · refine ⟨fun i hi => ?_, h.good.pcs, h.good.q, h.good.lost0, h.good.lost1, h.good.armed0, h.good.armed1⟩
    show (Dk.setLast D.last f s i).length ≤ _
    unfold Dk.setLast
    split
    · exact hl
    · exact h.good.len i hi
  · rcases hs with h1 | ⟨b, h1, h2⟩
    · rw [h1] at hx
      exact .inr (.inl (h.ffile hf hx).1)
    · rw [h1] at hx
      injection hx with hx
      exact .inr (.inr (by omega))
end Go.Proofs.Ytbelmadbjiiodaa
