/-
  Rows of pairs of strings (fields, parameters): an argument's, and a row of the call's own; appending says which block it is.
-/
import Derived.Test.YtliadekcbkedmaaDoorHRs
import Derived.Lib.SmallJoins
import Derived.Laws.CopyOwn
import Derived.Laws.Rows
import Derived.Laws.Tables
import Derived.OneCell
import Derived.BigRegion
import Derived.Laws.ResultCell
namespace Go.Proofs.YtliadekcbkedmaaDoor
open Go Go.RowKit Go.Shelf
/-- All cells of block g, of which none is frozen. -/
def Blk (w : World) (g : Nat) (t : TypeId) (L : List Value) : Prop := w.heap[g]? = some (.cells L.toArray t (0, 0))
section
variable {w : World} {g : Nat} {t : TypeId} {L : List Value}
theorem Blk.lt (h : Blk w g t L) : g < w.heap.size := (Array.getElem?_eq_some_iff.1 h).1
theorem Blk.cell (h : Blk w g t L) {j : Nat} {v : Value} (hv : L[j]? = some v) : w.cell? ⟨g, j, none⟩ = some v := by unfold Blk at h; simp [World.cell?, h, hv]
theorem Blk.free (h : Blk w g t L) (j : Nat) : w.frozen? ⟨g, j, none⟩ = false := by unfold Blk at h; simp [World.frozen?, h]
theorem Blk.set (h : Blk w g t L) (j : Nat) (v : Value) : Blk (w.setCell ⟨g, j, none⟩ v) g t (L.set j v) := by
  have := heap_setCell_same w g j _ _ v h
  simpa [Blk] using this
theorem Blk.as {L' : List Value} (h : Blk w g t L) (e : L = L') : Blk w g t L' := e ▸ h
end
theorem Blk.made (w : World) (c : Array Value) (t : TypeId) : Blk (w.alloc (.cells c t)) w.heap.size t c.toList := by
  show (w.heap.push _)[w.heap.size]? = _
  simp

theorem results_row_tmp {fn : Func} {p u : Tmp} {ty : TypeId} (h : fn.results = #[.cell p ty, .tmp u]) (tmps : Array Value) (w : World) (g : Nat) (t : TypeId) (cs : Array Value) (fr : Nat × Nat) (fs : Array Field)
    (hp : tmps.getD p undef = .pointer (some ⟨g, 0, none⟩)) (hg : w.heap[g]? = some (.cells cs t fr))
    (hu : Tryd.prog.underlying ty = some (.struct fs)) (hi : (Tryd.prog.info? ty).map (·.size) = some cs.size) :
    (results fn tmps).run Tryd.prog w = .ok (.tuple #[.agg cs, tmps.getD u undef]) w := by
  rw [results_cell_tmp h, hp]
  have := run_loadVar_row (P := Tryd.prog) w g t ty cs fr _ hg hu rfl hi
  simp [asAddr, Result.andThen, this]
def pcv (p : Hd.Fd) : List Value := [encStr p.1, encStr p.2]
def pv (q : List Hd.Fd) : List Value := q.flatMap pcv
theorem pv_cells (l : List Hd.Fd) : ∀ v ∈ pv l, v.oneCell' = true := fun v hv => by
  obtain ⟨p, _, h⟩ := List.mem_flatMap.1 hv
  simp [pcv] at h
  rcases h with rfl | rfl <;> rfl
theorem pv_append (a b : List Hd.Fd) : pv (a ++ b) = pv a ++ pv b := by simp [pv]
theorem pv_cons (p : Hd.Fd) (q : List Hd.Fd) : pv (p :: q) = pcv p ++ pv q := by simp [pv]
theorem pv_length : ∀ q : List Hd.Fd, (pv q).length = q.length * 2
  | [] => rfl
  | p :: q => by rw [pv_cons, List.length_append, pv_length q]; simp [pcv]; omega
theorem pv_at : ∀ (q : List Hd.Fd) (j i : Nat) (p : Hd.Fd) (v : Value), q[j]? = some p → (pcv p)[i]? = some v → (pv q)[j * 2 + i]? = some v
  | [], j, i, p, v, h, _ => by simp at h
  | p :: q, 0, i, p', v, h, hv => by
    simp at h; subst h
    rw [pv_cons, Nat.zero_mul, Nat.zero_add, List.getElem?_append_left (List.getElem?_eq_some_iff.1 hv).1]
    exact hv
  | p :: q, j + 1, i, p', v, h, hv => by
    rw [pv_cons, List.getElem?_append_right (by simp [pcv]; omega)]
    have := pv_at q j i p' v (by simpa using h) hv
    rw [← this]; congr 1; simp [pcv]; omega
theorem pv_take (q : List Hd.Fd) (n : Nat) : (pv q).take (n * 2) = pv (q.take n) := by
  rw [← List.take_append_drop n q, pv_append, List.take_append_drop]
  by_cases h : n ≤ q.length
  · rw [List.take_left' (by rw [pv_length, List.length_take, Nat.min_eq_left h])]
  · rw [List.drop_of_length_le (by omega), List.take_of_length_le (l := q) (by omega)]
    rw [List.take_of_length_le (by rw [List.length_append, pv_length]; simp [pv]; omega)]
    simp [pv]
theorem infoF : (Tryd.prog.info? 35).map (fun i => (i.zero, i.size, i.bytes)) = some (some (.agg #[.string ⟨#[]⟩, .string ⟨#[]⟩]), 2, 32) := by kernel_rfl
theorem infoQ : (Tryd.prog.info? 25).map (fun i => (i.zero, i.size, i.bytes)) = some (some (.agg #[.string ⟨#[]⟩, .string ⟨#[]⟩]), 2, 32) := by kernel_rfl
/-- A slice that reads as these pairs. -/
structure PL (w : World) (xa : Option Addr) (b off : Nat) (X : List Hd.Fd) : Prop where
  at_ : 0 < X.length → xa = some ⟨b, off, none⟩
  c : ∀ j p, X[j]? = some p → w.cell? ⟨b, off + j * 2, none⟩ = some (encStr p.1) ∧ w.cell? ⟨b, off + j * 2 + 1, none⟩ = some (encStr p.2)
  lt : 0 < X.length → b < w.heap.size
theorem PL.below {w w' : World} {B : Nat} {xa : Option Addr} {b off : Nat} {X : List Hd.Fd} (h : PL w xa b off X) (hb : Below B w w') (hB : 0 < X.length → b < B) : PL w' xa b off X :=
  ⟨h.at_, fun j p hp => by
    have hl := hB (by have := (List.getElem?_eq_some_iff.1 hp).1; omega)
    obtain ⟨x, y⟩ := h.c j p hp
    exact ⟨(hb.cell (p := ⟨b, off + j * 2, none⟩) hl).trans x, (hb.cell (p := ⟨b, off + j * 2 + 1, none⟩) hl).trans y⟩, fun hp => Nat.lt_of_lt_of_le (h.lt hp) hb.size⟩
theorem PL.new {w w' : World} {xa : Option Addr} {b off : Nat} {X : List Hd.Fd} (h : PL w xa b off X) (hb : Below w.heap.size w w') : PL w' xa b off X := h.below hb h.lt
theorem PL.nil (w : World) (xa : Option Addr) (b off : Nat) : PL w xa b off [] := ⟨fun h => absurd h (Nat.lt_irrefl _), fun j p h => by simp at h, fun h => absurd h (Nat.lt_irrefl _)⟩
/-- A value that holds just these pairs, the call's own. -/
def FOwn (T : TypeId) (w : World) (base : Nat) (v : Value) (X : List Hd.Fd) : Prop := w.ownsRow base T 2 v X.length (pv X)
theorem own_below {w w' : World} {B : Nat} {base : Nat} {e : TypeId} {sz : Nat} {v : Value} {n : Nat} {xs : List Value} (h : w.ownsRow base e sz v n xs) (hb : Below B w w') (hB : ∀ b, v.ownBlock = some b → b < B) : w'.ownsRow base e sz v n xs := by
  obtain ⟨h1, h | ⟨g, cap, cur, rfl, h2, hg, h3, h4, h5, h6⟩⟩ := h
  · exact ⟨h1, .inl h⟩
  · exact ⟨h1, .inr ⟨g, cap, cur, rfl, h2, (hb.block g (hB g rfl)).trans hg, h3, h4, h5, h6⟩⟩
theorem own_lt {w : World} {base : Nat} {e : TypeId} {sz : Nat} {v : Value} {n : Nat} {xs : List Value} (h : w.ownsRow base e sz v n xs) : ∀ b, v.ownBlock = some b → b < w.heap.size := fun b hb => by
  obtain ⟨_, ⟨rfl, _⟩ | ⟨g, cap, cur, rfl, h2, hg, _⟩⟩ := h
  · cases hb
  · injection hb with hb
    subst hb
    exact (Array.getElem?_eq_some_iff.1 hg).1
theorem own_from {w : World} {base : Nat} {e : TypeId} {size : Nat} {v : Value} {n : Nat} {xs : List Value} (h : w.ownsRow base e size v n xs) : ∀ b, v.ownBlock = some b → base ≤ b := fun b hb => by
  obtain ⟨_, ⟨rfl, _⟩ | ⟨g, cap, cur, rfl, h2, _⟩⟩ := h
  · cases hb
  · injection hb with hb
    subst hb
    exact h2
theorem own_base {w : World} {b b' : Nat} {e : TypeId} {size : Nat} {v : Value} {n : Nat} {xs : List Value} (h : w.ownsRow b e size v n xs) (hb : b' ≤ b) : w.ownsRow b' e size v n xs := by
  refine ⟨h.1, ?_⟩
  rcases h.2 with hn | ⟨g, cap, cur, hv, hbg, rest⟩
  · exact .inl hn
  · exact .inr ⟨g, cap, cur, hv, Nat.le_trans hb hbg, rest⟩
theorem own_slice {w : World} {base : Nat} {e : TypeId} {size : Nat} {v : Value} {n : Nat} {xs : List Value} (h : w.ownsRow base e size v n xs) : ∃ pa c, v = .slice pa n c := by
  rcases h.2 with ⟨rfl, rfl⟩ | ⟨g, cap, _, rfl, _⟩
  · exact ⟨_, _, rfl⟩
  · exact ⟨_, _, rfl⟩
theorem FOwn.nil (T : TypeId) (w : World) (base : Nat) : FOwn T w base (.slice none 0 0) [] := World.ownsRow_nil _ _ _ _
theorem FOwn.new {T : TypeId} {w w' : World} {base : Nat} {v : Value} {X : List Hd.Fd} (h : FOwn T w base v X) (hb : Below w.heap.size w w') : FOwn T w' base v X := own_below h hb (own_lt h)
theorem FOwn.row {T : TypeId} {w : World} {base : Nat} {v : Value} {L : List Hd.Fd} (h : FOwn T w base v L) : ∃ xa b cap, v = .slice xa L.length cap ∧ PL w xa b 0 L ∧ L.length ≤ cap ∧ cap ≤ 9223372036854775807 ∧ (xa = none ∨ xa = some ⟨b, 0, none⟩) := by
  have hh := h
  unfold FOwn at h
  rcases h.2 with ⟨rfl, h0⟩ | ⟨gq, cap, cur, rfl, _, hg, h1, h2, _⟩
  · refine ⟨none, 0, 0, by rw [h0], ⟨fun hp => by omega, fun j p hp => ?_, fun hp => by omega⟩, by omega, by omega, .inl rfl⟩
    rw [List.eq_nil_of_length_eq_zero h0] at hp
    simp at hp
  · refine ⟨_, gq, cap, rfl, ⟨fun _ => rfl, fun j p hp => ?_, fun _ => (Array.getElem?_eq_some_iff.1 hg).1⟩, h1, by unfold maxLen at h2; omega, .inr rfl⟩
    have key : ∀ (i : Nat) (v : Value), (pcv p)[i]? = some v → w.cell? ⟨gq, j * 2 + i, none⟩ = some v := fun i v hv => by
      have h1 := h.cells (g := gq) rfl (j * 2 + i) v (pv_at L j i p v hp hv)
      rw [add_plain0] at h1
      exact h1
    rw [Nat.zero_add]
    exact ⟨key 0 _ rfl, key 1 _ rfl⟩
/-- The value's block is the same, or new. -/
def SF (w : World) (v v' : Value) : Prop := v'.ownBlock = v.ownBlock ∨ ∃ b, v'.ownBlock = some b ∧ w.heap.size ≤ b
theorem SF.refl (w : World) (v : Value) : SF w v v := .inl rfl
theorem below_grown {B : Nat} {w wr w1 : World} {r : Option Nat} (h : Below B w wr) (hB : B ≤ w.heap.size) (hg : wr.grownBy w1 r) (hr : ∀ b, r = some b → B ≤ b) : Below B w w1 :=
  ⟨hg.os.trans h.os, hg.tape.trans h.tape, hg.output.trans h.output, Nat.le_trans h.size hg.size, fun i hi => (hg.block i (Nat.lt_of_lt_of_le (Nat.lt_of_lt_of_le hi hB) h.size) (fun e => by have := hr i e.symm; omega)).trans (h.block i hi)⟩
theorem below_new (w : World) (o : Obj) : Below w.heap.size w (w.alloc o) := (Below.refl _ _).alloc (Nat.le_refl _) o
theorem below_to {B : Nat} {a w w' : World} (h : Below B a w) (hB : B ≤ a.heap.size) (k : Below w.heap.size w w') : Below B a w' := h.trans (k.mono (Nat.le_trans hB h.size))
section
variable (w : World) {base : Nat} {e : TypeId} {size : Nat} {v : Value} {n : Nat} {xs : List Value}
theorem app_same (ty : TypeId) (i : TypeInfo) (z : Value) (bytes : Nat) {ts : TypeId} (ht : Tryd.prog.underlying ts = some (.slice e)) (hi : Tryd.prog.info? e = some i) (hz : i.zero = some z)
    (hsize : i.size = size) (hby : i.bytes = bytes) (hzs : z.cells.size = size) (hsz : 0 < size) (hown : w.ownsRow base e size v n xs)
    (a : Addr) (m c : Nat) (news : List Value) (hl : news.length = m * size) (hnews : ∀ j u, news[j]? = some u → w.cell? (a.add j) = some u) (h1 : ∀ u ∈ news, u.oneCell' = true)
    (h63 : n + m ≤ maxLen) (hbytes : (n + m) * bytes ≤ 140737488355328) (hbase : base ≤ w.heap.size) :
    ∃ v' w', (Builtin.append_ #[ts, ts] ty #[v, .slice (some a) m c]).run Tryd.prog w = .ok v' w' ∧ w'.ownsRow base e size v' (n + m) (xs ++ news) ∧ w.grownBy w' v.ownBlock ∧ SF w v v' := by
  obtain ⟨v', w', hr, h2, h3, _⟩ := run_append_own (P := Tryd.prog) w base ts ty e i z size bytes ht hi hz hsize hby hzs hsz v n xs hown a m c news hl hnews h1 h63 hbytes hbase
  refine ⟨v', w', hr, h2, h3, ?_⟩
  subst hsize
  subst hby
  rcases hown.2 with ⟨rfl, rfl⟩ | ⟨g, cap, cur, rfl, hbg, hg, hnc, hcm, hcs, htake⟩
  · by_cases hm : m = 0
    · subst hm
      have hn : news = [] := List.eq_nil_of_length_eq_zero (by simpa using hl)
      subst hn
      rcases h2.2 with ⟨rfl, _⟩ | ⟨g', cap', cur', rfl, _⟩
      · exact .inl rfl
      · have : (Builtin.append_ #[ts, ts] ty #[.slice none 0 0, .slice (some a) 0 c]).run Tryd.prog w = .ok (.slice none 0 0) w := by
          simp [Builtin.append_, run_underlying ht, sizeOf, typeInfo, hi, Builtin.lenOf, Builtin.firstCells, loadCells, loadCellsFrom]
        rw [this] at hr
        injection hr with h _
        cases h
    · have hr2 := run_append_nil (P := Tryd.prog) w ts ty e i z ht hi hz a m c news hl hnews (by omega) (by simp only [maxLen] at h63; omega) (by have hb := hbytes; simp only [Nat.zero_add] at hb; omega)
      rw [hr2] at hr
      injection hr with h _
      subst h
      exact .inr ⟨_, rfl, Nat.le_refl _⟩
  · by_cases hroom : n + m ≤ cap
    · have hfit : n * i.size + news.length ≤ cur.size := by rw [hl, hcs, ← Nat.add_mul]; exact Nat.mul_le_mul_right _ hroom
      have hr2 := run_append_room (P := Tryd.prog) w ts ty e i ht hi g n cap cur hg a m c news hl hnews h1 hroom hfit
      rw [hr2] at hr
      injection hr with h _
      subst h
      exact .inl rfl
    · have holds : ∀ j u, xs[j]? = some u → w.cell? ((⟨g, 0, none⟩ : Addr).add j) = some u := hown.cells (g := g) rfl
      have hr2 := run_append_grow (P := Tryd.prog) w ts ty e i z ht hi hz ⟨g, 0, none⟩ n cap xs hown.1 holds a m c news hl hnews (by omega) (by simp only [maxLen] at h63; omega) (growslice_fits (by omega) hbytes)
      rw [hr2] at hr
      injection hr with h _
      subst h
      exact .inr ⟨_, rfl, Nat.le_refl _⟩
end
section
variable {w : World} {ops : Array Oper} {o : Oper} {a : Act} {Q : Exit → Act → World → Prop} {rest : List Oper}
theorem wp_app_pair {K : Act → World → Prop} {T TS : TypeId} (ht : Tryd.prog.underlying TS = some (.slice T)) (hinfo : (Tryd.prog.info? T).map (fun i => (i.zero, i.size, i.bytes)) = some (some (.agg #[.string ⟨#[]⟩, .string ⟨#[]⟩]), 2, 32))
    (s x : Operand) (ho : o.op = .call { callee := .builtin .append, args := #[s, x], argTypes := #[TS, TS] })
    {v : Value} {L : List Hd.Fd} (base : Nat) (hs : a.eval s = v) (hown : FOwn T w base v L) (ad : Addr) (c : Nat) (p : Hd.Fd) (hx : a.eval x = .slice (some ad) 1 c) (hnews : ∀ j u, (pcv p)[j]? = some u → w.cell? (ad.add j) = some u) (hbig : L.length ≤ 1000000) (hbase : base ≤ w.heap.size)
    (h : ∀ v' w', FOwn T w' base v' (L ++ [p]) → w.grownBy w' v.ownBlock → SF w v v' → K (a.put o.dst v') w') : Oper.wp Tryd.prog o a w K Q := by
  obtain ⟨i0, hi, hz0, hz1, hz2⟩ := info_parts hinfo
  obtain ⟨v', w', hr, h2, h3, h4⟩ := app_same w o.type i0 _ 32 ht hi hz0 hz1 hz2 rfl (by omega) hown ad 1 c (pcv p) rfl hnews (by intro u hu; simp [pcv] at hu; rcases hu with rfl | rfl <;> rfl) (by unfold maxLen; omega) (by omega) hbase
  unfold Oper.wp execOp
  simp only [ho, resolve, invoke, builtin, Sem.run_bind, Sem.run_pure, Result.andThen_ok, List.map_toArray, List.map_cons, List.map_nil, hs, hx, hr]
  refine h v' w' ?_ h3 h4
  have e : (L ++ [p]).length = L.length + 1 := by simp
  have e2 : pv (L ++ [p]) = pv L ++ pcv p := by rw [pv_append]; simp [pv]
  unfold FOwn
  rw [e, e2]
  exact h2
theorem wpList_app_pair {T TS : TypeId} (ht : Tryd.prog.underlying TS = some (.slice T)) (hinfo : (Tryd.prog.info? T).map (fun i => (i.zero, i.size, i.bytes)) = some (some (.agg #[.string ⟨#[]⟩, .string ⟨#[]⟩]), 2, 32))
    (hgd : o.guard = none) (s x : Operand) (ho : o.op = .call { callee := .builtin .append, args := #[s, x], argTypes := #[TS, TS] })
    {v : Value} {L : List Hd.Fd} (base : Nat) (hs : a.eval s = v) (hown : FOwn T w base v L) (ad : Addr) (c : Nat) (p : Hd.Fd) (hx : a.eval x = .slice (some ad) 1 c) (hnews : ∀ j u, (pcv p)[j]? = some u → w.cell? (ad.add j) = some u) (hbig : L.length ≤ 1000000) (hbase : base ≤ w.heap.size)
    (h : ∀ v' w', FOwn T w' base v' (L ++ [p]) → w.grownBy w' v.ownBlock → SF w v v' → wpList Tryd.prog ops Q rest (a.put o.dst v') w') : wpList Tryd.prog ops Q (o :: rest) a w :=
  wpList_plain hgd fun _ hK => wp_app_pair ht hinfo s x ho base hs hown ad c p hx hnews hbig hbase fun v' w' h1 h2 h3 => hK _ _ (h v' w' h1 h2 h3)
/-- out = append(out, p): the pair stands in a new block; what was below stays. -/
theorem wpList_app_new {w0 : World} {T TS : TypeId} (ht : Tryd.prog.underlying TS = some (.slice T)) (hinfo : (Tryd.prog.info? T).map (fun i => (i.zero, i.size, i.bytes)) = some (some (.agg #[.string ⟨#[]⟩, .string ⟨#[]⟩]), 2, 32))
    (hgd : o.guard = none) (s x : Operand) (ho : o.op = .call { callee := .builtin .append, args := #[s, x], argTypes := #[TS, TS] })
    {v : Value} {L : List Hd.Fd} {base : Nat} (p : Hd.Fd) (hown : FOwn T w base v L) (hB : Below base w0 w) (hb0 : base ≤ w0.heap.size) (hbig : L.length ≤ 1000000)
    (hs : a.eval s = v) (hx : a.eval x = .slice (some ⟨w.heap.size, 0, none⟩) 1 1)
    (h : ∀ pa pn pc w', Hid (FOwn T w' base (.slice pa pn pc) (L ++ [p])) → Hid (Below base w0 w') → wpList Tryd.prog ops Q rest (a.put o.dst (.slice pa pn pc)) w') : wpList Tryd.prog ops Q (o :: rest) a (w.alloc (.cells #[encStr p.1, encStr p.2] T)) := by
  have hbs : base ≤ w.heap.size := Nat.le_trans hb0 hB.size
  refine wpList_app_pair ht hinfo hgd s x ho base hs (hown.new (below_new w _)) ⟨w.heap.size, 0, none⟩ 1 p hx (cells_new w (pcv p) T) hbig (by rw [alloc_size]; omega) fun v' w' h1 h2 h3 => ?_
  obtain ⟨pa, pc, rfl⟩ := own_slice h1
  exact h _ _ _ _ (Lib.hid h1) (Lib.hid (below_grown (below_to hB hb0 (below_new w _)) hb0 h2 (own_from hown)))
end
end Go.Proofs.YtliadekcbkedmaaDoor
