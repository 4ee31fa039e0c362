/-
  A Builder with its buffer named: Write, WriteByte; rows of bytes beside it; writeLine.
-/
import Derived.Test.YtliadekcbkedmaaDoorFQt
import Derived.Lib.ConvBytes
import Derived.ArgAppend
import Derived.Laws.IdiomCopy
namespace Go.Proofs.YtliadekcbkedmaaDoor
open Go Go.RowKit Go.Shelf
theorem infoU : (Tryd.prog.info? 5).map (fun i => (i.zero, i.size, i.bytes)) = some (some (.int .u8 0), 1, 1) := by kernel_rfl
theorem byte_cells (l : List UInt8) : ∀ v ∈ Lib.byteCells l, v.oneCell' = true := fun v hv => by
  obtain ⟨b, _, rfl⟩ := List.mem_map.1 hv
  rfl
theorem byte_at {l : List UInt8} {j : Nat} {c : UInt8} (h : l[j]? = some c) : (Lib.byteCells l)[j]? = some (.int .u8 (c.toNat : Int)) := by
  unfold Lib.byteCells
  rw [List.getElem?_map, h]
  rfl
theorem byte_of {l : List UInt8} {j : Nat} {u : Value} (h : (Lib.byteCells l)[j]? = some u) : ∃ c, l[j]? = some c ∧ u = .int .u8 (c.toNat : Int) := by
  unfold Lib.byteCells at h
  rw [List.getElem?_map] at h
  cases hl : l[j]? with
  | none => rw [hl] at h; cases h
  | some c => rw [hl] at h; cases h; exact ⟨c, rfl, rfl⟩
/-- These bytes lie there, and can be written. -/
structure BS (w : World) (g off : Nat) (S : List UInt8) : Prop where
  cell : ∀ j c, S[j]? = some c → w.cell? ⟨g, off + j, none⟩ = some (.int .u8 (c.toNat : Int))
  free : ∀ j, j < S.length → w.frozen? ⟨g, off + j, none⟩ = false
  lt : g < w.heap.size
  kind : ∃ C fz, w.heap[g]? = some (.cells C 5 fz)
theorem BS.same {w w' : World} {g off : Nat} {S : List UInt8} (h : BS w g off S) (hg : w'.heap[g]? = w.heap[g]?) : BS w' g off S := by
  refine ⟨fun j c hj => (World.cell?_of_block (a := ⟨g, off + j, none⟩) hg).trans (h.cell j c hj), fun j hj => (World.frozen?_of_block (a := ⟨g, off + j, none⟩) hg).trans (h.free j hj), ?_, ?_⟩
  have h1 : w.heap[g]? = some (w.heap[g]'h.lt) := Array.getElem?_eq_getElem h.lt
  · rw [h1] at hg
    exact (Array.getElem?_eq_some_iff.1 hg).1
  · rw [hg]; exact h.kind
theorem BS.new {w w' : World} {g off : Nat} {S : List UInt8} (h : BS w g off S) (hb : Below w.heap.size w w') : BS w' g off S := h.same (hb.block g h.lt)
theorem BS.drop {w : World} {g off : Nat} {S : List UInt8} (h : BS w g off S) (k : Nat) : BS w g (off + k) (S.drop k) :=
  ⟨fun j c hj => by rw [Nat.add_assoc]; exact h.cell _ c (by rwa [List.getElem?_drop] at hj), fun j hj => by rw [Nat.add_assoc]; exact h.free _ (by rw [List.length_drop] at hj; omega), h.lt, h.kind⟩
theorem BS.take {w : World} {g off : Nat} {S : List UInt8} (h : BS w g off S) (k : Nat) : BS w g off (S.take k) :=
  ⟨fun j c hj => h.cell j c (by rw [List.getElem?_take] at hj; split at hj; exact hj; cases hj), fun j hj => h.free j (by rw [List.length_take] at hj; omega), h.lt, h.kind⟩
theorem BS.set0 {w : World} {g off : Nat} {c x : UInt8} {S : List UInt8} (h : BS w g off (c :: S)) : BS (w.setCell ⟨g, off, none⟩ (.int .u8 (x.toNat : Int))) g off (x :: S) := by
  refine ⟨fun j y hj => ?_, fun j hj => by rw [World.frozen?_setCell]; exact h.free j hj, by simpa [World.setCell] using h.lt, ?_⟩
  rotate_left
  · obtain ⟨C, fz, hc⟩ := h.kind
    exact ⟨_, fz, by simp [World.setCell, Array.getElem?_modify, hc]; rfl⟩
  cases j with
  | zero =>
    have h0 := h.cell 0 c rfl
    cases hj
    exact World.cell?_setCell_same _ _ _ h0
  | succ j =>
    rw [World.cell?_setCell_other _ _ _ _ (by intro e; injection e with _ e2; omega)]
    exact h.cell (j + 1) y hj
/-- A row of bytes of the call's own: n bytes are known, cap cells can be written. -/
structure BR (w : World) (g cap : Nat) (l : List UInt8) : Prop where
  lt : g < w.heap.size
  kind : ∃ C fz, w.heap[g]? = some (.cells C 5 fz)
  le : l.length ≤ cap
  mx : cap ≤ maxLen
  cell : ∀ j c, l[j]? = some c → w.cell? ⟨g, j, none⟩ = some (.int .u8 (c.toNat : Int))
  room : ∀ j, j < cap → (w.cell? ⟨g, j, none⟩).isSome = true
  free : ∀ j, j < cap → w.frozen? ⟨g, j, none⟩ = false
theorem BR.bs {w : World} {g cap : Nat} {l : List UInt8} (h : BR w g cap l) : BS w g 0 l :=
  ⟨fun j c hj => by rw [Nat.zero_add]; exact h.cell j c hj, fun j hj => by rw [Nat.zero_add]; exact h.free j (by have := h.le; omega), h.lt, h.kind⟩
theorem BR.new {w w' : World} {g cap : Nat} {l : List UInt8} (h : BR w g cap l) (hb : Below w.heap.size w w') : BR w' g cap l :=
  ⟨Nat.lt_of_lt_of_le h.lt hb.size, by rw [hb.block g h.lt]; exact h.kind, h.le, h.mx, fun j c hj => (hb.cell (p := ⟨g, j, none⟩) h.lt).trans (h.cell j c hj), fun j hj => by rw [hb.cell (p := ⟨g, j, none⟩) h.lt]; exact h.room j hj,
    fun j hj => (World.frozen?_of_block (a := ⟨g, j, none⟩) (hb.block g h.lt)).trans (h.free j hj)⟩
/-- The converted string's bytes, in a row of the call's own. -/
theorem bytes_row (s : ByteArray) (hs : s.size ≤ 100000000) (w : World) : ∃ (C : Nat) (W1 : World), (convert 9 44 (.string s)).run Tryd.prog w = .ok (.slice (some ⟨w.heap.size, 0, none⟩) s.size C) W1 ∧ BR W1 w.heap.size C s.data.toList ∧ Below w.heap.size w W1 := by
  have hz := Lib.size_eq s
  have hge := grownCap_ge w s.size 0 5
  have hcs : (Lib.bytesCells w 5 s).size = grownCap w s.size 0 5 := by
    have h2 : s.size = s.data.size := rfl
    simp [Lib.bytesCells]
    omega
  refine ⟨_, _, Lib.run_convert_string_bytes (P := Tryd.prog) w 9 44 5 s Tryd.underlying9 Tryd.underlying44 Tryd.underlying5,
    ⟨by rw [Lib.bytesWorld_size]; omega, ⟨_, _, Lib.bytesWorld_at_new w _ s⟩, by rw [← hz]; exact hge, grownCap_le_maxLen w s.size 0 5 (by unfold maxLen; omega), fun j c hj => ?_, fun j hj => ?_, fun j hj => ?_⟩,
    rfl, rfl, rfl, by rw [Lib.bytesWorld_size]; omega, fun k hk => Lib.bytesWorld_at_old w _ s k hk⟩
  · have hjl := (List.getElem?_eq_some_iff.1 hj).1
    rw [Lib.bytesWorld_cell w _ s j (by rw [hz]; exact hjl), List.getD_eq_getElem?_getD, hj]
    rfl
  · have : j < (Lib.bytesCells w 5 s).size := by omega
    simp [World.cell?, Lib.bytesWorld_at_new, this]
  · simp [World.frozen?, Lib.bytesWorld_at_new]
    try omega
theorem kind_setCells (g : Nat) : ∀ (vs : List Value) (o : Nat) (w : World), (∃ C fz, w.heap[g]? = some (.cells C 5 fz)) → ∃ C fz, (w.setCells g o vs).heap[g]? = some (.cells C 5 fz)
  | [], _, _, h => h
  | v :: r, o, w, h => by
    refine kind_setCells g r (o + 1) (w.setCell ⟨g, o, none⟩ v) ?_
    obtain ⟨C, fz, hc⟩ := h
    exact ⟨_, fz, by simp [World.setCell, Array.getElem?_modify, hc]; rfl⟩
theorem strCells_byte (s : ByteArray) : Lib.strCells s = Lib.byteCells s.data.toList := rfl
/-- append(s, text...). -/
theorem run_app_bs {w : World} {g cap : Nat} {S : List UInt8} (h : BR w g cap S) (ty : TypeId) (s : ByteArray) (_h0 : 0 < s.size) (hbig : S.length + s.size ≤ 1000000000) :
    ∃ g' cap' w', (Builtin.append_ #[44, 9] ty #[.slice (some ⟨g, 0, none⟩) S.length cap, .string s]).run Tryd.prog w = .ok (.slice (some ⟨g', 0, none⟩) (S.length + s.size) cap') w' ∧
      BS w' g' 0 (S ++ s.data.toList) ∧ w.grownBy w' (some g) ∧ (g' = g ∨ w.heap.size ≤ g') ∧ S.length + s.size ≤ cap' := by
  obtain ⟨i, hi, hz0, hz1, hz2⟩ := info_parts infoU
  have hsl : (Lib.byteCells s.data.toList).length = s.size := by rw [Lib.byteCells_length, ← Lib.size_eq]
  by_cases hroom : S.length + s.size ≤ cap
  · have hfc := Lib.run_firstCells_string (P := Tryd.prog) w i.size s
    have hst := run_storeCells_cells (P := Tryd.prog) g S.length (Lib.strCells s) 0 w (by intro j hj; rw [strCells_byte, hsl] at hj; exact h.room _ (by omega)) (by intro j hj; rw [strCells_byte, hsl] at hj; exact h.free _ (by omega)) (by rw [strCells_byte]; exact byte_cells _)
    simp only [Nat.add_zero] at hst
    have hrun : (Builtin.append_ #[44, 9] ty #[.slice (some ⟨g, 0, none⟩) S.length cap, .string s]).run Tryd.prog w = .ok (.slice (some ⟨g, 0, none⟩) (S.length + s.size) cap) (w.setCells g S.length (Lib.strCells s)) := by
      rw [hz1] at hfc
      simp [Builtin.append_, run_underlying (P := Tryd.prog) Tryd.underlying44, run_underlying (P := Tryd.prog) Tryd.underlying9, sizeOf, typeInfo, hi, hz1, Builtin.lenOf, hroom, hfc, Addr.add_lit, hst]
    have hin := World.cell?_setCells_in g (Lib.strCells s) S.length w (fun j hj => h.room _ (by rw [strCells_byte, hsl] at hj; omega))
    have hout := fun j (hj : j < S.length ∨ S.length + (Lib.strCells s).length ≤ j) => World.cell?_setCells_out g (Lib.strCells s) S.length w ⟨g, j, none⟩ (fun _ _ => hj)
    have hgrow : ∀ (vs : List Value) (o : Nat) (u : World), u.grownBy (u.setCells g o vs) (some g) := by
      intro vs
      induction vs with
      | nil => intro o u; exact ⟨rfl, rfl, rfl, Nat.le_refl _, fun _ _ _ => rfl⟩
      | cons x r ih =>
        intro o u
        have h1 := ih (o + 1) (u.setCell ⟨g, o, none⟩ x)
        exact ⟨h1.os, h1.tape, h1.output, Nat.le_trans (by simp [World.setCell]) h1.size, fun k hk hn => (h1.block k (by simpa [World.setCell] using hk) hn).trans (Below.heap_setCell _ _ _ _ (fun e => hn (by simp [e])))⟩
    refine ⟨g, cap, _, hrun, ⟨fun j c hj => ?_, fun j hj => ?_, ?_, ?_⟩, hgrow _ _ _, .inl rfl, hroom⟩
    · rw [Nat.zero_add]
      by_cases hjl : j < S.length
      · rw [hout j (.inl hjl)]
        exact h.cell j c (by rwa [List.getElem?_append_left hjl] at hj)
      · rw [List.getElem?_append_right (by omega)] at hj
        have hb := byte_at hj
        have hlt : j - S.length < (Lib.strCells s).length := (List.getElem?_eq_some_iff.1 hb).1
        have := hin (j - S.length) hlt
        rw [show S.length + (j - S.length) = j by omega] at this
        rw [this, ← hb]
        exact (List.getElem?_eq_getElem (l := Lib.strCells s) hlt).symm
    · rw [List.length_append, ← Lib.size_eq] at hj
      rw [Nat.zero_add, World.frozen?_setCells]
      exact h.free j (by omega)
    · exact Nat.lt_of_lt_of_le h.lt (hgrow _ _ _).size
    · exact kind_setCells g _ _ _ h.kind
  · have hold : ∀ j u, (Lib.byteCells S)[j]? = some u → w.cell? ((⟨g, 0, none⟩ : Addr).add j) = some u := fun j u hj => by
      obtain ⟨c, hc, rfl⟩ := byte_of hj
      rw [add_plain0]
      exact h.cell j c hc
    have hrun := Lib.run_append_grow_string (P := Tryd.prog) w 44 9 ty 5 i (.int .u8 0) Tryd.underlying44 Tryd.underlying9 hi hz0 ⟨g, 0, none⟩ S.length cap (Lib.byteCells S) (by rw [hz1, Lib.byteCells_length, Nat.mul_one]) hold s (by omega) (by omega) (by rw [hz2]; exact growslice_fits (by omega) (by omega))
    have hge := grownCap_ge w (S.length + s.size) cap 5
    refine ⟨w.heap.size, _, _, hrun, ⟨fun j c hj => ?_, fun j hj => ?_, by rw [alloc_size]; show w.heap.size < w.heap.size + 1; omega, ⟨_, _, heap_alloc_new w.drew _⟩⟩, ⟨rfl, rfl, rfl, by rw [alloc_size]; show w.heap.size ≤ w.heap.size + 1; omega, fun k hk _ => heap_alloc_old w.drew _ hk⟩, .inr (Nat.le_refl _), hge⟩
    · have hb := byte_at hj
      have hbl : (Lib.byteCells (S ++ s.data.toList)) = Lib.byteCells S ++ Lib.strCells s := by rw [strCells_byte]; simp [Lib.byteCells]
      rw [hbl] at hb
      rw [Nat.zero_add]
      have hh := heap_alloc_new w.drew (.cells ((Lib.byteCells S).toArray ++ (Lib.strCells s).toArray ++ Builtin.zeroCells (Value.int IntKind.u8 0).cells (grownCap w (S.length + s.size) cap 5 - (S.length + s.size))) 5)
      have hjl : j < (Lib.byteCells S ++ Lib.strCells s).length := (List.getElem?_eq_some_iff.1 hb).1
      rw [show w.drew.heap.size = w.heap.size from rfl] at hh
      simp only [World.cell?, hh]
      rw [if_neg (by simp), Array.getElem?_append_left (by simpa using hjl)]
      simpa using hb
    · have hh := heap_alloc_new w.drew (.cells ((Lib.byteCells S).toArray ++ (Lib.strCells s).toArray ++ Builtin.zeroCells (Value.int IntKind.u8 0).cells (grownCap w (S.length + s.size) cap 5 - (S.length + s.size))) 5)
      rw [show w.drew.heap.size = w.heap.size from rfl] at hh
      simp only [World.frozen?, hh]
      simp
theorem wpList_app_bs {w : World} {ops : Array Oper} {o : Oper} {a : Act} {Q : Exit → Act → World → Prop} {rest : List Oper} (hgd : o.guard = none) (sl x : Operand)
    (ho : o.op = .call { callee := .builtin .append, args := #[sl, x], argTypes := #[44, 9] })
    {g cap n : Nat} {S : List UInt8} (h : BR w g cap S) (hn : S.length = n) (s : ByteArray) (h0 : 0 < s.size) (hbig : S.length + s.size ≤ 1000000000)
    (hs : a.eval sl = .slice (some ⟨g, 0, none⟩) n cap) (hx : a.eval x = .string s)
    (hK : ∀ g' cap' w', Hid (BS w' g' 0 (S ++ s.data.toList)) → Hid (w.grownBy w' (some g)) → Hid (g' = g ∨ w.heap.size ≤ g') → S.length + s.size ≤ cap' → wpList Tryd.prog ops Q rest (a.put o.dst (.slice (some ⟨g', 0, none⟩) (S.length + s.size) cap')) w') :
    wpList Tryd.prog ops Q (o :: rest) a w := by
  subst hn
  refine wpList_plain hgd fun K' hK' => ?_
  obtain ⟨g', cap', w', hr, h1, h2, h3, h4⟩ := run_app_bs h o.type s h0 hbig
  unfold Oper.wp execOp
  simp only [ho, resolve, invoke, builtin, Sem.run_bind, Sem.run_pure, Result.andThen_ok, List.map_toArray, List.map_cons, List.map_nil, hs, hx, hr]
  exact hK' _ _ (hK g' cap' w' (Lib.hid h1) (Lib.hid h2) (Lib.hid h3) h4)
/-! ### the builder -/
structure BAt (w : World) (B b : Nat) (v : Value) (l : List UInt8) : Prop where
  at_ : ∃ p, (p = .pointer none ∨ p = .pointer (some ⟨b, 0, none⟩)) ∧ w.heap[b]? = some (.cells #[p, v] 61 (0, 0))
  own : w.ownsRowF B 5 1 v (Lib.byteCells l).length (Lib.byteCells l)
  lo : b < B
/-- What a write to a builder leaves alone. -/
structure BMv (w w' : World) (b : Nat) (v : Value) : Prop where
  os : w'.os = w.os
  tape : w'.tape = w.tape
  output : w'.output = w.output
  size : w.heap.size ≤ w'.heap.size
  block : ∀ k, k < w.heap.size → k ≠ b → v.ownBlock ≠ some k → w'.heap[k]? = w.heap[k]?
theorem BAt.lt {w : World} {B b : Nat} {v : Value} {l : List UInt8} (h : BAt w B b v l) : b < w.heap.size := let ⟨_, _, h⟩ := h.at_; (Array.getElem?_eq_some_iff.1 h).1
theorem BAt.same {w w' : World} {B b : Nat} {v : Value} {l : List UInt8} (h : BAt w B b v l) (h1 : w'.heap[b]? = w.heap[b]?) (h2 : ∀ k, v.ownBlock = some k → w'.heap[k]? = w.heap[k]?) : BAt w' B b v l := by
  refine ⟨let ⟨p, h3, h4⟩ := h.at_; ⟨p, h3, h1.trans h4⟩, ⟨h.own.1, ?_⟩, h.lo⟩
  rcases h.own.2 with hn | ⟨g, cap, cur, fz, hv, hb, hg, rest⟩
  · exact .inl hn
  · exact .inr ⟨g, cap, cur, fz, hv, hb, (h2 g (by rw [hv]; rfl)).trans hg, rest⟩
theorem BAt.new {w w' : World} {B b : Nat} {v : Value} {l : List UInt8} (h : BAt w B b v l) (hb : Below w.heap.size w w') : BAt w' B b v l :=
  h.same (hb.block b h.lt) (fun k hk => hb.block k (h.own.lt k hk).2)
theorem BAt.ne {w : World} {B b : Nat} {v : Value} {l : List UInt8} (h : BAt w B b v l) : v.ownBlock ≠ some b := fun e => by have := (h.own.lt b e).1; have := h.lo; omega
theorem BAt.not_bytes {w : World} {B b : Nat} {v : Value} {l : List UInt8} (h : BAt w B b v l) : ¬ ∃ C fz, w.heap[b]? = some (.cells C 5 fz) := by
  rintro ⟨C, fz, hc⟩
  obtain ⟨p, _, h2⟩ := h.at_
  rw [h2] at hc
  injection hc with hc
  injection hc with _ hc
  exact absurd hc (by decide)
theorem own_sliceF {w : World} {base : Nat} {e : TypeId} {size : Nat} {v : Value} {n : Nat} {xs : List Value} (h : w.ownsRowF base e size v n xs) : ∃ pa n c, v = .slice pa n c := by
  rcases h.2 with ⟨rfl, rfl⟩ | ⟨g, cap, _, _, rfl, _⟩
  · exact ⟨_, _, _, rfl⟩
  · exact ⟨_, _, _, rfl⟩
theorem BAt.fresh {w : World} {b : Nat} (h : w.heap[b]? = some (.cells #[.pointer none, .slice none 0 0] 61 (0, 0))) : BAt w (b + 1) b (.slice none 0 0) [] :=
  ⟨⟨_, .inl rfl, h⟩, World.ownsRowF_nil _ _ _ _, by omega⟩
theorem BMv.below {w w' : World} {B b C : Nat} {v : Value} {l : List UInt8} (h : BMv w w' b v) (hb : BAt w B b v l) (hC : C ≤ b) : Below C w w' :=
  ⟨h.os, h.tape, h.output, h.size, fun k hk => h.block k (by have := hb.lt; omega) (by omega) (fun e => by have := (hb.own.lt k e).1; have := hb.lo; omega)⟩
theorem app_sfF (w : World) {B : Nat} {v : Value} {l : List UInt8} (hown : w.ownsRowF B 5 1 v (Lib.byteCells l).length (Lib.byteCells l)) (ty : TypeId) (ad : Addr) (m c : Nat) (S : List UInt8) (hl : S.length = m) (h0 : 0 < m)
    (hnews : ∀ j u, (Lib.byteCells S)[j]? = some u → w.cell? (ad.add j) = some u) (hbig : l.length + m ≤ 1000000000) (hB : B ≤ w.heap.size) :
    ∃ v' w', (Builtin.append_ #[44, 44] ty #[v, .slice (some ad) m c]).run Tryd.prog w = .ok v' w' ∧ w'.ownsRowF B 5 1 v' (Lib.byteCells (l ++ S)).length (Lib.byteCells (l ++ S)) ∧ w.grownBy w' v.ownBlock ∧ SF w v v' := by
  obtain ⟨i, hi, hz0, hz1, hz2⟩ := info_parts infoU
  have hbl := Lib.byteCells_length l
  have hSl : (Lib.byteCells S).length = m * i.size := by rw [Lib.byteCells_length, hl, hz1, Nat.mul_one]
  obtain ⟨v', w', hr, h2, h3, _⟩ := run_append_ownF (P := Tryd.prog) w B 44 ty 5 i (.int .u8 0) 1 1 Tryd.underlying44 hi hz0 hz1 hz2 rfl (by decide) v _ _ hown ad m c (Lib.byteCells S) (by rw [hSl, hz1]) hnews (byte_cells S) (by unfold maxLen; omega) (by omega) hB
  refine ⟨v', w', hr, ?_, h3, ?_⟩
  · rw [Lib.byteCells_append, List.length_append, Lib.byteCells_length S, hl]; exact h2
  rcases hown.2 with ⟨rfl, hn0⟩ | ⟨g, cap, cur, fz, rfl, hbg, hg, hfz, hnc, hcm, hcs, htake⟩
  · rw [hbl] at hn0
    have hr2 := run_append_nil (P := Tryd.prog) w 44 ty 5 i (.int .u8 0) Tryd.underlying44 hi hz0 ad m c (Lib.byteCells S) hSl hnews (by omega) (by omega) (by rw [hz2]; omega)
    rw [hr2] at hr
    injection hr with h _
    subst h
    exact .inr ⟨_, rfl, Nat.le_refl _⟩
  · by_cases hroom : (Lib.byteCells l).length + m ≤ cap
    · have hr2 := run_append_roomF (P := Tryd.prog) w 44 ty 5 i Tryd.underlying44 hi g _ cap cur fz hg (by rw [hz1]; exact hfz) ad m c (Lib.byteCells S) hSl hnews (byte_cells S) hroom (by rw [hSl, hz1]; omega)
      rw [hr2] at hr
      injection hr with h _
      subst h
      exact .inl rfl
    · have holds := hown.cells (g := g) rfl
      have hr2 := run_append_grow (P := Tryd.prog) w 44 ty 5 i (.int .u8 0) Tryd.underlying44 hi hz0 ⟨g, 0, none⟩ _ cap (Lib.byteCells l) (by rw [hz1, Nat.mul_one]) holds ad m c (Lib.byteCells S) hSl hnews (by omega) (by omega) (by rw [hz2]; exact growslice_fits (by omega) (by omega))
      rw [hr2] at hr
      injection hr with h _
      subst h
      exact .inr ⟨_, rfl, Nat.le_refl _⟩
theorem wpList_app_sfF {w : World} {ops : Array Oper} {o : Oper} {a : Act} {Q : Exit → Act → World → Prop} {rest : List Oper} (hgd : o.guard = none) (s x : Operand)
    (ho : o.op = .call { callee := .builtin .append, args := #[s, x], argTypes := #[44, 44] })
    {B : Nat} {v : Value} {l : List UInt8} (hown : w.ownsRowF B 5 1 v (Lib.byteCells l).length (Lib.byteCells l)) (ad : Addr) (m c : Nat) (S : List UInt8) (hl : S.length = m) (h0 : 0 < m)
    (hnews : ∀ j u, (Lib.byteCells S)[j]? = some u → w.cell? (ad.add j) = some u) (hbig : l.length + m ≤ 1000000000) (hB : B ≤ w.heap.size)
    (hs : a.eval s = v) (hx : a.eval x = .slice (some ad) m c)
    (h : ∀ v' w', w'.ownsRowF B 5 1 v' (Lib.byteCells (l ++ S)).length (Lib.byteCells (l ++ S)) → w.grownBy w' v.ownBlock → SF w v v' → wpList Tryd.prog ops Q rest (a.put o.dst v') w') : wpList Tryd.prog ops Q (o :: rest) a w := by
  refine wpList_plain hgd fun K hK => ?_
  obtain ⟨v', w', hr, h2, h3, h4⟩ := app_sfF w hown o.type ad m c S hl h0 hnews hbig hB
  unfold Oper.wp execOp
  simp only [ho, resolve, invoke, builtin, Sem.run_bind, Sem.run_pure, Result.andThen_ok, List.map_toArray, List.map_cons, List.map_nil, hs, hx, hr]
  exact hK _ _ (h v' w' h2 h3 h4)
theorem copyCheck_any (B b : Nat) (v : Value) (l : List UInt8) (w : World) (h : BAt w B b v l) :
    Calls Tryd.prog 65 #[.pointer (some ⟨b, 0, none⟩)] w fun e w' => e = .returned (.tuple #[]) ∧ w'.heap[b]? = some (.cells #[.pointer (some ⟨b, 0, none⟩), v] 61 (0, 0)) ∧ BAt w' B b v l ∧ w'.heap.size = w.heap.size ∧ (∀ k, k ≠ b → w'.heap[k]? = w.heap[k]?) ∧ w'.os = w.os ∧ w'.tape = w.tape ∧ w'.output = w.output := by
  obtain ⟨p, hp, h2⟩ := h.at_
  have hc0 : w.cell? ⟨b, 0, none⟩ = some p := by simp [World.cell?, h2]
  rcases hp with rfl | rfl
  · refine (Any.Builder_copyCheck_fresh { Tryd.lays167 with } Tryd.Builder_X167.toX72 b w hc0 (by simp [World.shape?, h2]; rfl) (by simp [World.frozen?, h2])).mono ?_
    rintro e w' ⟨rfl, rfl⟩
    have hb' : (w.setCell ⟨b, 0, none⟩ (.pointer (some ⟨b, 0, none⟩))).heap[b]? = some (.cells #[.pointer (some ⟨b, 0, none⟩), v] 61 (0, 0)) := by simp [World.setCell, Array.getElem?_modify, h2]
    have ho : ∀ k, k ≠ b → (w.setCell ⟨b, 0, none⟩ (.pointer (some ⟨b, 0, none⟩))).heap[k]? = w.heap[k]? := fun k hk => Below.heap_setCell _ _ _ _ (fun e => hk (by simp [e]))
    refine ⟨rfl, hb', ⟨⟨_, .inr rfl, hb'⟩, h.own.kept (row := some b) ⟨rfl, rfl, rfl, by simp [World.setCell], fun k _ hk => ho k (fun e => hk (by rw [e]))⟩ (.inr h.ne), h.lo⟩, by simp [World.setCell], ho, rfl, rfl, rfl⟩
  · refine (Any.Builder_copyCheck_used { Tryd.lays167 with } Tryd.Builder_X167.toX72 b w hc0).mono ?_
    rintro e w' ⟨rfl, rfl⟩
    exact ⟨rfl, h2, h, rfl, fun _ _ => rfl, rfl, rfl, rfl⟩
/-- The buffer's new value is stored. -/
theorem BAt.stored {w w1 w2 : World} {B b : Nat} {v v' : Value} {l l' : List UInt8} (hb : BAt w1 B b v l) (hb1 : w1.heap[b]? = some (.cells #[.pointer (some ⟨b, 0, none⟩), v] 61 (0, 0))) (hs : w1.heap.size = w.heap.size) (ho : ∀ k, k ≠ b → w1.heap[k]? = w.heap[k]?) (e1 : w1.os = w.os) (e2 : w1.tape = w.tape) (e3 : w1.output = w.output)
    (hg : w1.grownBy w2 v.ownBlock) (h2 : w2.ownsRowF B 5 1 v' (Lib.byteCells l').length (Lib.byteCells l')) :
    w2.heap[b]? = some (.cells #[.pointer (some ⟨b, 0, none⟩), v] 61 (0, 0)) ∧ BAt (w2.setCell ⟨b, 1, none⟩ v') B b v' l' ∧ BMv w (w2.setCell ⟨b, 1, none⟩ v') b v := by
  have hb2 := (hg.block b hb.lt (fun e => hb.ne e.symm)).trans hb1
  have hne : v'.ownBlock ≠ some b := fun e => by have := (h2.lt b e).1; have := hb.lo; omega
  refine ⟨hb2, ⟨⟨_, .inr rfl, by simp [World.setCell, Array.getElem?_modify, hb2]⟩, h2.kept (row := some b) ⟨rfl, rfl, rfl, by simp [World.setCell], fun k _ hk => Below.heap_setCell _ _ _ _ (fun e => hk (by simp [e]))⟩ (.inr hne), hb.lo⟩, ?_⟩
  refine ⟨hg.os.trans e1, hg.tape.trans e2, hg.output.trans e3, by have := hg.size; simp [World.setCell]; omega, fun k hk hkb hkv => ?_⟩
  rw [Below.heap_setCell _ _ _ _ (fun e => hkb (by simp [e]))]
  exact (hg.block k (by omega) (fun e => hkv e.symm)).trans (ho k hkb)
set_option maxHeartbeats 1000000 in
set_option maxRecDepth 100000 in
theorem bwrite_any (B b : Nat) (v : Value) (l : List UInt8) (g off m c : Nat) (S : List UInt8) (w : World) (h : BAt w B b v l) (hS : BS w g off S) (hm : S.length = m) (h0 : 0 < m) (hlen : l.length + m ≤ 1000000000) (hBw : B ≤ w.heap.size) :
    Calls Tryd.prog 90 #[.pointer (some ⟨b, 0, none⟩), .slice (some ⟨g, off, none⟩) m c] w fun e w' => (∃ u, e = .returned u) ∧ ∃ v', BAt w' B b v' (l ++ S) ∧ BMv w w' b v ∧ SF w v v' := by
  have HC := Lib.hid (copyCheck_any B b v l w h)
  have HS := Lib.hid hS
  have HM := Lib.hid hm
  have HH := Lib.hid h
  clear h hS hm
  go_enter Tryd.func90, Tryd.ntmps90
  go_wp2_with fail
  refine HC.out.mono ?_
  rintro e w1 ⟨rfl, hb1, hA1, hs1, ho1, e1, e2, e3⟩
  have hgb : g ≠ b := fun e => by
    subst e
    exact absurd (HS.out.kind) (HH.out.not_bytes)
  have c1 : w1.cell? ⟨b, 1, none⟩ = some v := by simp [World.cell?, hb1]
  have HN := Lib.hid (show ∀ j u, (Lib.byteCells S)[j]? = some u → w1.cell? ((⟨g, off, none⟩ : Addr).add j) = some u from fun j u hj => by
    obtain ⟨x, hx, rfl⟩ := byte_of hj
    have := (HS.out.same (ho1 g hgb)).cell j x hx
    rw [← this]
    congr 1
    unfold Addr.add
    split <;> simp_all)
  have HA1 := Lib.hid hA1
  have HB1 := Lib.hid hb1
  have HO1 := Lib.hid ho1
  clear hb1 hA1 ho1 HC
  have HK := Lib.hid (fun (v2 : Value) (w2 : World) (hown2 : w2.ownsRowF B 5 1 v2 (Lib.byteCells (l ++ S)).length (Lib.byteCells (l ++ S))) (hgrow2 : w1.grownBy w2 v.ownBlock) (hsf2 : SF w1 v v2) =>
    show ∃ p2 n2 q2, v2 = .slice p2 n2 q2 ∧ w2.cell? ⟨b, 1, none⟩ = some v ∧ w2.frozen? ⟨b, 1, none⟩ = false ∧ Hid (BAt (w2.setCell ⟨b, 1, none⟩ v2) B b v2 (l ++ S)) ∧ Hid (BMv w (w2.setCell ⟨b, 1, none⟩ v2) b v) ∧ Hid (SF w v v2) from by
      obtain ⟨x1, x2, x3⟩ := BAt.stored HA1.out HB1.out hs1 HO1.out e1 e2 e3 hgrow2 hown2
      obtain ⟨p2, n2, q2, hv2⟩ := own_sliceF hown2
      refine ⟨p2, n2, q2, hv2, by simp [World.cell?, x1], by simp [World.frozen?, x1], Lib.hid x2, Lib.hid x3, Lib.hid ?_⟩
      rcases hsf2 with h | ⟨k, h1, h2⟩
      · exact .inl h
      · exact .inr ⟨k, h1, by omega⟩)
  have hB1s : B ≤ w1.heap.size := by omega
  go_wp2_with (at_builtin; go_loud (refine wpList_app_sfF rfl _ _ rfl HA1.out.own ⟨g, off, none⟩ m c S HM.out h0 HN.out hlen hB1s rfl rfl ?_; intro v2 w2 hown2 hgrow2 hsf2; obtain ⟨p2, n2, q2, hv2, y1, y2, HX2, HX3, HSF⟩ := HK.out _ _ hown2 hgrow2 hsf2; subst hv2; clear hown2 hgrow2 hsf2))
  go_ret2
  exact ⟨⟨_, rfl⟩, _, HX2.out, HX3.out, HSF.out⟩
end Go.Proofs.YtliadekcbkedmaaDoor
