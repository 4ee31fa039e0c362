/-
  White bytes in a base64 text; rows of bytes that grow side by side.
-/
import Derived.Test.YtehnjoggilomfaaDoorCPartsP
import Derived.Test.YtehnjoggilomfaaDoorCBack
namespace Go.Proofs.YtehnjoggilomfaaDoor
open Go Go.RowKit Go.Shelf
theorem byte_cells (l : List UInt8) : ∀ v ∈ Lib.byteCells l, v.oneCell' = true := fun v hv => by
  obtain ⟨b, _, rfl⟩ := List.mem_map.1 hv
  rfl
/-- The value's block is the same, or new. -/
def SF (w : World) (v v' : Value) : Prop := v'.ownBlock = v.ownBlock ∨ ∃ b, v'.ownBlock = some b ∧ w.heap.size ≤ b
theorem SF.refl (w : World) (v : Value) : SF w v v := .inl rfl
theorem SF.trans {w w' : World} {a b c : Value} (h : SF w a b) (k : SF w' b c) (hw : w.heap.size ≤ w'.heap.size) : SF w a c := by
  rcases k with k | ⟨x, k1, k2⟩
  · rcases h with h | ⟨x, h1, h2⟩
    · exact .inl (k.trans h)
    · exact .inr ⟨x, k.trans h1, h2⟩
  · exact .inr ⟨x, k1, Nat.le_trans hw k2⟩
section
variable (w : World) {base : Nat} {e : TypeId} {size : Nat} {v : Value} {n : Nat} {xs : List Value}
theorem app_same (ty : TypeId) (i : TypeInfo) (z : Value) (bytes : Nat) {ts : TypeId} (ht : Tryd.prog.underlying ts = some (.slice e)) (hi : Tryd.prog.info? e = some i) (hz : i.zero = some z)
    (hsize : i.size = size) (hby : i.bytes = bytes) (hzs : z.cells.size = size) (hsz : 0 < size) (hown : w.ownsRow base e size v n xs)
    (a : Addr) (m c : Nat) (news : List Value) (hl : news.length = m * size) (hnews : ∀ j u, news[j]? = some u → w.cell? (a.add j) = some u) (h1 : ∀ u ∈ news, u.oneCell' = true)
    (h63 : n + m ≤ maxLen) (hbytes : (n + m) * bytes ≤ 140737488355328) (hbase : base ≤ w.heap.size) :
    ∃ v' w', (Builtin.append_ #[ts, ts] ty #[v, .slice (some a) m c]).run Tryd.prog w = .ok v' w' ∧ w'.ownsRow base e size v' (n + m) (xs ++ news) ∧ w.grownBy w' v.ownBlock ∧ SF w v v' := by
  obtain ⟨v', w', hr, h2, h3, _⟩ := run_append_own (P := Tryd.prog) w base ts ty e i z size bytes ht hi hz hsize hby hzs hsz v n xs hown a m c news hl hnews h1 h63 hbytes hbase
  refine ⟨v', w', hr, h2, h3, ?_⟩
  subst hsize
  subst hby
  rcases hown.2 with ⟨rfl, rfl⟩ | ⟨g, cap, cur, rfl, hbg, hg, hnc, hcm, hcs, htake⟩
  · by_cases hm : m = 0
    · subst hm
      have hn : news = [] := List.eq_nil_of_length_eq_zero (by simpa using hl)
      subst hn
      rcases h2.2 with ⟨rfl, _⟩ | ⟨g', cap', cur', rfl, _⟩
      · exact .inl rfl
      · have : (Builtin.append_ #[ts, ts] ty #[.slice none 0 0, .slice (some a) 0 c]).run Tryd.prog w = .ok (.slice none 0 0) w := by
          simp [Builtin.append_, run_underlying ht, sizeOf, typeInfo, hi, Builtin.lenOf, Builtin.firstCells, loadCells, loadCellsFrom]
        rw [this] at hr
        injection hr with h _
        cases h
    · have hr2 := run_append_nil (P := Tryd.prog) w ts ty e i z ht hi hz a m c news hl hnews (by omega) (by simp only [maxLen] at h63; omega) (by have hb := hbytes; simp only [Nat.zero_add] at hb; omega)
      rw [hr2] at hr
      injection hr with h _
      subst h
      exact .inr ⟨_, rfl, Nat.le_refl _⟩
  · by_cases hroom : n + m ≤ cap
    · have hfit : n * i.size + news.length ≤ cur.size := by rw [hl, hcs, ← Nat.add_mul]; exact Nat.mul_le_mul_right _ hroom
      have hr2 := run_append_room (P := Tryd.prog) w ts ty e i ht hi g n cap cur hg a m c news hl hnews h1 hroom hfit
      rw [hr2] at hr
      injection hr with h _
      subst h
      exact .inl rfl
    · have holds : ∀ j u, xs[j]? = some u → w.cell? ((⟨g, 0, none⟩ : Addr).add j) = some u := hown.cells (g := g) rfl
      have hr2 := run_append_grow (P := Tryd.prog) w ts ty e i z ht hi hz ⟨g, 0, none⟩ n cap xs hown.1 holds a m c news hl hnews (by omega) (by simp only [maxLen] at h63; omega) (growslice_fits (by omega) hbytes)
      rw [hr2] at hr
      injection hr with h _
      subst h
      exact .inr ⟨_, rfl, Nat.le_refl _⟩
end
section
variable (w : World) {base : Nat} {v : Value} {l : List UInt8}
theorem app_str (ty : TypeId) (hown : w.ownsRow base 5 1 v l.length (Lib.byteCells l)) (s : ByteArray) (hbig : l.length + s.size ≤ 1000000000) (hbase : base ≤ w.heap.size) :
    ∃ v' w', (Builtin.append_ #[29, 9] ty #[v, .string s]).run Tryd.prog w = .ok v' w' ∧ w'.ownsRow base 5 1 v' (l ++ s.data.toList).length (Lib.byteCells (l ++ s.data.toList)) ∧ w.grownBy w' v.ownBlock ∧ SF w v v' := by
  obtain ⟨i, hi, hz, hsize, hby⟩ := info_parts infoU
  obtain ⟨v', w', hr, h2, h3, h4⟩ := Lib.run_append_own_string (P := Tryd.prog) w base 29 9 ty 5 i Tryd.underlying29 Tryd.underlying9 hi hz hsize hby v l.length (Lib.byteCells l) hown s (by unfold maxLen; omega) (by omega) hbase
  have hz2 := Lib.size_eq s
  refine ⟨v', w', hr, ?_, h3, ?_⟩
  · rw [List.length_append, Lib.byteCells_append, ← hz2]; exact h2
  rcases hown.2 with ⟨rfl, h0⟩ | ⟨g, cap, cur, rfl, hbg, hg, hnc, hcm, hcs, htake⟩
  · by_cases hm : s.size = 0
    · have := h4.2 ⟨rfl, hm⟩
      subst this
      exact .inl rfl
    · have hr2 := run_append_nil_string (P := Tryd.prog) w 29 9 ty 5 i (.int .u8 0) Tryd.underlying29 Tryd.underlying9 hi hz s (by omega) (by omega) (by rw [hby]; omega)
      rw [hr2] at hr
      injection hr with h _
      subst h
      exact .inr ⟨_, rfl, Nat.le_refl _⟩
  · by_cases hroom : l.length + s.size ≤ cap
    · have hcs' : cur.size = cap := by simpa using hcs
      have hr2 := Lib.run_append_room_string (P := Tryd.prog) w 29 9 ty 5 i Tryd.underlying29 Tryd.underlying9 hi hsize g l.length cap cur hg s hroom (by omega)
      rw [hr2] at hr
      injection hr with h _
      subst h
      exact .inl rfl
    · have holds : ∀ j u, (Lib.byteCells l)[j]? = some u → w.cell? ((⟨g, 0, none⟩ : Addr).add j) = some u := hown.cells (g := g) rfl
      have hr2 := Lib.run_append_grow_string (P := Tryd.prog) w 29 9 ty 5 i (.int .u8 0) Tryd.underlying29 Tryd.underlying9 hi hz ⟨g, 0, none⟩ l.length cap (Lib.byteCells l) (by rw [hsize, Lib.byteCells_length, Nat.mul_one]) holds s (by omega) (by omega) (by rw [hby]; exact growslice_fits (by omega) (by omega))
      rw [hr2] at hr
      injection hr with h _
      subst h
      exact .inr ⟨_, rfl, Nat.le_refl _⟩
theorem app_bytes (ty : TypeId) (hown : BytesOf w base v l) (ad : Addr) (m c : Nat) (news : List UInt8) (hl : news.length = m) (hnews : ∀ j u, (Lib.byteCells news)[j]? = some u → w.cell? (ad.add j) = some u)
    (hbig : l.length + m ≤ 1000000000) (hbase : base ≤ w.heap.size) :
    ∃ v' w', (Builtin.append_ #[29, 29] ty #[v, .slice (some ad) m c]).run Tryd.prog w = .ok v' w' ∧ BytesOf w' base v' (l ++ news) ∧ w.grownBy w' v.ownBlock ∧ SF w v v' := by
  obtain ⟨i0, hi, hz0, hz1, hz2⟩ := info_parts infoU
  obtain ⟨v', w', hr, h2, h3, h4⟩ := app_same w ty i0 _ 1 Tryd.underlying29 hi hz0 hz1 hz2 rfl (by omega) hown ad m c (Lib.byteCells news) (by rw [Lib.byteCells_length, hl, Nat.mul_one]) hnews (byte_cells _) (by unfold maxLen; omega) (by omega) hbase
  refine ⟨v', w', hr, ?_, h3, h4⟩
  unfold BytesOf
  rw [List.length_append, hl, Lib.byteCells_append]
  exact h2
end
section
variable {w : World} {ops : Array Oper} {o : Oper} {a : Act} {Q : Exit → Act → World → Prop} {rest : List Oper} {base : Nat} {v : Value} {l : List UInt8}
theorem wpList_app_str (hgd : o.guard = none) (s x : Operand) (ho : o.op = .call { callee := .builtin .append, args := #[s, x], argTypes := #[29, 9] })
    (hs : a.eval s = v) (hown : BytesOf w base v l) (b : ByteArray) (hx : a.eval x = .string b) (hbig : l.length + b.size ≤ 1000000000) (hbase : base ≤ w.heap.size)
    (h : ∀ v' w', Hid (BytesOf w' base v' (l ++ b.data.toList)) → Hid (w.grownBy w' v.ownBlock) → Hid (SF w v v') → wpList Tryd.prog ops Q rest (a.put o.dst v') w') : wpList Tryd.prog ops Q (o :: rest) a w := by
  refine wpList_plain hgd fun K hK => ?_
  obtain ⟨v', w', hr, h2, h3, h4⟩ := app_str w o.type hown b hbig hbase
  unfold Oper.wp execOp
  simp only [ho, resolve, invoke, builtin, Sem.run_bind, Sem.run_pure, Result.andThen_ok, List.map_toArray, List.map_cons, List.map_nil, hs, hx, hr]
  exact hK _ _ (h v' w' h2 h3 h4)
theorem wpList_app_bytes (hgd : o.guard = none) (s x : Operand) (ho : o.op = .call { callee := .builtin .append, args := #[s, x], argTypes := #[29, 29] })
    (hs : a.eval s = v) (hown : BytesOf w base v l) (ad : Addr) (m c : Nat) (news : List UInt8) (hx : a.eval x = .slice (some ad) m c) (hl : news.length = m) (hnews : ∀ j u, (Lib.byteCells news)[j]? = some u → w.cell? (ad.add j) = some u)
    (hbig : l.length + m ≤ 1000000000) (hbase : base ≤ w.heap.size)
    (h : ∀ v' w', Hid (BytesOf w' base v' (l ++ news)) → Hid (w.grownBy w' v.ownBlock) → Hid (SF w v v') → wpList Tryd.prog ops Q rest (a.put o.dst v') w') : wpList Tryd.prog ops Q (o :: rest) a w := by
  refine wpList_plain hgd fun K hK => ?_
  obtain ⟨v', w', hr, h2, h3, h4⟩ := app_bytes w o.type hown ad m c news hl hnews hbig hbase
  unfold Oper.wp execOp
  simp only [ho, resolve, invoke, builtin, Sem.run_bind, Sem.run_pure, Result.andThen_ok, List.map_toArray, List.map_cons, List.map_nil, hs, hx, hr]
  exact hK _ _ (h v' w' h2 h3 h4)
theorem step_app_str {K : Act → World → Prop} {E : Prop} (hgd : o.guard = none) (s x : Operand) (ho : o.op = .call { callee := .builtin .append, args := #[s, x], argTypes := #[29, 9] })
    (hs : a.eval s = v) (hown : BytesOf w base v l) (b : ByteArray) (hx : a.eval x = .string b) (hbig : l.length + b.size ≤ 1000000000) (hbase : base ≤ w.heap.size)
    (h : ∀ v' w', Hid (BytesOf w' base v' (l ++ b.data.toList)) → Hid (w.grownBy w' v.ownBlock) → Hid (SF w v v') → K (a.put o.dst v') w') : if Region.wanted o (yielded ops a.tmps) = true then Oper.wp Tryd.prog o a w K Q else E := by
  have hw : Region.wanted o (yielded ops a.tmps) = true := by simp [Region.wanted, hgd]
  rw [if_pos hw]
  obtain ⟨v', w', hr, h2, h3, h4⟩ := app_str w o.type hown b hbig hbase
  unfold Oper.wp execOp
  simp only [ho, resolve, invoke, builtin, Sem.run_bind, Sem.run_pure, Result.andThen_ok, List.map_toArray, List.map_cons, List.map_nil, hs, hx, hr]
  exact h v' w' h2 h3 h4
theorem step_app_bytes {K : Act → World → Prop} {E : Prop} (hgd : o.guard = none) (s x : Operand) (ho : o.op = .call { callee := .builtin .append, args := #[s, x], argTypes := #[29, 29] })
    (hs : a.eval s = v) (hown : BytesOf w base v l) (ad : Addr) (m c : Nat) (news : List UInt8) (hx : a.eval x = .slice (some ad) m c) (hl : news.length = m) (hnews : ∀ j u, (Lib.byteCells news)[j]? = some u → w.cell? (ad.add j) = some u)
    (hbig : l.length + m ≤ 1000000000) (hbase : base ≤ w.heap.size)
    (h : ∀ v' w', Hid (BytesOf w' base v' (l ++ news)) → Hid (w.grownBy w' v.ownBlock) → Hid (SF w v v') → K (a.put o.dst v') w') : if Region.wanted o (yielded ops a.tmps) = true then Oper.wp Tryd.prog o a w K Q else E := by
  have hw : Region.wanted o (yielded ops a.tmps) = true := by simp [Region.wanted, hgd]
  rw [if_pos hw]
  obtain ⟨v', w', hr, h2, h3, h4⟩ := app_bytes w o.type hown ad m c news hl hnews hbig hbase
  unfold Oper.wp execOp
  simp only [ho, resolve, invoke, builtin, Sem.run_bind, Sem.run_pure, Result.andThen_ok, List.map_toArray, List.map_cons, List.map_nil, hs, hx, hr]
  exact h v' w' h2 h3 h4
end
/-- Two rows of bytes, side by side. -/
structure Two (w0 w : World) (v u : Value) (A B : List UInt8) : Prop where
  a : BytesOf w w0.heap.size v A
  b : BytesOf w w0.heap.size u B
  ne : v.ownBlock = none ∨ v.ownBlock ≠ u.ownBlock
  below : Below w0.heap.size w0 w
theorem lt_own {w : World} {base : Nat} {v : Value} {l : List UInt8} (h : BytesOf w base v l) {k : Nat} (e : v.ownBlock = some k) : base ≤ k ∧ k < w.heap.size := h.lt k e
theorem Two.flip {w0 w : World} {v u : Value} {A B : List UInt8} (h : Two w0 w v u A B) : Two w0 w u v B A :=
  ⟨h.b, h.a, by
    rcases h.ne with e | e
    · by_cases hu : u.ownBlock = none
      · exact .inl hu
      · exact .inr (by rw [e]; exact hu)
    · exact .inr (Ne.symm e), h.below⟩
theorem Two.alloc {w0 w : World} {v u : Value} {A B : List UInt8} (h : Two w0 w v u A B) (o : Obj) : Two w0 (w.alloc o) v u A B :=
  ⟨World.ownsRow.alloc h.a o, World.ownsRow.alloc h.b o, h.ne, h.below.alloc h.below.size o⟩
theorem Two.drew {w0 w : World} {v u : Value} {A B : List UInt8} (h : Two w0 w v u A B) : Two w0 w.drew v u A B :=
  ⟨h.a, h.b, h.ne, ⟨h.below.os, h.below.tape, h.below.output, h.below.size, h.below.block⟩⟩
theorem Two.grow {w0 w w1 : World} {v u v' : Value} {A B A' : List UInt8} (h : Two w0 w v u A B) (ho : BytesOf w1 w0.heap.size v' A') (hg : w.grownBy w1 v.ownBlock) (hs : SF w v v') : Two w0 w1 v' u A' B := by
  have hk := World.ownsRow.kept h.b hg (by
    rcases h.flip.ne with e | e
    · exact .inl e
    · exact .inr e)
  refine ⟨ho, hk, ?_, h.below.grown hg h.below.size (fun k e => (h.a.lt k e).1)⟩
  rcases hs with e | ⟨b, e, hb⟩
  · rw [e]; exact h.ne
  · refine .inr fun e2 => ?_
    have := (lt_own h.b (e2.symm.trans e)).2
    omega
namespace Cd
theorem trim_nil {l : List UInt8} (h : Tx.trim l = []) : ∀ c ∈ l, Tx.isW c = true := by
  have hc : ∀ c : UInt8, ([9, 10, 13, 32] : List UInt8).contains c = true → Tx.isW c = true := fun c h => by rw [← Tx.isW_eq]; exact h
  have h1 : ∀ (p : UInt8 → Bool) (l : List UInt8), l.dropWhile p = [] → ∀ c ∈ l, p c = true := by
    intro p l
    induction l with
    | nil => intro _ c hc; cases hc
    | cons a r ih =>
      intro h c hm
      by_cases ha : p a = true
      · rw [List.dropWhile_cons_of_pos ha] at h
        rcases List.mem_cons.1 hm with rfl | hm
        · exact ha
        · exact ih h c hm
      · rw [List.dropWhile_cons_of_neg ha] at h; cases h
  have h2 := h1 _ _ h
  intro c hm
  by_cases hw : Tx.isW c = true
  · exact hw
  · refine hc c (h2 c ?_)
    have hp : ([9, 10, 13, 32] : List UInt8).contains c = false := by
      cases e : ([9, 10, 13, 32] : List UInt8).contains c with
      | false => rfl
      | true => exact absurd (hc c e) hw
    have hk : ∀ (l : List UInt8), c ∈ l → c ∈ l.dropWhile fun c => ([9, 10, 13, 32] : List UInt8).contains c := by
      intro l
      induction l with
      | nil => intro h; exact h
      | cons a r ih =>
        intro h
        by_cases ha : ([9, 10, 13, 32] : List UInt8).contains a = true
        · rw [List.dropWhile_cons_of_pos (by exact ha)]
          rcases List.mem_cons.1 h with rfl | h
          · rw [hp] at ha; cases ha
          · exact ih h
        · rw [List.dropWhile_cons_of_neg (by exact ha)]; exact h
    exact List.mem_reverse.1 (by simpa [Lib.trimRightS] using hk l.reverse (List.mem_reverse.2 hm))
theorem white_small {o : UInt8} (h : Tx.isW o = true) : (o.toNat : Int) < 128 ∧ ((o.toNat : Int) == 61) = false ∧ ((o.toNat : Int) == 43) = false ∧ ((o.toNat : Int) == 47) = false ∧
    decide (48 ≤ (o.toNat : Int)) = false ∧ decide (65 ≤ (o.toNat : Int)) = false ∧ decide (97 ≤ (o.toNat : Int)) = false := by
  have H : ∀ k : Fin 256, Tx.isW (UInt8.ofNat k.val) = true → ((k.val : Nat) : Int) < 128 ∧ ((k.val : Int) == 61) = false ∧ ((k.val : Int) == 43) = false ∧ ((k.val : Int) == 47) = false ∧
    decide (48 ≤ (k.val : Int)) = false ∧ decide (65 ≤ (k.val : Int)) = false ∧ decide (97 ≤ (k.val : Int)) = false := by decide +kernel
  exact H ⟨o.toNat, UInt8.toNat_lt o⟩ (by simpa using h)
theorem dig_range {o : UInt8} (h : isDig64 o = true) : (o.toNat : Int) = 43 ∨ (o.toNat : Int) = 47 ∨ (48 ≤ (o.toNat : Int) ∧ (o.toNat : Int) ≤ 57) ∨ (65 ≤ (o.toNat : Int) ∧ (o.toNat : Int) ≤ 90) ∨ (97 ≤ (o.toNat : Int) ∧ (o.toNat : Int) ≤ 122) := by
  have H : ∀ k : Fin 256, isDig64 (UInt8.ofNat k.val) = true → ((k.val : Nat) : Int) = 43 ∨ ((k.val : Nat) : Int) = 47 ∨ (48 ≤ (k.val : Int) ∧ (k.val : Int) ≤ 57) ∨ (65 ≤ (k.val : Int) ∧ (k.val : Int) ≤ 90) ∨ (97 ≤ (k.val : Int) ∧ (k.val : Int) ≤ 122) := by decide +kernel
  exact H ⟨o.toNat, UInt8.toNat_lt o⟩ (by simpa using h)
/-- White bytes in front of each byte. -/
def wideOf (W t : List UInt8) : List UInt8 := t.flatMap fun c => W ++ [c]
/-- Without the sign that fills up. -/
def noPad (t : List UInt8) : List UInt8 := t.filter fun c => c != 61
theorem bare_white {W : List UInt8} (h : ∀ c ∈ W, Tx.isW c = true) : bare W = [] := by
  unfold bare
  rw [List.filter_eq_nil_iff]
  intro c hc
  rw [h c hc]; decide
theorem bare_wide {W : List UInt8} (h : ∀ c ∈ W, Tx.isW c = true) : ∀ t, bare (wideOf W t) = bare t
  | [] => rfl
  | c :: r => by
    show bare ((W ++ [c]) ++ wideOf W r) = bare ([c] ++ r)
    rw [bare_append, bare_append, bare_white h, bare_append, bare_wide h r]; rfl
theorem wide_len (W : List UInt8) : ∀ t, (wideOf W t).length = (W.length + 1) * t.length
  | [] => by simp [wideOf]
  | c :: r => by
    show ((W ++ [c]) ++ wideOf W r).length = _
    have e : (c :: r).length = r.length + 1 := rfl
    have e2 : [c].length = 1 := rfl
    rw [List.length_append, wide_len W r, List.length_append, e, e2, Nat.mul_add]; omega
theorem wide_next (W : List UInt8) (t : List UInt8) (c : UInt8) : wideOf W (t ++ [c]) = wideOf W t ++ W ++ [c] := by
  unfold wideOf
  rw [List.flatMap_append]; simp
theorem noPad_next (t : List UInt8) (c : UInt8) : noPad (t ++ [c]) = if c = 61 then noPad t else noPad t ++ [c] := by
  unfold noPad
  rw [List.filter_append]
  by_cases h : c = 61
  · subst h; simp
  · simp [h]
theorem noPad_len (t : List UInt8) : (noPad t).length ≤ t.length := List.length_filter_le _ _
theorem bare_noPad (t : List UInt8) : bare (noPad t) = noPad (bare t) := by
  unfold bare noPad
  rw [List.filter_filter, List.filter_filter]
  congr 1; funext c; exact Bool.and_comm _ _
/-- A text of base 64 with white bytes anywhere. -/
theorem unb_wide (l W : List UInt8) (h : ∀ c ∈ W, Tx.isW c = true) : unbase64 (wideOf W (base64 l) ++ W) = (l, true) :=
  unb_base l _ (by rw [bare_append, bare_wide h, bare_white h, List.append_nil]; exact bare_base _ l (Nat.le_refl _))
theorem noPad_line {l D : List UInt8} (h1 : b64line l = D ++ List.replicate (missing D.length) 61) (h2 : ∀ c ∈ D, isDig64 c = true) : bare (noPad (base64 l)) = D := by
  rw [bare_noPad, bare_base _ l (Nat.le_refl _), h1]
  unfold noPad
  rw [List.filter_append, List.filter_eq_self.2, List.filter_eq_nil_iff.2, List.append_nil]
  · intro c hc
    rw [List.eq_of_mem_replicate hc]; decide
  · intro c hc
    have := h2 c hc
    by_cases e : c = 61
    · subst e; rw [pad_not] at this; cases this
    · simp [e]
theorem unb_bare (l : List UInt8) : unbase64 (noPad (base64 l)) = (l, decide (l.length % 3 = 0)) := by
  obtain ⟨D, h1, h2, h3, h4, h5⟩ := line_digits _ l (Nat.le_refl _)
  rw [unb_of (R := []) (by rw [noPad_line h1 h2, List.append_nil]) h2 (fun c hc => by cases hc), decode_digits h5]
  congr 1
  by_cases hm : missing D.length = 0
  · rw [hm, decide_eq_true (h4.1 hm)]; rfl
  · rw [decide_eq_false (fun e => hm (h4.2 e))]
    cases hk : missing D.length with
    | zero => exact absurd hk hm
    | succ k => simp [List.replicate_succ]
theorem unb_other (l : List UInt8) {c : UInt8} (hw : Tx.isW c = false) (hd : isDig64 c = false) (hp : c ≠ 61) : unbase64 (noPad (base64 l) ++ [c] ++ base64 l) = (l, false) := by
  obtain ⟨D, h1, h2, h3, h4, h5⟩ := line_digits _ l (Nat.le_refl _)
  have hb : bare [c] = [c] := by unfold bare; simp [hw]
  rw [unb_of (D := D) (R := c :: bare (base64 l)) (by rw [bare_append, bare_append, noPad_line h1 h2, hb]; simp) h2 (fun d hd' => by simp at hd'; subst hd'; exact hd), decode_digits h5]
  congr 1
  have : (c :: bare (base64 l) == List.replicate (missing D.length) 61) = false := by
    rw [beq_eq_false_iff_ne]
    intro e
    have hm : c ∈ List.replicate (missing D.length) (61 : UInt8) := by rw [← e]; exact List.mem_cons_self ..
    exact hp (List.eq_of_mem_replicate hm)
  rw [this, Bool.and_false]
end Cd
end Go.Proofs.YtehnjoggilomfaaDoor
