/-
  Parse: what its rounds leave alone, and what they make.
-/
import Derived.Test.YtliadekcbkedmaaDoorFAp
namespace Go.Proofs.YtliadekcbkedmaaDoor
open Go Go.RowKit Go.Shelf
attribute [local go_sem] Oper.semAt_some
/-- What a round of Parse leaves alone. -/
structure Mq (n0 : Nat) (W W' : World) : Prop where
  b : Below n0 W W'
  k : ∀ i o, W.heap[i]? = some o → (o.isCells = false ∨ i = n0 + 5) → W'.heap[i]? = some o
theorem Mq.refl (n0 : Nat) (W : World) : Mq n0 W W := ⟨Below.refl _ _, fun _ _ h _ => h⟩
theorem Mq.trans {n0 : Nat} {A B C : World} (h : Mq n0 A B) (g : Mq n0 B C) : Mq n0 A C := ⟨h.b.trans g.b, fun i o hi ho => g.k i o (h.k i o hi ho) ho⟩
theorem Mq.set {n0 : Nat} {W W' : World} (h : Mq n0 W W') {g off : Nat} {v : Value} {c : Array Value} {t : TypeId} {fz : Nat × Nat} (hc : W'.heap[g]? = some (.cells c t fz)) (hg : n0 ≤ g) (h5 : g ≠ n0 + 5) : Mq n0 W (W'.setCell ⟨g, off, none⟩ v) :=
  h.trans ⟨⟨rfl, rfl, rfl, by simp [World.setCell], fun k hk => Below.heap_setCell _ _ _ _ (fun e => by simp at e; omega)⟩, fun i o hi ho => by
    rw [Below.heap_setCell _ _ _ _ (fun e => by
      simp only at e
      subst e
      rw [hc] at hi
      cases hi
      rcases ho with ho | ho
      · cases ho
      · exact h5 ho)]
    exact hi⟩
theorem Mq.grown {n0 : Nat} {W W1 W' : World} {row : Option Nat} (h : Mq n0 W W1) (hn : n0 ≤ W1.heap.size) (hg : W1.grownBy W' row) (hr : ∀ k, row = some k → n0 + 6 ≤ k ∧ ∃ c t, W1.heap[k]? = some (.cells c t (0, 0))) : Mq n0 W W' :=
  h.trans ⟨(Below.refl n0 W1).trans ⟨hg.os, hg.tape, hg.output, hg.size, fun i hi => hg.block i (by omega) (fun e => by have := (hr i e.symm).1; omega)⟩, fun i o hi ho => by
    have hl := (Array.getElem?_eq_some_iff.1 hi).1
    rw [hg.block i hl (fun e => by
      obtain ⟨h1, c, t, h2⟩ := hr i e.symm
      rw [h2] at hi
      cases hi
      rcases ho with ho | ho
      · cases ho
      · omega)]
    exact hi⟩
theorem Mq.below {n0 : Nat} {W W1 W' : World} (h : Mq n0 W W1) (hb : Below W1.heap.size W1 W') (hn : n0 ≤ W1.heap.size) : Mq n0 W W' :=
  h.trans ⟨hb.mono hn, fun i _ hi _ => (hb.block i (Array.getElem?_eq_some_iff.1 hi).1).trans hi⟩
theorem Mq.keeps {n0 B : Nat} {W W' : World} (h : Mq n0 W W') : KeepsFrom B W W' := ⟨h.b.size, fun k o _ hk ho => h.k k o hk (.inl ho)⟩
theorem Mq.kpc {n0 : Nat} {W W' : World} (h : Mq n0 W W') (hM : 0 < n0) : KpC (n0 + 5) 0 W W' := fun k c T fz hk hc => by
  rcases hk with rfl | rfl
  · exact h.k _ _ hc (.inr rfl)
  · exact (h.b.block _ hM).trans hc
/-- The fields so far, and where the header ends so far. -/
def St (n0 : Nat) (w : World) (m : Nat) (fs : List Hd.Fd) (e : Nat) (W : World) : Prop :=
  ∃ NM nv pv hs Ls, PM n0 W NM e m nv pv hs Ls ∧ fs = NM.zip (Ls.map Tx.joinSp) ∧ NM.length = hs.length ∧ hs.length ≤ 400 ∧ Below n0 w W
/-- What is answered. -/
def Fin4 (n0 : Nat) (w : World) (fs : List Hd.Fd) (e : Nat) (W : World) : Prop :=
  ∃ a m c, W.heap[n0]? = some (.cells #[.slice a m c] 33 (0, 0)) ∧ W.heap[n0 + 1]? = some (.cells #[.int .i64 e] 3 (0, 0)) ∧ FOwn 35 W (n0 + 6) (.slice a m c) fs ∧ Below n0 w W
theorem cellsG {A B : World} {row : Option Nat} {B0 : Nat} (hg : A.grownBy B row) (hr : ∀ r, row = some r → B0 ≤ r ∧ ∃ o : Obj, A.heap[r]? = some o ∧ o.isCells = false) {k : Nat} {c : Array Value} {t : TypeId} {fz : Nat × Nat} (hk : A.heap[k]? = some (.cells c t fz)) : B.heap[k]? = A.heap[k]? :=
  hg.block k (Array.getElem?_eq_some_iff.1 hk).1 (fun e => by
    obtain ⟨_, o, ho, hc⟩ := hr k e.symm
    rw [hk] at ho; cases ho; cases hc)
theorem below_row {n0 : Nat} {w A B : World} {row : Option Nat} (h : Below n0 w A) (hn : n0 ≤ w.heap.size) (hg : A.grownBy B row) (hr : ∀ r, row = some r → n0 ≤ r) : Below n0 w B := below_grown h hn hg hr
theorem St.grown {n0 B0 : Nat} {w A B : World} {m e : Nat} {fs : List Hd.Fd} {row : Option Nat} (h : St n0 w m fs e A) (hn : n0 ≤ w.heap.size) (hB : n0 ≤ B0) (hg : A.grownBy B row) (hr : ∀ r, row = some r → B0 ≤ r ∧ ∃ o : Obj, A.heap[r]? = some o ∧ o.isCells = false) : St n0 w m fs e B := by
  obtain ⟨NM, nv, pv, hs, Ls, hP, hz, h1, h2, hb⟩ := h
  refine ⟨NM, nv, pv, hs, Ls, hP.same (fun k hk hk5 => ?_) (fun k hk => ?_) (fun k hk => ?_) (fun x hx k hk => ?_), hz, h1, h2, below_row hb hn hg (fun r e => by have := (hr r e).1; omega)⟩
  · have : k = n0 ∨ k = n0 + 1 ∨ k = n0 + 2 ∨ k = n0 + 3 ∨ k = n0 + 4 := by omega
    rcases this with rfl | rfl | rfl | rfl | rfl
    · exact cellsG hg hr hP.r0
    · exact cellsG hg hr hP.r1
    · exact cellsG hg hr hP.b4
    · exact cellsG hg hr hP.b5
    · exact cellsG hg hr hP.b6
  · obtain ⟨c, hc⟩ := own_kind hP.nm hk
    exact cellsG hg hr hc
  · obtain ⟨c, hc⟩ := own_kind hP.pt hk
    exact cellsG hg hr hc
  · obtain ⟨L, hL⟩ := hP.innOf hx
    obtain ⟨c, hc⟩ := own_kind hL hk
    exact cellsG hg hr hc
theorem Fin4.grown {n0 B0 : Nat} {w A B : World} {e : Nat} {fs : List Hd.Fd} {row : Option Nat} (h : Fin4 n0 w fs e A) (hn : n0 ≤ w.heap.size) (hB : n0 ≤ B0) (hg : A.grownBy B row) (hr : ∀ r, row = some r → B0 ≤ r ∧ ∃ o : Obj, A.heap[r]? = some o ∧ o.isCells = false) : Fin4 n0 w fs e B := by
  obtain ⟨a, m, c, h0, h1, hO, hb⟩ := h
  exact ⟨a, m, c, (cellsG hg hr h0).trans h0, (cellsG hg hr h1).trans h1, own_block hO (fun k hk => by
    obtain ⟨x, hx⟩ := own_kind hO hk
    exact cellsG hg hr hx), below_row hb hn hg (fun r e => by have := (hr r e).1; omega)⟩
theorem St.len {n0 : Nat} {W : World} {NM : List (List UInt8)} {e m : Nat} {nv pv : Value} {hs : List Value} {Ls : List (List (List UInt8))} (hP : PM n0 W NM e m nv pv hs Ls) (h : NM.length = hs.length) : (NM.zip (Ls.map Tx.joinSp)).length = NM.length := by
  rw [List.length_zip, List.length_map, hP.l2]; omega
section
variable {F : Fence} {n : Nat} {ops : Array Oper} {rest : List Oper} {o : Oper} {a : Act} {Q : Exit → Act → World → Prop} {n0 : Nat} {W : World} {NM : List (List UInt8)} {e m : Nat} {nv pv : Value} {hs : List Value} {Ls : List (List (List UInt8))}
/-- names = append(names, r). -/
theorem wpListIn_names (hP : PM n0 W NM e m nv pv hs Ls) (hg : o.guard = none) (s x : Operand) (hop : o.op = Op.call { callee := Callee.builtin Builtin.append, args := #[s, x], argTypes := #[41, 41] })
    (r : List UInt8) (hsv : a.eval s = nv) (hx : a.eval x = .slice (some ⟨W.heap.size, 0, none⟩) 1 1) (hbig : NM.length ≤ 1000000) (h6 : n0 + 6 ≤ W.heap.size)
    (hK : ∀ na nl nc w', Hid (PM n0 (w'.setCell ⟨n0 + 2, 0, none⟩ (.slice na nl nc)) (NM ++ [r]) e m (.slice na nl nc) pv hs Ls ∧ Mq n0 W (w'.setCell ⟨n0 + 2, 0, none⟩ (.slice na nl nc))) → w'.cell? ⟨n0 + 2, 0, none⟩ = some nv → w'.frozen? ⟨n0 + 2, 0, none⟩ = false → w'.cell? ⟨n0 + 3, 0, none⟩ = some pv →
      wpListIn F n Tryd.prog ops Q rest (a.put o.dst (.slice na nl nc)) w') :
    wpListIn F n Tryd.prog ops Q (o :: rest) a (W.alloc (.cells #[encStr r] 9)) := by
  have hP1 := hP.new (below_new W (.cells #[encStr r] 9))
  refine wpListIn_app_s1 _ hg s x hop r hP1.nm hsv hx (cells_new W (sv [r]) 9 0 _ rfl) hbig (by rw [alloc_size]; omega) fun v' w' h => ?_
  obtain ⟨h1, h2, h3⟩ := h.out
  obtain ⟨pa, pc, rfl⟩ := own_slice h1
  have hlt := hP1.lt
  have hrow := own_from hP1.nm
  have hb : ∀ k, k < n0 + 5 → w'.heap[k]? = (W.alloc (.cells #[encStr r] 9)).heap[k]? := fun k hk => h2.block k (by omega) (fun e => by have := hrow k e.symm; omega)
  have b4 := (hb (n0 + 2) (by omega)).trans hP1.b4
  have b5 := (hb (n0 + 3) (by omega)).trans hP1.b5
  refine hK _ _ _ _ (Lib.hid ⟨hP1.name h2 h1 h3, ?_⟩) (by simp [World.cell?, b4]) (by simp [World.frozen?, b4]) (by simp [World.cell?, b5])
  refine Mq.set (((Mq.refl n0 W).below (below_new W _) (by omega)).grown (by rw [alloc_size]; omega) h2 (fun k hk => ⟨hrow k hk, ?_⟩)) b4 (by omega) (by omega)
  obtain ⟨c, hc⟩ := own_kind hP1.nm hk
  exact ⟨c, _, hc⟩
/-- parts = append(parts, nil). -/
theorem wpListIn_parts (hP : PM n0 W NM e m nv pv hs Ls) (hg : o.guard = none) (s x : Operand) (hop : o.op = Op.call { callee := Callee.builtin Builtin.append, args := #[s, x], argTypes := #[68, 68] })
    (hsv : a.eval s = pv) {sz : Nat} (hsz : Hid (W.heap.size = sz)) (hx : a.eval x = .slice (some ⟨sz, 0, none⟩) 1 1) (hbig : hs.length ≤ 1000000) (h6 : n0 + 6 ≤ W.heap.size)
    (hK : ∀ pg pc w', Hid (PM n0 (w'.setCell ⟨n0 + 3, 0, none⟩ (.slice (some ⟨pg, 0, none⟩) (hs.length + 1) pc)) NM e m nv (.slice (some ⟨pg, 0, none⟩) (hs.length + 1) pc) (hs ++ [.slice none 0 0]) (Ls ++ [[]]) ∧ Mq n0 W (w'.setCell ⟨n0 + 3, 0, none⟩ (.slice (some ⟨pg, 0, none⟩) (hs.length + 1) pc))) →
      w'.cell? ⟨n0 + 3, 0, none⟩ = some pv → w'.frozen? ⟨n0 + 3, 0, none⟩ = false → wpListIn F n Tryd.prog ops Q rest (a.put o.dst (.slice (some ⟨pg, 0, none⟩) (hs.length + 1) pc)) w') :
    wpListIn F n Tryd.prog ops Q (o :: rest) a (W.alloc (.cells #[.slice none 0 0] 41)) := by
  have hP1 := hP.new (below_new W (.cells #[.slice none 0 0] 41))
  refine wpListIn_app_r1 _ hg s x hop (.slice none 0 0) rfl hP1.pt hsv (by rw [hsz.out]; exact hx) (cells_new W [.slice none 0 0] 41 0 _ rfl) hbig (by rw [alloc_size]; omega) fun v' w' h => ?_
  obtain ⟨h1, h2, h3⟩ := h.out
  have hlt := hP1.lt
  have hrow := own_from hP1.pt
  have hb : ∀ k, k < n0 + 5 → w'.heap[k]? = (W.alloc (.cells #[.slice none 0 0] 41)).heap[k]? := fun k hk => h2.block k (by omega) (fun e => by have := hrow k e.symm; omega)
  have b5 := (hb (n0 + 3) (by omega)).trans hP1.b5
  have hP2 := hP1.part0 h2 h1
  have hv : ∃ pg pc, v' = .slice (some ⟨pg, 0, none⟩) (hs.length + 1) pc := by
    rcases h1.2 with ⟨_, h0⟩ | ⟨g, cap, cur, hv, _⟩
    · rw [List.length_append, List.length_singleton] at h0; omega
    · exact ⟨g, cap, by rw [hv, List.length_append, List.length_singleton]⟩
  obtain ⟨pg, pc, rfl⟩ := hv
  refine hK _ _ _ (Lib.hid ⟨hP2, ?_⟩) (by simp [World.cell?, b5]) (by simp [World.frozen?, b5])
  refine Mq.set (((Mq.refl n0 W).below (below_new W _) (by omega)).grown (by rw [alloc_size]; omega) h2 (fun k hk => ⟨hrow k hk, ?_⟩)) b5 (by omega) (by omega)
  obtain ⟨c, hc⟩ := own_kind hP1.pt hk
  exact ⟨c, _, hc⟩
end
theorem size_set (W : World) (p : Addr) (u : Value) : Hid ((W.setCell p u).heap.size = W.heap.size) := Lib.hid (by simp [World.setCell])
theorem PM.box {n0 : Nat} {W : World} {NM : List (List UInt8)} {e m : Nat} {nv pv : Value} {hs : List Value} {Ls : List (List (List UInt8))} (h : PM n0 W NM e m nv pv hs Ls) :
    W.cell? ⟨n0 + 2, 0, none⟩ = some nv ∧ W.frozen? ⟨n0 + 2, 0, none⟩ = false ∧ W.cell? ⟨n0 + 3, 0, none⟩ = some pv ∧ W.frozen? ⟨n0 + 3, 0, none⟩ = false ∧ W.cell? ⟨n0 + 4, 0, none⟩ = some (.int .i64 e) ∧ W.frozen? ⟨n0 + 4, 0, none⟩ = false :=
  ⟨by simp [World.cell?, h.b4], by simp [World.frozen?, h.b4], by simp [World.cell?, h.b5], by simp [World.frozen?, h.b5], by simp [World.cell?, h.b6], by simp [World.frozen?, h.b6]⟩
section
variable {n0 : Nat} {W : World} {NM : List (List UInt8)} {e m : Nat} {nv hv : Value} {h0 : List Value} {L0 : List (List (List UInt8))} {L : List (List UInt8)} {pg pc j : Nat}
theorem PM.last (h : PM n0 W NM e m nv (.slice (some ⟨pg, 0, none⟩) (j + 1) pc) (h0 ++ [hv]) (L0 ++ [L])) (hj : h0.length = j) : W.cell? ⟨pg, j, none⟩ = some hv ∧ W.frozen? ⟨pg, j, none⟩ = false ∧ pg ≠ n0 + 3 ∧ pg ≠ n0 + 4 ∧ j + 1 ≤ pc ∧ L0.length = j := by
  have hf := own_from h.pt pg rfl
  have hll := h.l2
  simp only [List.length_append, List.length_singleton] at hll
  rcases h.pt.2 with ⟨h1, _⟩ | ⟨g, cap, cur, hv2, hb, hg, hnc, hcm, hcs, ht⟩
  · cases h1
  injection hv2 with e1 e2 e3
  injection e1 with e1
  injection e1 with e1
  subst e1
  subst e3
  have hc : cur.toList[j]? = some hv := by
    have h5 : (cur.toList.take ((h0 ++ [hv]).length * 1))[j]? = (h0 ++ [hv])[j]? := by rw [ht]
    rw [List.getElem?_take, if_pos (by rw [List.length_append, List.length_singleton]; omega)] at h5
    rw [h5]
    simp [← hj]
  refine ⟨?_, by simp [World.frozen?, hg], by omega, by omega, by rw [List.length_append, List.length_singleton] at hnc; omega, by omega⟩
  simp only [World.cell?, hg]
  simpa using hc
/-- parts[last] = append(parts[last], r). -/
theorem wpo_add {o : Oper} {a : Act} {K : Act → World → Prop} {Q : Exit → Act → World → Prop} {E : Prop} {ops : Array Oper} (hP : PM n0 W NM e m nv (.slice (some ⟨pg, 0, none⟩) (j + 1) pc) (h0 ++ [hv]) (L0 ++ [L])) (hj : h0.length = j)
    {d : Nat} (hd : o.dst = some d) (hg : o.guard = none) (s x : Operand) (hop : o.op = .call { callee := .builtin .append, args := #[s, x], argTypes := #[41, 41] })
    (r : List UInt8) (hsv : a.eval s = hv) (hx : a.eval x = .slice (some ⟨W.heap.size, 0, none⟩) 1 1) (hr : r ≠ [] ∧ r.length ≤ 30000) (hm : L.length + 1 ≤ m) (hbig : L.length ≤ 1000000) (h6 : n0 + 6 ≤ W.heap.size)
    (hK : ∀ ha hl hc w', Hid (PM n0 (w'.setCell ⟨pg, j, none⟩ (.slice ha hl hc)) NM e m nv (.slice (some ⟨pg, 0, none⟩) (j + 1) pc) (h0 ++ [.slice ha hl hc]) (L0 ++ [L ++ [r]]) ∧ Mq n0 W (w'.setCell ⟨pg, j, none⟩ (.slice ha hl hc))) →
      w'.cell? ⟨pg, j, none⟩ = some hv → w'.frozen? ⟨pg, j, none⟩ = false → w'.cell? ⟨n0 + 3, 0, none⟩ = some (.slice (some ⟨pg, 0, none⟩) (j + 1) pc) → K { tmps := a.tmps.setIfInBounds d (.slice ha hl hc), defers := a.defers } w') :
    if Region.wanted o (yielded ops a.tmps) = true then Oper.wp Tryd.prog o a (W.alloc (.cells #[encStr r] 9)) K Q else E := by
  have hP1 := hP.new (below_new W (.cells #[encStr r] 9))
  obtain ⟨z1, z2, z3, z4, z5, z6⟩ := hP1.last hj
  have hi : SOwn (W.alloc (.cells #[encStr r] 9)) (n0 + 6) hv L := hP1.inn j hv L (by simp [← hj]) (by simp [← z6])
  refine wpo_app_s1 hg s x hop r hi hsv hx (cells_new W (sv [r]) 9 0 _ rfl) hbig (by rw [alloc_size]; omega) fun v' w' h => ?_
  obtain ⟨h1, h2, h3⟩ := h.out
  obtain ⟨pa, pc', rfl⟩ := own_slice h1
  have hne : hv.ownBlock ≠ some pg := own_apart hP1.pt hi (by decide) rfl
  have hrow := own_from hi
  have hlt := hP1.lt
  obtain ⟨c, hc⟩ := own_kind hP1.pt (k := pg) rfl
  have hcl := (Array.getElem?_eq_some_iff.1 hc).1
  have e1 : w'.heap[pg]? = _ := h2.block pg hcl (fun e => hne e.symm)
  have e2 : w'.heap[n0 + 3]? = _ := h2.block (n0 + 3) (by omega) (fun e => by have := hrow _ e.symm; omega)
  have hP2 : PM n0 (W.alloc (.cells #[encStr r] 9)) NM e m nv (.slice (some ⟨pg, 0, none⟩) (h0 ++ [hv]).length pc) (h0 ++ [hv]) (L0 ++ [L]) := by
    rw [show (h0 ++ [hv]).length = j + 1 by simp [hj]]; exact hP1
  have hP3 := hP2.add (by omega) h2 h1 h3 hm hr
  rw [show ∀ u : Value, (h0 ++ [u]).length = j + 1 by intro u; simp [hj], hj] at hP3
  unfold Act.put
  rw [hd]
  refine hK _ _ _ _ (Lib.hid ⟨hP3, ?_⟩) ((World.cell?_of_block (a := ⟨pg, j, none⟩) e1).trans z1) ((World.frozen?_of_block (a := ⟨pg, j, none⟩) e1).trans z2) ((World.cell?_of_block (a := ⟨n0 + 3, 0, none⟩) e2).trans hP1.box.2.2.1)
  have hf := own_from hP1.pt pg rfl
  refine Mq.set (((Mq.refl n0 W).below (below_new W _) (by omega)).grown (by rw [alloc_size]; omega) h2 (fun k hk => ⟨hrow k hk, ?_⟩)) (e1.trans hc) (by omega) (by omega)
  obtain ⟨c2, hc2⟩ := own_kind hi hk
  exact ⟨c2, _, hc2⟩
end
namespace Hd
theorem field_cut {c n r : List UInt8} (h : field c = some (n, r)) : Lib.cut c [58] = (n, r, true) := by
  unfold field at h
  split at h
  · rename_i n' r' hc
    split at h
    · cases h; exact hc
    · cases h
  · cases h
theorem addPart_nil (v : List UInt8) : addPart v [] = v := by unfold addPart; rw [if_pos rfl]
theorem addPart_from (t : List UInt8) : addPart [] t = t := by unfold addPart; split <;> simp_all
theorem addLast_nil (fs : List Fd) : addLast fs [] = fs := by
  rcases List.eq_nil_or_concat fs with rfl | ⟨r, f, rfl⟩
  · rfl
  · rw [List.concat_eq_append, addLast_snoc, addPart_nil]
theorem addLast_new (fs : List Fd) (n t : List UInt8) : addLast (fs ++ [(n, [])]) t = fs ++ [(n, t)] := by rw [addLast_snoc, addPart_from]
theorem joinSp_ne {L : List (List UInt8)} (h : L ≠ []) (hx : ∀ x ∈ L, x ≠ []) : Tx.joinSp L ≠ [] := by
  cases L with
  | nil => exact absurd rfl h
  | cons a r =>
    have := hx a (by simp)
    cases a with
    | nil => exact absurd rfl this
    | cons c s => simp [Tx.joinSp]
theorem joinSp_add {L : List (List UInt8)} {t : List UInt8} (hx : ∀ x ∈ L, x ≠ []) (ht : t ≠ []) : addPart (Tx.joinSp L) t = Tx.joinSp (L ++ [t]) := by
  by_cases h : L = []
  · subst h
    show addPart [] t = _
    rw [addPart_from]
    simp [Tx.joinSp]
  · rw [Tx.joinSp_snoc L t h]
    unfold addPart
    rw [if_neg ht, if_neg (joinSp_ne h hx)]
theorem zip_new {NM : List (List UInt8)} {Ls : List (List (List UInt8))} (n : List UInt8) (h : NM.length = Ls.length) : (NM ++ [n]).zip ((Ls ++ [[]]).map Tx.joinSp) = NM.zip (Ls.map Tx.joinSp) ++ [(n, [])] := by
  rw [List.map_append, List.zip_append (by rw [List.length_map]; exact h)]
  rfl
theorem addLast_zip {NM : List (List UInt8)} {L0 : List (List (List UInt8))} {L : List (List UInt8)} {t : List UInt8} (h : NM.length = (L0 ++ [L]).length) (hx : ∀ x ∈ L, x ≠ []) (ht : t ≠ []) :
    addLast (NM.zip ((L0 ++ [L]).map Tx.joinSp)) t = NM.zip ((L0 ++ [L ++ [t]]).map Tx.joinSp) := by
  rcases List.eq_nil_or_concat NM with rfl | ⟨N0, n, rfl⟩
  · simp at h
  · rw [List.concat_eq_append] at h ⊢
    simp only [List.length_append, List.length_singleton] at h
    rw [List.map_append, List.map_append, List.zip_append (by rw [List.length_map]; omega), List.zip_append (by rw [List.length_map]; omega)]
    show addLast (_ ++ [(n, Tx.joinSp L)]) t = _ ++ [(n, Tx.joinSp (L ++ [t]))]
    rw [addLast_snoc, joinSp_add hx ht]
end Hd
end Go.Proofs.YtliadekcbkedmaaDoor
