/-
  header.Parse.
-/
import Derived.Test.YtliadekcbkedmaaDoorFPn
namespace Go.Proofs.YtliadekcbkedmaaDoor
open Go Go.RowKit Go.Shelf
attribute [local go_sem] Oper.semAt_some
theorem six_at (w : World) (o0 o1 o2 o3 o4 o5 : Obj) : ((((((w.alloc o0).alloc o1).alloc o2).alloc o3).alloc o4).alloc o5).heap.size = w.heap.size + 6 ∧
    (∀ k, k < 6 → ((((((w.alloc o0).alloc o1).alloc o2).alloc o3).alloc o4).alloc o5).heap[w.heap.size + k]? = [o0, o1, o2, o3, o4, o5][k]?) ∧ Below w.heap.size w ((((((w.alloc o0).alloc o1).alloc o2).alloc o3).alloc o4).alloc o5) := by
  refine ⟨by simp only [World.size_alloc], fun k hk => ?_, ((((((Below.refl _ w).alloc (Nat.le_refl _) _).alloc (by first | rfl | (simp only [World.size_alloc] <;> omega)) _).alloc (by first | rfl | (simp only [World.size_alloc] <;> omega)) _).alloc (by first | rfl | (simp only [World.size_alloc] <;> omega)) _).alloc (by first | rfl | (simp only [World.size_alloc] <;> omega)) _).alloc (by first | rfl | (simp only [World.size_alloc] <;> omega)) _⟩
  have new : ∀ (x : World) (o : Obj) (k : Nat), k = x.heap.size → (x.alloc o).heap[k]? = some o := fun x o k hk => by rw [hk]; exact World.alloc_heap_new x o
  have old : ∀ (x : World) (o : Obj) (k : Nat), k < x.heap.size → (x.alloc o).heap[k]? = x.heap[k]? := fun x o k hk => Lib.alloc_old x o k hk
  have : k = 0 ∨ k = 1 ∨ k = 2 ∨ k = 3 ∨ k = 4 ∨ k = 5 := by omega
  rcases this with rfl | rfl | rfl | rfl | rfl | rfl
  · rw [old _ _ _ (by first | rfl | (simp only [World.size_alloc] <;> omega)), old _ _ _ (by first | rfl | (simp only [World.size_alloc] <;> omega)), old _ _ _ (by first | rfl | (simp only [World.size_alloc] <;> omega)), old _ _ _ (by first | rfl | (simp only [World.size_alloc] <;> omega)), old _ _ _ (by first | rfl | (simp only [World.size_alloc] <;> omega))]; exact new _ _ _ (by first | rfl | (simp only [World.size_alloc] <;> omega))
  · rw [old _ _ _ (by first | rfl | (simp only [World.size_alloc] <;> omega)), old _ _ _ (by first | rfl | (simp only [World.size_alloc] <;> omega)), old _ _ _ (by first | rfl | (simp only [World.size_alloc] <;> omega)), old _ _ _ (by first | rfl | (simp only [World.size_alloc] <;> omega))]; exact new _ _ _ (by first | rfl | (simp only [World.size_alloc] <;> omega))
  · rw [old _ _ _ (by first | rfl | (simp only [World.size_alloc] <;> omega)), old _ _ _ (by first | rfl | (simp only [World.size_alloc] <;> omega)), old _ _ _ (by first | rfl | (simp only [World.size_alloc] <;> omega))]; exact new _ _ _ (by first | rfl | (simp only [World.size_alloc] <;> omega))
  · rw [old _ _ _ (by first | rfl | (simp only [World.size_alloc] <;> omega)), old _ _ _ (by first | rfl | (simp only [World.size_alloc] <;> omega))]; exact new _ _ _ (by first | rfl | (simp only [World.size_alloc] <;> omega))
  · rw [old _ _ _ (by first | rfl | (simp only [World.size_alloc] <;> omega))]; exact new _ _ _ (by first | rfl | (simp only [World.size_alloc] <;> omega))
  · exact new _ _ _ (by first | rfl | (simp only [World.size_alloc] <;> omega))
theorem results_two_cells {fn : Func} {p q : Tmp} {t u : TypeId} (h : fn.results = #[.cell p t, .cell q u]) (tmps : Array Value) (w : World) (g k : Nat) (x y : Value)
    (hp : tmps.getD p undef = .pointer (some ⟨g, 0, none⟩)) (hq : tmps.getD q undef = .pointer (some ⟨k, 0, none⟩)) (hx : (loadVar t ⟨g, 0, none⟩).run Tryd.prog w = .ok x w) (hy : (loadVar u ⟨k, 0, none⟩).run Tryd.prog w = .ok y w) :
    (results fn tmps).run Tryd.prog w = .ok (.tuple #[x, y]) w := by
  rw [Array.getD_eq_getD_getElem?] at hp hq
  simp [results, h, hp, hq, hx, hy, asAddr, Result.andThen, Sem.run_bind]
theorem load_f {W : World} {g : Nat} {x : Value} (h : W.heap[g]? = some (.cells #[x] 33 (0, 0))) : (loadVar 33 ⟨g, 0, none⟩).run Tryd.prog W = .ok x W := by
  have hc : W.cell? ⟨g, 0, none⟩ = some x := by simp [World.cell?, h]
  go_simp
theorem load_i {W : World} {g : Nat} {x : Value} (h : W.heap[g]? = some (.cells #[x] 3 (0, 0))) : (loadVar 3 ⟨g, 0, none⟩).run Tryd.prog W = .ok x W := by
  have hc : W.cell? ⟨g, 0, none⟩ = some x := by simp [World.cell?, h]
  go_simp
theorem fown_base {T : TypeId} {w : World} {b b' : Nat} {v : Value} {X : List Hd.Fd} (h : FOwn T w b v X) (hb : b' ≤ b) : FOwn T w b' v X := by
  refine ⟨h.1, ?_⟩
  rcases h.2 with hn | ⟨g, cap, cur, hv, hg, rest⟩
  · exact .inl hn
  · exact .inr ⟨g, cap, cur, hv, Nat.le_trans hb hg, rest⟩
theorem Fin4.done {n0 : Nat} {w W : World} {fs : List Hd.Fd} {e : Nat} (h : Fin4 n0 w fs e W) :
    ∃ a m c, FOwn 35 W (n0 + 6) (.slice a m c) fs ∧ Below n0 w W ∧ ∀ (fn : Func) (p q : Tmp) (tmps : Array Value), fn.results = #[.cell p 33, .cell q 3] → tmps.getD p undef = .pointer (some ⟨n0, 0, none⟩) → tmps.getD q undef = .pointer (some ⟨n0 + 1, 0, none⟩) →
      (results fn tmps).run Tryd.prog W = .ok (.tuple #[.slice a m c, .int .i64 e]) W := by
  obtain ⟨a, m, c, h0, h1, hO, hb⟩ := h
  exact ⟨a, m, c, hO, hb, fun fn p q tmps hf hp hq => results_two_cells hf tmps W n0 (n0 + 1) _ _ hp hq (load_f h0) (load_i h1)⟩
theorem Fin4.out {n0 D : Nat} {w W : World} {fs : List Hd.Fd} {e : Nat} (h : Fin4 n0 w fs e W) (hn : n0 ≤ w.heap.size) (hD : n0 ≤ D) (hK : W.heap[D]? = some (.deferred (some []))) : Fin4 n0 w fs e (W.putObj D (.deferred none)) :=
  h.grown hn (Nat.le_refl _) (grownBy_putObj' _ _ _) (fun r hr => by cases hr; exact ⟨hD, _, hK, rfl⟩)
theorem set2_at {n0 D : Nat} {W W' : World} {u v : Value} {o : Obj} (hD : n0 + 2 ≤ D) (hK : W.heap[D]? = some o) (hb : Below W.heap.size W W') : ((W'.setCell ⟨n0, 0, none⟩ u).setCell ⟨n0 + 1, 0, none⟩ v).heap[D]? = some o := by
  rw [Below.heap_setCell _ _ _ _ (fun e => by simp at e; omega), Below.heap_setCell _ _ _ _ (fun e => by simp at e; omega), hb.block D (Array.getElem?_eq_some_iff.1 hK).1]
  exact hK
/-- The boxes of Parse stand. -/
structure Bx (n0 : Nat) (W : World) (na : Option Addr) (nc : Nat) (pa : Option Addr) (pc k e : Nat) : Prop where
  h0 : ∃ x, W.heap[n0]? = some (.cells #[x] 33 (0, 0))
  h1 : ∃ x, W.heap[n0 + 1]? = some (.cells #[x] 3 (0, 0))
  h2 : W.heap[n0 + 2]? = some (.cells #[.slice na k nc] 41 (0, 0))
  h3 : W.heap[n0 + 3]? = some (.cells #[.slice pa k pc] 68 (0, 0))
  h4 : W.heap[n0 + 4]? = some (.cells #[.int .i64 e] 3 (0, 0))
theorem Bx.cells {n0 : Nat} {W : World} {na : Option Addr} {nc : Nat} {pa : Option Addr} {pc k e : Nat} (h : Bx n0 W na nc pa pc k e) : W.cell? ⟨n0 + 1 + 1, 0, none⟩ = some (.slice na k nc) ∧ W.cell? ⟨n0 + 1 + 1 + 1, 0, none⟩ = some (.slice pa k pc) ∧ W.cell? ⟨n0 + 1 + 1 + 1 + 1, 0, none⟩ = some (.int .i64 e) := by
  show W.cell? ⟨n0 + 2, 0, none⟩ = some (.slice na k nc) ∧ W.cell? ⟨n0 + 3, 0, none⟩ = some (.slice pa k pc) ∧ W.cell? ⟨n0 + 4, 0, none⟩ = some (.int .i64 e)
  have := h.h2
  have := h.h3
  have := h.h4
  exact ⟨by simp [World.cell?, *], by simp [World.cell?, *], by simp [World.cell?, *]⟩
theorem keep_set {n0 i : Nat} {W : World} {u : Value} {x y z : Option Value} (hi : i < n0 + 2) (h : W.cell? ⟨n0 + 1 + 1, 0, none⟩ = x ∧ W.cell? ⟨n0 + 1 + 1 + 1, 0, none⟩ = y ∧ W.cell? ⟨n0 + 1 + 1 + 1 + 1, 0, none⟩ = z) :
    (W.setCell ⟨i, 0, none⟩ u).cell? ⟨n0 + 1 + 1, 0, none⟩ = x ∧ (W.setCell ⟨i, 0, none⟩ u).cell? ⟨n0 + 1 + 1 + 1, 0, none⟩ = y ∧ (W.setCell ⟨i, 0, none⟩ u).cell? ⟨n0 + 1 + 1 + 1 + 1, 0, none⟩ = z := by
  rw [World.cell?_setCell_far _ _ _ _ (show i ≠ n0 + 1 + 1 by omega), World.cell?_setCell_far _ _ _ _ (show i ≠ n0 + 1 + 1 + 1 by omega), World.cell?_setCell_far _ _ _ _ (show i ≠ n0 + 1 + 1 + 1 + 1 by omega)]
  exact h
theorem Bx.outs {n0 : Nat} {W : World} {na : Option Addr} {nc : Nat} {pa : Option Addr} {pc k e : Nat} (h : Bx n0 W na nc pa pc k e) : ∃ x y, (W.cell? ⟨n0, 0, none⟩ = some x ∧ W.frozen? ⟨n0, 0, none⟩ = false) ∧ W.cell? ⟨n0 + 1, 0, none⟩ = some y ∧ W.frozen? ⟨n0 + 1, 0, none⟩ = false := by
  obtain ⟨x, hx⟩ := h.h0
  obtain ⟨y, hy⟩ := h.h1
  exact ⟨x, y, ⟨by simp [World.cell?, hx], by simp [World.frozen?, hx]⟩, by simp [World.cell?, hy], by simp [World.frozen?, hy]⟩
theorem Bx.below {n0 : Nat} {W W' : World} {na : Option Addr} {nc : Nat} {pa : Option Addr} {pc k e : Nat} (h : Bx n0 W na nc pa pc k e) (hb : Below W.heap.size W W') : Bx n0 W' na nc pa pc k e := by
  have hl := (Array.getElem?_eq_some_iff.1 h.h4).1
  obtain ⟨x, hx⟩ := h.h0
  obtain ⟨y, hy⟩ := h.h1
  exact ⟨⟨x, (hb.block _ (by omega)).trans hx⟩, ⟨y, (hb.block _ (by omega)).trans hy⟩, (hb.block _ (by omega)).trans h.h2, (hb.block _ (by omega)).trans h.h3, (hb.block _ (by omega)).trans h.h4⟩
theorem Bx.mq {n0 : Nat} {W V : World} {na : Option Addr} {nc : Nat} {pa : Option Addr} {pc k e : Nat} {u v : Value} (h : Bx n0 V na nc pa pc k e) (hQ : Mq n0 W V) : Mq n0 W ((V.setCell ⟨n0, 0, none⟩ u).setCell ⟨n0 + 1, 0, none⟩ v) := by
  obtain ⟨x, hx⟩ := h.h0
  obtain ⟨y, hy⟩ := h.h1
  refine (hQ.set hx (Nat.le_refl _) (by omega)).set (c := #[y]) (t := 3) (fz := (0, 0)) ?_ (by omega) (by omega)
  rw [Below.heap_setCell _ _ _ _ (by simp)]
  exact hy
/-- What joined made is stored. -/
theorem Bx.fin {n0 : Nat} {w W : World} {na : Option Addr} {nc : Nat} {pa : Option Addr} {pc k e : Nat} (h : Bx n0 W na nc pa pc k e) {a : Option Addr} {m c : Nat} {fs : List Hd.Fd} (hO : FOwn 35 W (n0 + 6) (.slice a m c) fs) (hb : Below n0 w W) :
    Fin4 n0 w fs e ((W.setCell ⟨n0, 0, none⟩ (.slice a m c)).setCell ⟨n0 + 1, 0, none⟩ (.int .i64 e)) := by
  obtain ⟨x, hx⟩ := h.h0
  obtain ⟨y, hy⟩ := h.h1
  have hl := (Array.getElem?_eq_some_iff.1 h.h4).1
  have ho : ∀ i, i ≠ n0 → i ≠ n0 + 1 → ((W.setCell ⟨n0, 0, none⟩ (.slice a m c)).setCell ⟨n0 + 1, 0, none⟩ (.int .i64 e)).heap[i]? = W.heap[i]? := fun i h1 h2 => (Below.heap_setCell _ _ _ _ (fun e => h2 (by simpa using e))).trans (Below.heap_setCell _ _ _ _ (fun e => h1 (by simpa using e)))
  refine ⟨a, m, c, ?_, ?_, own_block hO (fun i hi => ho i (by have := own_from hO i hi; omega) (by have := own_from hO i hi; omega)), ⟨hb.os, hb.tape, hb.output, by simpa [World.setCell] using hb.size, fun i hi => (ho i (by omega) (by omega)).trans (hb.block i hi)⟩⟩
  · rw [Below.heap_setCell _ _ _ _ (by simp)]
    simp [World.setCell, Array.getElem?_modify, hx]
  · simp [World.setCell, Array.getElem?_modify, hy]
/-- The call of joined, named. -/
theorem PM.join {n0 : Nat} {W : World} {NM : List (List UInt8)} {m e : Nat} {na pa : Option Addr} {nc pc k : Nat} {qs : List Value} {Ls : List (List (List UInt8))} (hP : PM n0 W NM e m (.slice na k nc) (.slice pa k pc) qs Ls) (h1 : NM.length = qs.length) (h2 : qs.length ≤ 400) (hm : m ≤ 30000) (h5 : n0 + 6 ≤ W.heap.size) :
    Hid (Bx n0 W na nc pa pc k e) ∧ Hid (∀ W1, Below W.heap.size W W1 → Calls Tryd.prog 50 #[.slice na k nc, .slice pa k pc] W1 fun r w' => ∃ a m c, r = .returned (.slice a m c) ∧ Hid (FOwn 35 w' (n0 + 6) (.slice a m c) (NM.zip (Ls.map Tx.joinSp)) ∧ Below W.heap.size W w' ∧ Below W1.heap.size W1 w')) := by
  obtain ⟨na', nb, nc', pa', pb, pc', e1, e2, hN, hR⟩ := hP.reads
  injection e1 with e1 e3 e4
  injection e2 with e2 e5 e6
  subst e1 e2 e3 e4 e6
  refine ⟨Lib.hid ⟨⟨_, hP.r0⟩, ⟨_, hP.r1⟩, hP.b4, hP.b5, hP.b6⟩, Lib.hid fun W1 hW => ?_⟩
  refine (joined_any NM Ls NM.length nc pc nb pb na pa W1 (hN.below hW) (hR.below hW) rfl (by rw [hP.l2, h1]) (by omega) (fun L hL => ⟨by have := (hP.ok L hL).1; omega, fun x hx => ((hP.ok L hL).2 x hx).2⟩)).mono ?_
  rintro r w' ⟨a, k, c, rfl, hO, hb2⟩
  exact ⟨a, k, c, rfl, Lib.hid ⟨fown_base hO (by have := hW.size; omega), below_to hW (Nat.le_refl _) hb2, hb2⟩⟩
/-- The call of joined. -/
theorem St.join {n0 : Nat} {w W : World} {m e : Nat} {fs : List Hd.Fd} (h : St n0 w m fs e W) (hm : m ≤ 30000) (h5 : n0 + 6 ≤ W.heap.size) : ∃ na nc pa pc k, Hid (Bx n0 W na nc pa pc k e ∧ Below n0 w W) ∧
    Hid (∀ W1, Below W.heap.size W W1 → Calls Tryd.prog 50 #[.slice na k nc, .slice pa k pc] W1 fun r w' => ∃ a m c, r = .returned (.slice a m c) ∧ Hid (FOwn 35 w' (n0 + 6) (.slice a m c) fs ∧ Below W.heap.size W w' ∧ Below W1.heap.size W1 w')) := by
  obtain ⟨NM, nv, pv, hs, Ls, hP, hz, h1, h2, hb⟩ := h
  obtain ⟨na, nb, nc, pa, pb, pc, rfl, rfl, hN, hR⟩ := hP.reads
  refine ⟨na, nc, pa, pc, NM.length, Lib.hid ⟨⟨⟨_, hP.r0⟩, ⟨_, hP.r1⟩, hP.b4, by rw [h1]; exact hP.b5, hP.b6⟩, hb⟩, Lib.hid fun W1 hW => ?_⟩
  refine (joined_any NM Ls NM.length nc pc nb pb na pa W1 (hN.below hW) (hR.below hW) rfl (by rw [hP.l2, h1]) (by omega) (fun L hL => ⟨by have := (hP.ok L hL).1; omega, fun x hx => ((hP.ok L hL).2 x hx).2⟩)).mono ?_
  rintro r w' ⟨a, k, c, rfl, hO, hb2⟩
  exact ⟨a, k, c, rfl, Lib.hid ⟨fown_base (by rw [hz]; exact hO) (by have := hW.size; omega), below_to hW (Nat.le_refl _) hb2, hb2⟩⟩
namespace Hd
/-- The last round, and how it ended. -/
def Lst (n0 : Nat) (w : World) (c : Code) (pre : List Ln) (W : World) : Prop :=
  ∃ (p : List Ln) (x : Ln) (fs : List Fd) (e : Nat), pre = p ++ [x] ∧ goes [] 0 (p.map Subtype.val) = some (fs, e) ∧
    ((c = .exit 0 ∧ x.1.1 = [] ∧ St n0 w p.length fs x.1.2 W) ∨ (c = .ret ∧ x.1.1 ≠ [] ∧ step fs x.1.1 = none ∧ Fin4 n0 w fs e W))
/-- The rounds so far. -/
def Rnd (n0 : Nat) (w : World) (pre : List Ln) (W : World) : Prop := ∃ (fs : List Fd) (e : Nat), goes [] 0 (pre.map Subtype.val) = some (fs, e) ∧ St n0 w pre.length fs e W
end Hd
theorem rnd_own {n0 : Nat} {w : World} (hn : n0 ≤ w.heap.size) : OwnFrom (n0 + 6) (Hd.Rnd n0 w) := fun s A B row hs hg hr => by
  obtain ⟨fs, e, h1, h2⟩ := hs
  exact ⟨fs, e, h1, h2.grown hn (by omega) hg hr⟩
theorem lst_own {n0 : Nat} {w : World} (hn : n0 ≤ w.heap.size) (c : Code) : OwnFrom (n0 + 6) (Hd.Lst n0 w c) := fun s A B row hs hg hr => by
  obtain ⟨p, x, fs, e, h1, h2, h3⟩ := hs
  refine ⟨p, x, fs, e, h1, h2, ?_⟩
  rcases h3 with ⟨a, b, c⟩ | ⟨a, b, c, d⟩
  · exact .inl ⟨a, b, c.grown hn (by omega) hg hr⟩
  · exact .inr ⟨a, b, c, d.grown hn (by omega) hg hr⟩
theorem rnd_end {n0 B m e : Nat} {w W V : World} {pre : List Ln} {C : List UInt8} {E : Nat} {hx : C.length ≤ 30000 ∧ E ≤ 30000} {fs fs2 : List Hd.Fd} {NM : List (List UInt8)} {nv pv : Value} {qs : List Value} {Ls : List (List (List UInt8))}
    (hgo : Hd.goes [] 0 (pre.map Subtype.val) = some (fs, e)) (hC : C ≠ []) (hst : Hd.step fs C = some fs2) (hQ : Mq n0 W V) {e' : Nat} (hP : PM n0 V NM e' m nv pv qs Ls) (hm : m ≤ pre.length + 1) (hz : fs2 = NM.zip (Ls.map Tx.joinSp)) (hl : NM.length = qs.length) (h4 : qs.length ≤ 400) (hB : Below n0 w W) (hM : 0 < n0) :
    KeepsFrom B W (V.setCell ⟨n0 + 4, 0, none⟩ (.int .i64 E)) ∧ KpC (n0 + 5) 0 W (V.setCell ⟨n0 + 4, 0, none⟩ (.int .i64 E)) ∧ Hd.Rnd n0 w (pre ++ [⟨(C, E), hx⟩]) (V.setCell ⟨n0 + 4, 0, none⟩ (.int .i64 E)) := by
  have hQ2 := hQ.set (off := 0) (v := .int .i64 E) hP.b6 (by omega) (by omega)
  refine ⟨hQ2.keeps, hQ2.kpc hM, fs2, E, ?_, NM, nv, pv, qs, Ls, (hP.end_ E).more (by rw [List.length_append, List.length_singleton]; exact hm), hz, hl, h4, hB.trans hQ2.b⟩
  rw [List.map_append]
  exact Hd.goes_snoc _ (C, E) _ _ _ _ _ hgo hC hst
set_option maxRecDepth 100000 in
set_option maxHeartbeats 4000000 in
theorem parse_any (s : ByteArray) (w : World) (hs : s.size ≤ 30000) (hM : MaxAt w) :
    Calls Tryd.prog 21 #[.string s] w fun e w' => ∃ a m c, e = .returned (.tuple #[.slice a m c, .int .i64 (s.size - (Hd.parse s.data.toList).2.length : Nat)]) ∧ FOwn 35 w' w.heap.size (.slice a m c) (Hd.parse s.data.toList).1 ∧ Below w.heap.size w w' := by
  refine (callsIn_wide (n := 8)).1 ?_
  refine callsIn_of_wp_marks Tryd.func21 rfl trivial ?_ rfl
  simp only [Tryd.ntmps21, List.size_toArray, List.length_cons, List.length_nil, Nat.reduceAdd, Nat.reduceSub, Array.replicate_succ, Array.replicate_zero, List.push_toArray, List.append_toArray, List.nil_append, List.cons_append]
  gi_wp2_with (refine ⟨trivial, ?_⟩; gi_at_call 47; refine (lines_in _ s _).mono ?_; rintro e w' ⟨rfl, rfl⟩)
  obtain ⟨hs6, hat, hB6⟩ := six_at w (.cells #[.slice none 0 0] 33) (.cells #[.int .i64 0] 3) (.cells #[.slice none 0 0] 41) (.cells #[.slice none 0 0] 68) (.cells #[.int .i64 0] 3) (.cells #[.string s] 9)
  obtain ⟨W6, hW6⟩ : ∃ W6, ((((((w.alloc (.cells #[.slice none 0 0] 33)).alloc (.cells #[.int .i64 0] 3)).alloc (.cells #[.slice none 0 0] 41)).alloc (.cells #[.slice none 0 0] 68)).alloc (.cells #[.int .i64 0] 3)).alloc (.cells #[.string s] 9)) = W6 := ⟨_, rfl⟩
  rw [hW6] at hs6 hat hB6 ⊢
  clear hW6
  obtain ⟨n0, hn0⟩ : ∃ n0, w.heap.size = n0 := ⟨_, rfl⟩
  have hMl := hM.pos
  have hM6 := hM.same (hB6.block _ hMl)
  rw [hn0] at hs6 hat hB6 hMl ⊢
  have hBs := hat 5 (by omega)
  have HN0 := Lib.hid hn0
  have hn0le : n0 ≤ w.heap.size := by omega
  have hR0 : Hd.Rnd n0 w [] W6 := ⟨[], 0, rfl, [], .slice none 0 0, .slice none 0 0, [], [],
    ⟨hat 0 (by omega), hat 1 (by omega), hat 2 (by omega), hat 3 (by omega), hat 4 (by omega), SOwn.nil _ _, World.ownsRow_nil _ _ _ _, fun i h L hh => (by cases hh), rfl, fun L hL => (by cases hL), List.pairwise_singleton _ _⟩,
    rfl, rfl, Nat.zero_le _, hB6⟩
  clear hn0 hat
  obtain ⟨N, hN⟩ : ∃ N, (Hd.seqG 0 s.data.toList).length = N := ⟨_, rfl⟩
  have hNs : N ≤ 30000 := by
    rw [← hN]
    refine Nat.le_trans (Hd.seqG_len _ _ 0 (Nat.le_refl _)) ?_
    rw [← Lib.size_eq]; exact hs
  have hLS := lines_stops 6 s hs (n0 + 5) W6 (by omega) hBs hM6 (by omega)
  rw [hN] at hLS
  have HNn := Lib.hid hN
  clear hN
  have hszW : n0 + 6 ≤ W6.heap.size := Nat.le_of_eq hs6.symm
  refine wpIn_rangeFunc_ownH rfl (by omega) (gf := 71) (lb := #[.pointer (some ⟨n0 + 5, 0, none⟩)]) rfl trivial (enters_of Tryd.func71 (by kernel_rfl) rfl)
    hLS
    KpC.trans (fun W l o o' _ hl ho _ => KpC.putObj W l o o' hl ho) (Below.refl _ _) (fun _ => rfl)
    (Hd.Rnd n0 w) (Hd.Lst n0 w)
    (by rw [hs6]; exact rnd_own hn0le) (fun c => by rw [hs6]; exact lst_own hn0le c)
    hR0
    (fun x a' _ => a' = { tmps := #[.string s, undef, .pointer (some ⟨n0, 0, none⟩), .pointer (some ⟨n0 + 1, 0, none⟩), .pointer (some ⟨n0 + 2, 0, none⟩), .pointer (some ⟨n0 + 3, 0, none⟩), .pointer (some ⟨n0 + 4, 0, none⟩), .string ⟨x.1.1.toArray⟩, .int .i64 x.1.2, undef, undef, undef, undef, .string s, .func (.func 71) #[] #[.pointer (some ⟨n0 + 5, 0, none⟩)], .string ⟨x.1.1.toArray⟩, .int .i64 x.1.2, undef, undef, undef, undef, undef, undef, undef, undef, undef, undef, undef, undef, undef, undef, undef, undef, undef, undef, undef, undef, undef, undef, undef, undef, undef, undef, undef, undef, undef, undef, undef, undef, undef, undef, undef, undef, undef, undef, undef, undef, undef, undef, undef, undef, undef, undef, undef, undef, undef, undef, undef, undef, undef, undef, undef, undef, undef, undef, undef], defers := [] })
    (fun _ _ _ _ _ _ hs _ _ => hs)
    ?assign ?body ?done ?stop
  case assign =>
    rintro l pre x W K hi hK
    unfold lnV
    gi_wp2
    exact hK _ _ (KeepsFrom.refl _ _) (fun _ _ _ _ _ h => h) hi rfl
  case body =>
    rintro l pre x a' W hl ⟨rr, hrr⟩ ⟨fs, e, hgo, NM, nv, pv, qs, Ls, hP, hz, hNl, h400, hB⟩ rfl hlt
    obtain ⟨⟨C, E⟩, hxx⟩ := x
    have hCl : C.length ≤ 30000 := hxx.1
    have hEl : E ≤ 30000 := hxx.2
    dsimp only
    have hsW : n0 + 6 ≤ W.heap.size := by have := (Array.getElem?_eq_some_iff.1 hrr).1; omega
    have hMW : MaxAt W := hM.same (hB.block _ hMl)
    have hm5 : pre.length + 1 ≤ 30000 := by omega
    by_cases hC : C = []
    · have eC : (⟨C.toArray⟩ : ByteArray) = ⟨#[]⟩ := by rw [hC]
      rw [eC]
      have c4 : W.cell? ⟨n0 + 4, 0, none⟩ = some (.int .i64 e) := by simp [World.cell?, hP.b6]
      have f4 : W.frozen? ⟨n0 + 4, 0, none⟩ = false := by simp [World.frozen?, hP.b6]
      have HQ := Lib.hid ((Mq.refl n0 W).set (off := 0) (v := .int .i64 E) hP.b6 (by omega) (by omega))
      have HP := Lib.hid (hP.end_ E)
      have HG := Lib.hid hgo
      clear hP hgo hrr hLS hBs hR0
      gi_wp2
      exact ⟨HQ.out.keeps, pre, ⟨(C, E), hxx⟩, fs, e, rfl, HG.out, .inl ⟨rfl, hC, NM, nv, pv, qs, Ls, HP.out, hz, hNl, h400, hB.trans HQ.out.b⟩⟩
    · obtain ⟨A, hA⟩ : ∃ A : ByteArray, (⟨C.toArray⟩ : ByteArray) = A := ⟨_, rfl⟩
      have hAd : A.data.toList = C := by rw [← hA]
      have hAs : A.size ≤ 30000 := by rw [← hA, mk_len]; exact hCl
      obtain ⟨c0, Cr, hCc⟩ : ∃ c0 Cr, C = c0 :: Cr := by
        cases C with
        | nil => exact absurd rfl hC
        | cons c r => exact ⟨c, r, rfl⟩
      have hqA : A.toList.isEmpty = false := by rw [Lib.toList_data, hAd, hCc]; rfl
      have hA0 : 0 < A.size := by rw [Lib.size_eq, hAd, hCc]; simp
      have hc0 : A[0] = c0 := by
        have := Tx.get_of A 0 hA0
        rw [hAd, hCc] at this
        simpa using this.symm
      rw [hA]
      obtain ⟨na, nb, nc, pa, pb, pc, rfl, rfl, hN, hR⟩ := hP.reads
      have hP : PM n0 W NM e pre.length (.slice na qs.length nc) (.slice pa qs.length pc) qs Ls := by rw [← hNl]; rw [← hNl] at hP; exact hP
      have hN400 : NM.length ≤ 400 := by omega
      cases hf : Hd.field C with
      | some nr =>
        obtain ⟨nm, rt⟩ := nr
        have hcut := Hd.field_cut hf
        have hcl := Hd.cut_len 58 C
        rw [hcut] at hcl
        have hrl : rt.length ≤ 30000 := Nat.le_trans hcl.2 hCl
        by_cases h4 : qs.length < 400
        · skip
          have HSt := Lib.hid (show Hd.step fs C = some (fs ++ [(nm, Tx.trim rt)]) from by unfold Hd.step; rw [hf]; exact if_pos (by rw [hz, St.len hP hNl, hNl]; exact h4))
          have hq4 : (qs.length : Int) < 400 := by omega
          have HCF := Lib.hid (fun (W' : World) (hM' : MaxAt W') => cutField_any A W' (by omega) hM')
          rw [hAd, hcut, hf] at HCF
          have hTl := Tx.trim_len rt
          obtain ⟨t, ht⟩ : ∃ t, Tx.trim rt = t := ⟨_, rfl⟩
          have HT := Lib.hid (fun W' => trimT_any ⟨rt.toArray⟩ (by rw [mk_len]; omega) W')
          rw [show (⟨rt.toArray⟩ : ByteArray).data.toList = rt from rfl, ht] at HT
          rw [ht] at hTl HSt
          have htl : t.length ≤ 30000 := by omega
          have HP := Lib.hid hP
          have HG := Lib.hid hgo
          have HZ := Lib.hid hz
          have HNl := Lib.hid hNl
          have HL2 := Lib.hid hP.l2
          have HMW := Lib.hid hMW
          have HBW := Lib.hid hB
          clear hP hgo hz hNl hMW hB hrr hLS hBs hR0 hcut hf hN hR hTl ht hA hAd hCc hM6 hB6 hM
          by_cases ht0 : t = []
          · have hq : (⟨t.toArray⟩ : ByteArray).toList.isEmpty = true := by rw [Lib.toList_data, ht0]; rfl
            gi_wp2_with (first
              | (refine ⟨trivial, ?_⟩; gi_at_call 48; with_reducible refine (CallsIn.inRound l (callsIn_wide.2 (HCF.out _ HMW.out))).mono ?_; rintro e1 w1 ⟨rfl, n1, hw1⟩; have hb1 : Below W.heap.size W w1 := (hw1 ▸ below_drews (Below.refl _ _) n1); have HP1 := Lib.hid (HP.out.new hb1); have h61 : n0 + 6 ≤ w1.heap.size := Nat.le_trans hsW hb1.size; obtain ⟨c2, f2, c3, f3, c4, f4⟩ := HP1.out.box; have HQ1 := Lib.hid ((Mq.refl n0 W).below hb1 (by omega)); clear hw1 hb1)
              | (gi_at_builtin; refine wpListIn_names HP1.out rfl _ _ rfl nm rfl rfl (by omega) h61 ?_; intro na2 nl2 nc2 w2 HH2 d2 g2 d3; have h62 : n0 + 6 ≤ (w2.setCell ⟨n0 + 2, 0, none⟩ (.slice na2 nl2 nc2)).heap.size := Nat.le_trans h61 HH2.out.2.b.size)
              | (gi_at_builtin; refine wpListIn_parts HH2.out.1 rfl _ _ rfl rfl (size_set _ _ _) rfl (by omega) h62 ?_; intro pg pc3 w3 HH3 d5 g5)
              | (refine ⟨trivial, ?_⟩; gi_at_call 30; with_reducible refine (CallsIn.inRound l (callsIn_wide.2 (HT.out _))).mono ?_; rintro e4 w4 ⟨rfl, hb4⟩; have HP4 := Lib.hid (HH3.out.1.new hb4); have HQ4 := Lib.hid (((HQ1.out.trans HH2.out.2).trans HH3.out.2).below hb4 (by have := h62; have := HH3.out.2.b.size; omega)); obtain ⟨k2, j2, k3, j3, k4, j4⟩ := HP4.out.box; clear hb4))
            exact rnd_end HG.out hC HSt.out HQ4.out HP4.out (Nat.le_succ _) (by rw [Hd.zip_new _ (by rw [HL2.out, HNl.out]), HZ.out, ht0]) (by rw [List.length_append, List.length_append, HNl.out]; rfl) (by rw [List.length_append, List.length_singleton]; have := HNl.out; omega) HBW.out hMl
          · have hq : (⟨t.toArray⟩ : ByteArray).toList.isEmpty = false := by
              rw [Lib.toList_data]
              cases t with
              | nil => exact absurd rfl ht0
              | cons _ _ => rfl
            have hq2 : t.isEmpty = false := by
              cases t with
              | nil => exact absurd rfl ht0
              | cons _ _ => rfl
            gi_wp2_with (first
              | (refine ⟨trivial, ?_⟩; gi_at_call 48; with_reducible refine (CallsIn.inRound l (callsIn_wide.2 (HCF.out _ HMW.out))).mono ?_; rintro e1 w1 ⟨rfl, n1, hw1⟩; have hb1 : Below W.heap.size W w1 := (hw1 ▸ below_drews (Below.refl _ _) n1); have HP1 := Lib.hid (HP.out.new hb1); have h61 : n0 + 6 ≤ w1.heap.size := Nat.le_trans hsW hb1.size; obtain ⟨c2, f2, c3, f3, c4, f4⟩ := HP1.out.box; have HQ1 := Lib.hid ((Mq.refl n0 W).below hb1 (by omega)); clear hw1 hb1)
              | (gi_at_builtin; refine wpListIn_names HP1.out rfl _ _ rfl nm rfl rfl (by omega) h61 ?_; intro na2 nl2 nc2 w2 HH2 d2 g2 d3; have h62 : n0 + 6 ≤ (w2.setCell ⟨n0 + 2, 0, none⟩ (.slice na2 nl2 nc2)).heap.size := Nat.le_trans h61 HH2.out.2.b.size)
              | (gi_at_builtin; refine wpListIn_parts HH2.out.1 rfl _ _ rfl rfl (size_set _ _ _) rfl (by omega) h62 ?_; intro pg pc3 w3 HH3 d5 g5)
              | (refine ⟨trivial, ?_⟩; gi_at_call 30; with_reducible refine (CallsIn.inRound l (callsIn_wide.2 (HT.out _))).mono ?_; rintro e4 w4 ⟨rfl, hb4⟩; have HP4 := Lib.hid (HH3.out.1.new hb4); have HQ4 := Lib.hid (((HQ1.out.trans HH2.out.2).trans HH3.out.2).below hb4 (by have := h62; have := HH3.out.2.b.size; omega)); obtain ⟨k2, j2, k3, j3, k4, j4⟩ := HP4.out.box; clear hb4))
            obtain ⟨v1, v2, v3, v4, v5, v6⟩ := HP4.out.last rfl
            have hcq : (qs.length : Int) < (qs.length : Int) + 1 := by omega
            have HP5 := Lib.hid ((HP4.out.new (below_drews (Below.refl w4.heap.size w4) 1)).more (Nat.le_succ _))
            have v7 : w4.drew.cell? ⟨pg, qs.length, none⟩ = some (.slice none 0 0) := v1
            have h64 : n0 + 6 ≤ w4.drew.heap.size := by have := HQ4.out.b.size; show n0 + 6 ≤ w4.heap.size; omega
            refine region_calm_round (fun V => V.cell? ⟨n0 + 3, 0, none⟩ = some (.slice (some ⟨pg, 0, none⟩) (qs.length + 1) pc3)) (by kernel_rfl) (by simp only [List.forall_mem_cons]; exact ⟨(tame_load _ _ rfl).c, (tame_move _ rfl).c, (tame_load _ _ rfl).c, (tame_move _ rfl).c, (tame_index _ _ _ rfl).c, (tame_load _ _ rfl).c, (tame_move _ rfl).c, (tame_build _ _ _ rfl).c, (tame_append _ _ _ rfl).c, (tame_index _ _ _ rfl).c, (tame_store _ _ _ rfl).c, fun _ h => by cases h⟩) k3 (fun hHeld => ?_)
            show wpAnyH _ _ _ _ _ 11 (Array.replicate 11 false) _ _
            refine takeH 0 61 (v := ?_) rfl rfl (by kernel_rfl) (by kernel_rfl) (by kernel_rfl) (Or.inl ⟨by rfl, ?_⟩) (by assumption) ?_
            rotate_left
            · intro V hSV
              have s1 := hSV
              go_simp
              try with_reducible rfl
            simp only [List.setIfInBounds_toArray, List.set_cons_zero, List.set_cons_succ]
            refine takeH 1 62 (v := ?_) rfl rfl (by kernel_rfl) (by kernel_rfl) (by kernel_rfl) (Or.inl ⟨by rfl, ?_⟩) (by assumption) ?_
            rotate_left
            · intro V hSV
              have s1 := hSV
              go_simp
              try with_reducible rfl
            simp only [List.setIfInBounds_toArray, List.set_cons_zero, List.set_cons_succ]
            refine takeH 2 63 (v := ?_) rfl rfl (by kernel_rfl) (by kernel_rfl) (by kernel_rfl) (Or.inl ⟨by rfl, ?_⟩) (by assumption) ?_
            rotate_left
            · intro V hSV
              have s1 := hSV
              go_simp
              try with_reducible rfl
            simp only [List.setIfInBounds_toArray, List.set_cons_zero, List.set_cons_succ]
            refine takeH 3 64 (v := ?_) rfl rfl (by kernel_rfl) (by kernel_rfl) (by kernel_rfl) (Or.inl ⟨by rfl, ?_⟩) (by assumption) ?_
            rotate_left
            · intro V hSV
              have s1 := hSV
              go_simp
              try with_reducible rfl
            simp only [List.setIfInBounds_toArray, List.set_cons_zero, List.set_cons_succ]
            refine takeH 4 65 (v := ?_) rfl rfl (by kernel_rfl) (by kernel_rfl) (by kernel_rfl) (Or.inl ⟨by rfl, ?_⟩) (by assumption) ?_
            rotate_left
            · intro V hSV
              have s1 := hSV
              go_simp
              try with_reducible rfl
            simp only [List.setIfInBounds_toArray, List.set_cons_zero, List.set_cons_succ]
            refine takeH 6 67 (v := ?_) rfl rfl (by kernel_rfl) (by kernel_rfl) (by kernel_rfl) (Or.inl ⟨by rfl, ?_⟩) (by assumption) ?_
            rotate_left
            · intro V hSV
              have s1 := hSV
              go_simp
              try with_reducible rfl
            simp only [List.setIfInBounds_toArray, List.set_cons_zero, List.set_cons_succ]
            refine wpAnyH_ready (rs := [5, 7]) (by kernel_rfl) (by simp) (AllReadyH.cons rfl (fun K hK => ?_) (AllReadyH.cons rfl (fun K hK => ?_) AllReadyH.nil))
            · go_simp
              refine hK.out _ _ hHeld (fun hHeld2 => ?_)
              clear hK K
              refine stepH 7 rfl (by kernel_rfl) (fun K hK => ?_)
              go_simp
              refine hK.out _ _ (cell_alloc _ hHeld) (fun hHeld2 => ?_)
              clear hK K
              refine stepH 8 rfl (by kernel_rfl) (fun K hK => ?_)
              refine wpo_add HP5.out rfl rfl rfl _ _ rfl t rfl rfl ⟨ht0, htl⟩ (by simp) (by simp) h64 ?_
              intro ha hl9 hc9 w5 HH5 u1 u2 u3
              refine hK.out _ _ u3 (fun hHeld3 => ?_)
              clear hK K
              simp only [List.setIfInBounds_toArray, List.set_cons_zero, List.set_cons_succ]
              refine takeH 9 70 (v := ?_) rfl rfl (by kernel_rfl) (by kernel_rfl) (by kernel_rfl) (Or.inl ⟨by rfl, ?_⟩) (by assumption) ?_
              rotate_left
              · intro V hSV
                have s1 := hSV
                go_simp
                try with_reducible rfl
              simp only [List.setIfInBounds_toArray, List.set_cons_zero, List.set_cons_succ]
              refine stepH 10 rfl (by kernel_rfl) (fun K hK => ?_)
              go_simp
              refine hK.out _ _ ((World.cell?_setCell_far _ _ _ _ v3).trans u3) (fun hHeld4 => ?_)
              clear hK K
              refine wpAnyH_done (by kernel_rfl) ?_ _
              refine Calm.normal ?_
              obtain ⟨w6, hw6⟩ : ∃ w6, w5.setCell ⟨pg, qs.length, none⟩ (Value.slice ha hl9 hc9) = w6 := ⟨_, rfl⟩
              have HQ6 := Lib.hid ((HQ4.out.below (below_drews (Below.refl w4.heap.size w4) 1) (by have := h64; change n0 + 6 ≤ w4.heap.size at this; omega)).trans HH5.out.2)
              have HP6 := Lib.hid HH5.out.1
              rw [hw6] at HQ6 HP6 ⊢
              obtain ⟨r1, r2, r3, r4, r5, r6⟩ := HP6.out.box
              clear hw6 HH5 hHeld4 hHeld3 hHeld2 hHeld
              gi_wp2
              exact rnd_end HG.out hC HSt.out HQ6.out HP6.out (Nat.le_refl _) (by rw [← Hd.addLast_zip (by rw [List.length_append, List.length_append, HNl.out, HL2.out]; rfl) (fun x hx => by cases hx) ht0, Hd.zip_new _ (by rw [HL2.out, HNl.out]), Hd.addLast_new, HZ.out]) (by rw [List.length_append, List.length_append, HNl.out]; rfl) (by rw [List.length_append, List.length_singleton]; have := HNl.out; omega) HBW.out hMl
            · go_simp
              refine hK.out _ _ (cell_alloc _ hHeld) (fun hHeld2 => ?_)
              clear hK K
              have v8 := cell_alloc (.cells #[Value.string ⟨t.toArray⟩] 9) v1
              refine stepH 5 rfl (by kernel_rfl) (fun K hK => ?_)
              go_simp
              refine hK.out _ _ (cell_alloc _ hHeld) (fun hHeld2 => ?_)
              clear hK K
              refine stepH 8 rfl (by kernel_rfl) (fun K hK => ?_)
              refine wpo_add HP5.out rfl rfl rfl _ _ rfl t rfl rfl ⟨ht0, htl⟩ (by simp) (by simp) h64 ?_
              intro ha hl9 hc9 w5 HH5 u1 u2 u3
              refine hK.out _ _ u3 (fun hHeld3 => ?_)
              clear hK K
              simp only [List.setIfInBounds_toArray, List.set_cons_zero, List.set_cons_succ]
              refine takeH 9 70 (v := ?_) rfl rfl (by kernel_rfl) (by kernel_rfl) (by kernel_rfl) (Or.inl ⟨by rfl, ?_⟩) (by assumption) ?_
              rotate_left
              · intro V hSV
                have s1 := hSV
                go_simp
                try with_reducible rfl
              simp only [List.setIfInBounds_toArray, List.set_cons_zero, List.set_cons_succ]
              refine stepH 10 rfl (by kernel_rfl) (fun K hK => ?_)
              go_simp
              refine hK.out _ _ ((World.cell?_setCell_far _ _ _ _ v3).trans u3) (fun hHeld4 => ?_)
              clear hK K
              refine wpAnyH_done (by kernel_rfl) ?_ _
              refine Calm.normal ?_
              obtain ⟨w6, hw6⟩ : ∃ w6, w5.setCell ⟨pg, qs.length, none⟩ (Value.slice ha hl9 hc9) = w6 := ⟨_, rfl⟩
              have HQ6 := Lib.hid ((HQ4.out.below (below_drews (Below.refl w4.heap.size w4) 1) (by have := h64; change n0 + 6 ≤ w4.heap.size at this; omega)).trans HH5.out.2)
              have HP6 := Lib.hid HH5.out.1
              rw [hw6] at HQ6 HP6 ⊢
              obtain ⟨r1, r2, r3, r4, r5, r6⟩ := HP6.out.box
              clear hw6 HH5 hHeld4 hHeld3 hHeld2 hHeld
              gi_wp2
              exact rnd_end HG.out hC HSt.out HQ6.out HP6.out (Nat.le_refl _) (by rw [← Hd.addLast_zip (by rw [List.length_append, List.length_append, HNl.out, HL2.out]; rfl) (fun x hx => by cases hx) ht0, Hd.zip_new _ (by rw [HL2.out, HNl.out]), Hd.addLast_new, HZ.out]) (by rw [List.length_append, List.length_append, HNl.out]; rfl) (by rw [List.length_append, List.length_singleton]; have := HNl.out; omega) HBW.out hMl
        · skip
          have HSt := Lib.hid (show Hd.step fs C = none from by unfold Hd.step; rw [hf]; exact if_neg (by rw [hz, St.len hP hNl, hNl]; exact h4))
          have hq4 : ¬ ((qs.length : Int) < 400) := by omega
          have hbl : Hd.blank c0 = false := by
            cases hb : Hd.blank c0 with
            | false => rfl
            | true =>
              have := Hd.field_blank (c := C) (by rw [hCc]; exact hb)
              rw [hf] at this
              cases this
          have HBk := Lib.hid (fun W' => blank_any c0 W')
          rw [hbl] at HBk
          have HCF := Lib.hid (fun (W' : World) (hM' : MaxAt W') => cutField_any A W' (by omega) hM')
          rw [hAd, hcut, hf] at HCF
          have HP := Lib.hid hP
          have HG := Lib.hid hgo
          have HZ := Lib.hid hz
          have HNl := Lib.hid hNl
          have HL2 := Lib.hid hP.l2
          have HMW := Lib.hid hMW
          have HBW := Lib.hid hB
          have hmp : pre.length ≤ 30000 := by omega
          clear hP hgo hz hNl hMW hB hrr hLS hBs hR0 hcut hf hN hR hA hAd hCc hM6 hB6 hM hbl
          gi_wp2_with (first
            | (refine ⟨trivial, ?_⟩; gi_at_call 48; with_reducible refine (CallsIn.inRound l (callsIn_wide.2 (HCF.out _ HMW.out))).mono ?_; rintro e1 w1 ⟨rfl, n1, hw1⟩; have hb1 : Below W.heap.size W w1 := (hw1 ▸ below_drews (Below.refl _ _) n1); have HP1 := Lib.hid (HP.out.new hb1); have h61 : n0 + 6 ≤ w1.heap.size := Nat.le_trans hsW hb1.size; obtain ⟨c2, f2, c3, f3, c4, f4⟩ := HP1.out.box; have HQ1 := Lib.hid ((Mq.refl n0 W).below hb1 (by omega)); clear hw1 hb1)
            | (refine ⟨trivial, ?_⟩; gi_at_call 49; with_reducible refine (CallsIn.inRound l (callsIn_wide.2 (HBk.out _))).mono ?_; rintro e2 w2' ⟨rfl, rfl⟩))
          obtain ⟨HBx, HJ⟩ := HP1.out.join HNl.out h400 hmp h61
          have HD1 := Lib.hid (below_drews (Below.refl w1.heap.size w1) 1)
          refine region_calm_round (fun V => V.cell? ⟨n0 + 2, 0, none⟩ = some (.slice na qs.length nc) ∧ V.cell? ⟨n0 + 3, 0, none⟩ = some (.slice pa qs.length pc) ∧ V.cell? ⟨n0 + 4, 0, none⟩ = some (.int .i64 e)) (by kernel_rfl) (by simp only [List.forall_mem_cons]; exact ⟨(tame_load _ _ rfl).c, (tame_load _ _ rfl).c, tame_call _ _ _ rfl (enters_of Tryd.func50 (by kernel_rfl) rfl), (tame_load _ _ rfl).c, (tame_store _ _ _ rfl).c, (tame_store _ _ _ rfl).c, fun _ h => by cases h⟩) ⟨c2, c3, c4⟩ (fun hHeld => ?_)
          show wpAnyH _ _ _ _ _ 6 (Array.replicate 6 false) _ _
          refine takeH 0 26 (v := ?_) rfl rfl (by kernel_rfl) (by kernel_rfl) (by kernel_rfl) (Or.inl ⟨by rfl, ?_⟩) (by assumption) ?_
          rotate_left
          · intro V hSV
            obtain ⟨s1, s2, s3⟩ := hSV
            go_simp
            try with_reducible rfl
          simp only [List.setIfInBounds_toArray, List.set_cons_zero, List.set_cons_succ]
          refine takeH 1 27 (v := ?_) rfl rfl (by kernel_rfl) (by kernel_rfl) (by kernel_rfl) (Or.inl ⟨by rfl, ?_⟩) (by assumption) ?_
          rotate_left
          · intro V hSV
            obtain ⟨s1, s2, s3⟩ := hSV
            go_simp
            try with_reducible rfl
          simp only [List.setIfInBounds_toArray, List.set_cons_zero, List.set_cons_succ]
          refine takeH 3 29 (v := ?_) rfl rfl (by kernel_rfl) (by kernel_rfl) (by kernel_rfl) (Or.inl ⟨by rfl, ?_⟩) (by assumption) ?_
          rotate_left
          · intro V hSV
            obtain ⟨s1, s2, s3⟩ := hSV
            go_simp
            try with_reducible rfl
          simp only [List.setIfInBounds_toArray, List.set_cons_zero, List.set_cons_succ]
          refine stepH 2 rfl (by kernel_rfl) (fun K hK => ?_)
          go_simp
          refine (HJ.out _ HD1.out).mono ?_
          rintro r w2 ⟨a2, m2, c2', rfl, HH⟩
          have d2 : w2.cell? ⟨n0 + 2, 0, none⟩ = some (.slice na qs.length nc) := (HBx.out.below HH.out.2.1).cells.1
          have d3 : w2.cell? ⟨n0 + 3, 0, none⟩ = some (.slice pa qs.length pc) := (HBx.out.below HH.out.2.1).cells.2.1
          have d4 : w2.cell? ⟨n0 + 4, 0, none⟩ = some (.int .i64 e) := (HBx.out.below HH.out.2.1).cells.2.2
          obtain ⟨x2, y2, ⟨d0, f0⟩, d1, f1⟩ := (HBx.out.below HH.out.2.1).outs
          refine hK.out _ _ ⟨d2, d3, d4⟩ (fun hHeld2 => ?_)
          clear hK K
          try simp only [Act.put, List.setIfInBounds_toArray, List.set_cons_zero, List.set_cons_succ]
          refine stepH 4 rfl (by kernel_rfl) (fun K hK => ?_)
          go_simp
          refine hK.out _ _ (keep_set (by omega) ⟨d2, d3, d4⟩) (fun hHeld3 => ?_)
          clear hK K
          refine stepH 5 rfl (by kernel_rfl) (fun K hK => ?_)
          go_simp
          refine hK.out _ _ (keep_set (by omega) (keep_set (by omega) ⟨d2, d3, d4⟩)) (fun hHeld4 => ?_)
          clear hK K
          refine wpAnyH_done (by kernel_rfl) ?_ _
          refine Calm.normal ?_
          have HQ6 := Lib.hid ((HBx.out.below HH.out.2.1).mq (u := Value.slice a2 m2 c2') (v := Value.int IntKind.i64 e) (HQ1.out.below HH.out.2.1 (by omega)))
          have HF6 := Lib.hid ((HBx.out.below HH.out.2.1).fin HH.out.1 (HBW.out.trans (HQ1.out.below HH.out.2.1 (by omega)).b))
          clear HBx HJ HD1 HH hHeld hHeld2 hHeld3 hHeld4 d0 d1 f0 f1 d2 d3 d4
          gi_wp2
          exact ⟨HQ6.out.keeps, pre, ⟨(C, E), hxx⟩, fs, e, rfl, HG.out, .inr ⟨rfl, hC, HSt.out, by rw [HZ.out]; exact HF6.out⟩⟩
      | none =>
        obtain ⟨p1, hp1⟩ : ∃ p, (Lib.cut C [58]).1 = p := ⟨_, rfl⟩
        obtain ⟨r1, hr1⟩ : ∃ p, (Lib.cut C [58]).2.1 = p := ⟨_, rfl⟩
        have HCF := Lib.hid (fun (W' : World) (hM' : MaxAt W') => cutField_any A W' (by omega) hM')
        rw [hAd, hp1, hr1, hf] at HCF
        have HBk := Lib.hid (fun W' => blank_any c0 W')
        cases hb : Hd.blank c0 with
        | false =>
          have HSt := Lib.hid (show Hd.step fs C = none from by unfold Hd.step; rw [hf]; exact if_neg (fun h => by rw [hCc] at h; have h1 : Hd.blank c0 = true := h.1; rw [hb] at h1; cases h1))
          rw [hb] at HBk
          have HP := Lib.hid hP
          have HG := Lib.hid hgo
          have HZ := Lib.hid hz
          have HNl := Lib.hid hNl
          have HL2 := Lib.hid hP.l2
          have HMW := Lib.hid hMW
          have HBW := Lib.hid hB
          have hmp : pre.length ≤ 30000 := by omega
          clear hP hgo hz hNl hMW hB hrr hLS hBs hR0 hp1 hr1 hf hN hR hA hAd hCc hM6 hB6 hM hb
          gi_wp2_with (first
            | (refine ⟨trivial, ?_⟩; gi_at_call 48; with_reducible refine (CallsIn.inRound l (callsIn_wide.2 (HCF.out _ HMW.out))).mono ?_; rintro e1 w1 ⟨rfl, n1, hw1⟩; have hb1 : Below W.heap.size W w1 := (hw1 ▸ below_drews (Below.refl _ _) n1); have HP1 := Lib.hid (HP.out.new hb1); have h61 : n0 + 6 ≤ w1.heap.size := Nat.le_trans hsW hb1.size; obtain ⟨c2, f2, c3, f3, c4, f4⟩ := HP1.out.box; have HQ1 := Lib.hid ((Mq.refl n0 W).below hb1 (by omega)); clear hw1 hb1)
            | (refine ⟨trivial, ?_⟩; gi_at_call 49; with_reducible refine (CallsIn.inRound l (callsIn_wide.2 (HBk.out _))).mono ?_; rintro e2 w2' ⟨rfl, rfl⟩))
          obtain ⟨HBx, HJ⟩ := HP1.out.join HNl.out h400 hmp h61
          have HD1 := Lib.hid (below_drews (Below.refl w1.heap.size w1) 1)
          refine region_calm_round (fun V => V.cell? ⟨n0 + 2, 0, none⟩ = some (.slice na qs.length nc) ∧ V.cell? ⟨n0 + 3, 0, none⟩ = some (.slice pa qs.length pc) ∧ V.cell? ⟨n0 + 4, 0, none⟩ = some (.int .i64 e)) (by kernel_rfl) (by simp only [List.forall_mem_cons]; exact ⟨(tame_load _ _ rfl).c, (tame_load _ _ rfl).c, tame_call _ _ _ rfl (enters_of Tryd.func50 (by kernel_rfl) rfl), (tame_load _ _ rfl).c, (tame_store _ _ _ rfl).c, (tame_store _ _ _ rfl).c, fun _ h => by cases h⟩) ⟨c2, c3, c4⟩ (fun hHeld => ?_)
          show wpAnyH _ _ _ _ _ 6 (Array.replicate 6 false) _ _
          refine takeH 0 26 (v := ?_) rfl rfl (by kernel_rfl) (by kernel_rfl) (by kernel_rfl) (Or.inl ⟨by rfl, ?_⟩) (by assumption) ?_
          rotate_left
          · intro V hSV
            obtain ⟨s1, s2, s3⟩ := hSV
            go_simp
            try with_reducible rfl
          simp only [List.setIfInBounds_toArray, List.set_cons_zero, List.set_cons_succ]
          refine takeH 1 27 (v := ?_) rfl rfl (by kernel_rfl) (by kernel_rfl) (by kernel_rfl) (Or.inl ⟨by rfl, ?_⟩) (by assumption) ?_
          rotate_left
          · intro V hSV
            obtain ⟨s1, s2, s3⟩ := hSV
            go_simp
            try with_reducible rfl
          simp only [List.setIfInBounds_toArray, List.set_cons_zero, List.set_cons_succ]
          refine takeH 3 29 (v := ?_) rfl rfl (by kernel_rfl) (by kernel_rfl) (by kernel_rfl) (Or.inl ⟨by rfl, ?_⟩) (by assumption) ?_
          rotate_left
          · intro V hSV
            obtain ⟨s1, s2, s3⟩ := hSV
            go_simp
            try with_reducible rfl
          simp only [List.setIfInBounds_toArray, List.set_cons_zero, List.set_cons_succ]
          refine stepH 2 rfl (by kernel_rfl) (fun K hK => ?_)
          go_simp
          refine (HJ.out _ HD1.out).mono ?_
          rintro r w2 ⟨a2, m2, c2', rfl, HH⟩
          have d2 : w2.cell? ⟨n0 + 2, 0, none⟩ = some (.slice na qs.length nc) := (HBx.out.below HH.out.2.1).cells.1
          have d3 : w2.cell? ⟨n0 + 3, 0, none⟩ = some (.slice pa qs.length pc) := (HBx.out.below HH.out.2.1).cells.2.1
          have d4 : w2.cell? ⟨n0 + 4, 0, none⟩ = some (.int .i64 e) := (HBx.out.below HH.out.2.1).cells.2.2
          obtain ⟨x2, y2, ⟨d0, f0⟩, d1, f1⟩ := (HBx.out.below HH.out.2.1).outs
          refine hK.out _ _ ⟨d2, d3, d4⟩ (fun hHeld2 => ?_)
          clear hK K
          try simp only [Act.put, List.setIfInBounds_toArray, List.set_cons_zero, List.set_cons_succ]
          refine stepH 4 rfl (by kernel_rfl) (fun K hK => ?_)
          go_simp
          refine hK.out _ _ (keep_set (by omega) ⟨d2, d3, d4⟩) (fun hHeld3 => ?_)
          clear hK K
          refine stepH 5 rfl (by kernel_rfl) (fun K hK => ?_)
          go_simp
          refine hK.out _ _ (keep_set (by omega) (keep_set (by omega) ⟨d2, d3, d4⟩)) (fun hHeld4 => ?_)
          clear hK K
          refine wpAnyH_done (by kernel_rfl) ?_ _
          refine Calm.normal ?_
          have HQ6 := Lib.hid ((HBx.out.below HH.out.2.1).mq (u := Value.slice a2 m2 c2') (v := Value.int IntKind.i64 e) (HQ1.out.below HH.out.2.1 (by omega)))
          have HF6 := Lib.hid ((HBx.out.below HH.out.2.1).fin HH.out.1 (HBW.out.trans (HQ1.out.below HH.out.2.1 (by omega)).b))
          clear HBx HJ HD1 HH hHeld hHeld2 hHeld3 hHeld4 d0 d1 f0 f1 d2 d3 d4
          gi_wp2
          exact ⟨HQ6.out.keeps, pre, ⟨(C, E), hxx⟩, fs, e, rfl, HG.out, .inr ⟨rfl, hC, HSt.out, by rw [HZ.out]; exact HF6.out⟩⟩
        | true =>
          rw [hb] at HBk
          by_cases hq : 0 < qs.length
          · obtain ⟨h0, hv, hqs⟩ : ∃ h0 hv, qs = h0 ++ [hv] := by
              rcases List.eq_nil_or_concat qs with rfl | ⟨a, b, h⟩
              · simp at hq
              · exact ⟨a, b, by rw [h, List.concat_eq_append]⟩
            have hl2 := hP.l2
            obtain ⟨L0, L, hLs⟩ : ∃ L0 L, Ls = L0 ++ [L] := by
              rcases List.eq_nil_or_concat Ls with rfl | ⟨a, b, h⟩
              · rw [List.length_nil] at hl2; omega
              · exact ⟨a, b, by rw [h, List.concat_eq_append]⟩
            obtain ⟨j, hj⟩ : ∃ j, h0.length = j := ⟨_, rfl⟩
            have hqj : qs.length = j + 1 := by rw [hqs, List.length_append, hj]; rfl
            obtain rfl := hR.at_ (by omega)
            have HSt := Lib.hid (show Hd.step fs C = some (Hd.addLast fs (Tx.trim C)) from by
              unfold Hd.step
              rw [hf]
              refine if_pos ⟨by rw [hCc]; exact hb, fun h => ?_⟩
              have := St.len hP hNl
              rw [← hz, h, hNl, List.length_nil] at this
              omega)
            have hPL := hP.ok L (by rw [hLs]; simp)
            have hLm := hPL.1
            have HLx := Lib.hid (fun x hx => (hPL.2 x hx).1)
            rw [hqj, hqs, hLs] at hP
            have HL3 := Lib.hid (show NM.length = (L0 ++ [L]).length by rw [← hLs, hl2, hNl])
            have HN3 := Lib.hid (show NM.length = j + 1 by omega)
            rw [hLs] at hz
            have hq4 : (0 : Int) < (j : Int) + 1 := by omega
            have hj4 : j ≤ 399 := by omega
            have hTl := Tx.trim_len C
            obtain ⟨t, ht⟩ : ∃ t, Tx.trim C = t := ⟨_, rfl⟩
            have HT := Lib.hid (fun W' => trimT_any A (by omega) W')
            rw [hAd, ht] at HT
            rw [ht] at hTl HSt
            have htl : t.length ≤ 30000 := by omega
            have HP := Lib.hid hP
            have HG := Lib.hid hgo
            have HZ := Lib.hid hz
            have HNl := Lib.hid hNl
            have HMW := Lib.hid hMW
            have HBW := Lib.hid hB
            have hmp : pre.length ≤ 30000 := by omega
            clear hP hgo hz hNl hMW hB hrr hLS hBs hR0 hp1 hr1 hf hN hR hTl ht hA hAd hCc hM6 hB6 hM hb hq hqs hLs hqj hl2 hPL h400
            by_cases ht0 : t = []
            · have hqt : (⟨t.toArray⟩ : ByteArray).toList.isEmpty = true := by rw [Lib.toList_data, ht0]; rfl
              gi_wp2_with (first
                | (refine ⟨trivial, ?_⟩; gi_at_call 48; with_reducible refine (CallsIn.inRound l (callsIn_wide.2 (HCF.out _ HMW.out))).mono ?_; rintro e1 w1 ⟨rfl, n1, hw1⟩; have hb1 : Below W.heap.size W w1 := (hw1 ▸ below_drews (Below.refl _ _) n1); have HP1 := Lib.hid (HP.out.new hb1); have h61 : n0 + 6 ≤ w1.heap.size := Nat.le_trans hsW hb1.size; obtain ⟨c2, f2, c3, f3, c4, f4⟩ := HP1.out.box; have HQ1 := Lib.hid ((Mq.refl n0 W).below hb1 (by omega)); clear hw1 hb1)
                | (refine ⟨trivial, ?_⟩; gi_at_call 49; with_reducible refine (CallsIn.inRound l (callsIn_wide.2 (HBk.out _))).mono ?_; rintro e2 w2' ⟨rfl, rfl⟩)
                | (refine ⟨trivial, ?_⟩; gi_at_call 30; with_reducible refine (CallsIn.inRound l (callsIn_wide.2 (HT.out _))).mono ?_; rintro e4 w4 ⟨rfl, hb4⟩; have HP4 := Lib.hid (HP1.out.new hb4); have HQ4 := Lib.hid (HQ1.out.below hb4 (by omega)); obtain ⟨k2, j2, k3, j3, k4, j4⟩ := HP4.out.box; clear hb4))
              exact rnd_end HG.out hC HSt.out HQ4.out HP4.out (Nat.le_succ _) (by rw [ht0, Hd.addLast_nil, HZ.out]) (by rw [List.length_append, hj, HN3.out]; rfl) (by rw [List.length_append, hj, List.length_singleton]; omega) HBW.out hMl
            · have hqt : (⟨t.toArray⟩ : ByteArray).toList.isEmpty = false := by
                rw [Lib.toList_data]
                cases t with
                | nil => exact absurd rfl ht0
                | cons _ _ => rfl
              have hq2 : t.isEmpty = false := by
                cases t with
                | nil => exact absurd rfl ht0
                | cons _ _ => rfl
              gi_wp2_with (first
                | (refine ⟨trivial, ?_⟩; gi_at_call 48; with_reducible refine (CallsIn.inRound l (callsIn_wide.2 (HCF.out _ HMW.out))).mono ?_; rintro e1 w1 ⟨rfl, n1, hw1⟩; have hb1 : Below W.heap.size W w1 := (hw1 ▸ below_drews (Below.refl _ _) n1); have HP1 := Lib.hid (HP.out.new hb1); have h61 : n0 + 6 ≤ w1.heap.size := Nat.le_trans hsW hb1.size; obtain ⟨c2, f2, c3, f3, c4, f4⟩ := HP1.out.box; have HQ1 := Lib.hid ((Mq.refl n0 W).below hb1 (by omega)); clear hw1 hb1)
                | (refine ⟨trivial, ?_⟩; gi_at_call 49; with_reducible refine (CallsIn.inRound l (callsIn_wide.2 (HBk.out _))).mono ?_; rintro e2 w2' ⟨rfl, rfl⟩)
                | (refine ⟨trivial, ?_⟩; gi_at_call 30; with_reducible refine (CallsIn.inRound l (callsIn_wide.2 (HT.out _))).mono ?_; rintro e4 w4 ⟨rfl, hb4⟩; have HP4 := Lib.hid (HP1.out.new hb4); have HQ4 := Lib.hid (HQ1.out.below hb4 (by omega)); obtain ⟨k2, j2, k3, j3, k4, j4⟩ := HP4.out.box; clear hb4))
              obtain ⟨v1, v2, v3, v4, v5, v6⟩ := HP4.out.last hj
              have hcq : (j : Int) < (j : Int) + 1 := by omega
              have HP5 := Lib.hid ((HP4.out.new (below_drews (Below.refl w4.heap.size w4) 1)).more (Nat.le_succ _))
              have v7 : w4.drew.cell? ⟨pb, j, none⟩ = some (hv) := v1
              have h64 : n0 + 6 ≤ w4.drew.heap.size := by have := HQ4.out.b.size; show n0 + 6 ≤ w4.heap.size; omega
              refine region_calm_round (fun V => V.cell? ⟨n0 + 3, 0, none⟩ = some (.slice (some ⟨pb, 0, none⟩) (j + 1) pc)) (by kernel_rfl) (by simp only [List.forall_mem_cons]; exact ⟨(tame_load _ _ rfl).c, (tame_move _ rfl).c, (tame_load _ _ rfl).c, (tame_move _ rfl).c, (tame_index _ _ _ rfl).c, (tame_load _ _ rfl).c, (tame_move _ rfl).c, (tame_build _ _ _ rfl).c, (tame_append _ _ _ rfl).c, (tame_index _ _ _ rfl).c, (tame_store _ _ _ rfl).c, fun _ h => by cases h⟩) k3 (fun hHeld => ?_)
              show wpAnyH _ _ _ _ _ 11 (Array.replicate 11 false) _ _
              refine takeH 0 61 (v := ?_) rfl rfl (by kernel_rfl) (by kernel_rfl) (by kernel_rfl) (Or.inl ⟨by rfl, ?_⟩) (by assumption) ?_
              rotate_left
              · intro V hSV
                have s1 := hSV
                go_simp
                try with_reducible rfl
              simp only [List.setIfInBounds_toArray, List.set_cons_zero, List.set_cons_succ]
              refine takeH 1 62 (v := ?_) rfl rfl (by kernel_rfl) (by kernel_rfl) (by kernel_rfl) (Or.inl ⟨by rfl, ?_⟩) (by assumption) ?_
              rotate_left
              · intro V hSV
                have s1 := hSV
                go_simp
                try with_reducible rfl
              simp only [List.setIfInBounds_toArray, List.set_cons_zero, List.set_cons_succ]
              refine takeH 2 63 (v := ?_) rfl rfl (by kernel_rfl) (by kernel_rfl) (by kernel_rfl) (Or.inl ⟨by rfl, ?_⟩) (by assumption) ?_
              rotate_left
              · intro V hSV
                have s1 := hSV
                go_simp
                try with_reducible rfl
              simp only [List.setIfInBounds_toArray, List.set_cons_zero, List.set_cons_succ]
              refine takeH 3 64 (v := ?_) rfl rfl (by kernel_rfl) (by kernel_rfl) (by kernel_rfl) (Or.inl ⟨by rfl, ?_⟩) (by assumption) ?_
              rotate_left
              · intro V hSV
                have s1 := hSV
                go_simp
                try with_reducible rfl
              simp only [List.setIfInBounds_toArray, List.set_cons_zero, List.set_cons_succ]
              refine takeH 4 65 (v := ?_) rfl rfl (by kernel_rfl) (by kernel_rfl) (by kernel_rfl) (Or.inl ⟨by rfl, ?_⟩) (by assumption) ?_
              rotate_left
              · intro V hSV
                have s1 := hSV
                go_simp
                try with_reducible rfl
              simp only [List.setIfInBounds_toArray, List.set_cons_zero, List.set_cons_succ]
              refine takeH 6 67 (v := ?_) rfl rfl (by kernel_rfl) (by kernel_rfl) (by kernel_rfl) (Or.inl ⟨by rfl, ?_⟩) (by assumption) ?_
              rotate_left
              · intro V hSV
                have s1 := hSV
                go_simp
                try with_reducible rfl
              simp only [List.setIfInBounds_toArray, List.set_cons_zero, List.set_cons_succ]
              refine wpAnyH_ready (rs := [5, 7]) (by kernel_rfl) (by simp) (AllReadyH.cons rfl (fun K hK => ?_) (AllReadyH.cons rfl (fun K hK => ?_) AllReadyH.nil))
              · go_simp
                refine hK.out _ _ hHeld (fun hHeld2 => ?_)
                clear hK K
                refine stepH 7 rfl (by kernel_rfl) (fun K hK => ?_)
                go_simp
                refine hK.out _ _ (cell_alloc _ hHeld) (fun hHeld2 => ?_)
                clear hK K
                refine stepH 8 rfl (by kernel_rfl) (fun K hK => ?_)
                refine wpo_add HP5.out hj rfl rfl _ _ rfl t rfl rfl ⟨ht0, htl⟩ (by omega) (by omega) h64 ?_
                intro ha hl9 hc9 w5 HH5 u1 u2 u3
                refine hK.out _ _ u3 (fun hHeld3 => ?_)
                clear hK K
                simp only [List.setIfInBounds_toArray, List.set_cons_zero, List.set_cons_succ]
                refine takeH 9 70 (v := ?_) rfl rfl (by kernel_rfl) (by kernel_rfl) (by kernel_rfl) (Or.inl ⟨by rfl, ?_⟩) (by assumption) ?_
                rotate_left
                · intro V hSV
                  have s1 := hSV
                  go_simp
                  try with_reducible rfl
                simp only [List.setIfInBounds_toArray, List.set_cons_zero, List.set_cons_succ]
                refine stepH 10 rfl (by kernel_rfl) (fun K hK => ?_)
                go_simp
                refine hK.out _ _ ((World.cell?_setCell_far _ _ _ _ v3).trans u3) (fun hHeld4 => ?_)
                clear hK K
                refine wpAnyH_done (by kernel_rfl) ?_ _
                refine Calm.normal ?_
                obtain ⟨w6, hw6⟩ : ∃ w6, w5.setCell ⟨pb, j, none⟩ (Value.slice ha hl9 hc9) = w6 := ⟨_, rfl⟩
                have HQ6 := Lib.hid ((HQ4.out.below (below_drews (Below.refl w4.heap.size w4) 1) (by have := h64; change n0 + 6 ≤ w4.heap.size at this; omega)).trans HH5.out.2)
                have HP6 := Lib.hid HH5.out.1
                rw [hw6] at HQ6 HP6 ⊢
                obtain ⟨r1, r2, r3, r4, r5, r6⟩ := HP6.out.box
                clear hw6 HH5 hHeld4 hHeld3 hHeld2 hHeld
                gi_wp2
                exact rnd_end HG.out hC HSt.out HQ6.out HP6.out (Nat.le_refl _) (by rw [HZ.out, Hd.addLast_zip HL3.out HLx.out ht0]) (by rw [List.length_append, hj, HN3.out]; rfl) (by rw [List.length_append, hj, List.length_singleton]; omega) HBW.out hMl
              · go_simp
                refine hK.out _ _ (cell_alloc _ hHeld) (fun hHeld2 => ?_)
                clear hK K
                have v8 := cell_alloc (.cells #[Value.string ⟨t.toArray⟩] 9) v1
                refine stepH 5 rfl (by kernel_rfl) (fun K hK => ?_)
                go_simp
                refine hK.out _ _ (cell_alloc _ hHeld) (fun hHeld2 => ?_)
                clear hK K
                refine stepH 8 rfl (by kernel_rfl) (fun K hK => ?_)
                refine wpo_add HP5.out hj rfl rfl _ _ rfl t rfl rfl ⟨ht0, htl⟩ (by omega) (by omega) h64 ?_
                intro ha hl9 hc9 w5 HH5 u1 u2 u3
                refine hK.out _ _ u3 (fun hHeld3 => ?_)
                clear hK K
                simp only [List.setIfInBounds_toArray, List.set_cons_zero, List.set_cons_succ]
                refine takeH 9 70 (v := ?_) rfl rfl (by kernel_rfl) (by kernel_rfl) (by kernel_rfl) (Or.inl ⟨by rfl, ?_⟩) (by assumption) ?_
                rotate_left
                · intro V hSV
                  have s1 := hSV
                  go_simp
                  try with_reducible rfl
                simp only [List.setIfInBounds_toArray, List.set_cons_zero, List.set_cons_succ]
                refine stepH 10 rfl (by kernel_rfl) (fun K hK => ?_)
                go_simp
                refine hK.out _ _ ((World.cell?_setCell_far _ _ _ _ v3).trans u3) (fun hHeld4 => ?_)
                clear hK K
                refine wpAnyH_done (by kernel_rfl) ?_ _
                refine Calm.normal ?_
                obtain ⟨w6, hw6⟩ : ∃ w6, w5.setCell ⟨pb, j, none⟩ (Value.slice ha hl9 hc9) = w6 := ⟨_, rfl⟩
                have HQ6 := Lib.hid ((HQ4.out.below (below_drews (Below.refl w4.heap.size w4) 1) (by have := h64; change n0 + 6 ≤ w4.heap.size at this; omega)).trans HH5.out.2)
                have HP6 := Lib.hid HH5.out.1
                rw [hw6] at HQ6 HP6 ⊢
                obtain ⟨r1, r2, r3, r4, r5, r6⟩ := HP6.out.box
                clear hw6 HH5 hHeld4 hHeld3 hHeld2 hHeld
                gi_wp2
                exact rnd_end HG.out hC HSt.out HQ6.out HP6.out (Nat.le_refl _) (by rw [HZ.out, Hd.addLast_zip HL3.out HLx.out ht0]) (by rw [List.length_append, hj, HN3.out]; rfl) (by rw [List.length_append, hj, List.length_singleton]; omega) HBW.out hMl
          · have hq0 : qs.length = 0 := by omega
            have HSt := Lib.hid (show Hd.step fs C = none from by
              unfold Hd.step
              rw [hf]
              refine if_neg (fun h => h.2 (List.eq_nil_of_length_eq_zero ?_))
              rw [hz, St.len hP hNl, hNl]; exact hq0)
            have hqz : ¬ ((0 : Int) < (qs.length : Int)) := by omega
            have HP := Lib.hid hP
            have HG := Lib.hid hgo
            have HZ := Lib.hid hz
            have HNl := Lib.hid hNl
            have HL2 := Lib.hid hP.l2
            have HMW := Lib.hid hMW
            have HBW := Lib.hid hB
            have hmp : pre.length ≤ 30000 := by omega
            clear hP hgo hz hNl hMW hB hrr hLS hBs hR0 hp1 hr1 hf hN hR hA hAd hCc hM6 hB6 hM hb hq0 hq
            gi_wp2_with (first
              | (refine ⟨trivial, ?_⟩; gi_at_call 48; with_reducible refine (CallsIn.inRound l (callsIn_wide.2 (HCF.out _ HMW.out))).mono ?_; rintro e1 w1 ⟨rfl, n1, hw1⟩; have hb1 : Below W.heap.size W w1 := (hw1 ▸ below_drews (Below.refl _ _) n1); have HP1 := Lib.hid (HP.out.new hb1); have h61 : n0 + 6 ≤ w1.heap.size := Nat.le_trans hsW hb1.size; obtain ⟨c2, f2, c3, f3, c4, f4⟩ := HP1.out.box; have HQ1 := Lib.hid ((Mq.refl n0 W).below hb1 (by omega)); clear hw1 hb1)
              | (refine ⟨trivial, ?_⟩; gi_at_call 49; with_reducible refine (CallsIn.inRound l (callsIn_wide.2 (HBk.out _))).mono ?_; rintro e2 w2' ⟨rfl, rfl⟩))
            obtain ⟨HBx, HJ⟩ := HP1.out.join HNl.out h400 hmp h61
            have HD1 := Lib.hid (below_drews (Below.refl w1.heap.size w1) 1)
            refine region_calm_round (fun V => V.cell? ⟨n0 + 2, 0, none⟩ = some (.slice na qs.length nc) ∧ V.cell? ⟨n0 + 3, 0, none⟩ = some (.slice pa qs.length pc) ∧ V.cell? ⟨n0 + 4, 0, none⟩ = some (.int .i64 e)) (by kernel_rfl) (by simp only [List.forall_mem_cons]; exact ⟨(tame_load _ _ rfl).c, (tame_load _ _ rfl).c, tame_call _ _ _ rfl (enters_of Tryd.func50 (by kernel_rfl) rfl), (tame_load _ _ rfl).c, (tame_store _ _ _ rfl).c, (tame_store _ _ _ rfl).c, fun _ h => by cases h⟩) ⟨c2, c3, c4⟩ (fun hHeld => ?_)
            show wpAnyH _ _ _ _ _ 6 (Array.replicate 6 false) _ _
            refine takeH 0 26 (v := ?_) rfl rfl (by kernel_rfl) (by kernel_rfl) (by kernel_rfl) (Or.inl ⟨by rfl, ?_⟩) (by assumption) ?_
            rotate_left
            · intro V hSV
              obtain ⟨s1, s2, s3⟩ := hSV
              go_simp
              try with_reducible rfl
            simp only [List.setIfInBounds_toArray, List.set_cons_zero, List.set_cons_succ]
            refine takeH 1 27 (v := ?_) rfl rfl (by kernel_rfl) (by kernel_rfl) (by kernel_rfl) (Or.inl ⟨by rfl, ?_⟩) (by assumption) ?_
            rotate_left
            · intro V hSV
              obtain ⟨s1, s2, s3⟩ := hSV
              go_simp
              try with_reducible rfl
            simp only [List.setIfInBounds_toArray, List.set_cons_zero, List.set_cons_succ]
            refine takeH 3 29 (v := ?_) rfl rfl (by kernel_rfl) (by kernel_rfl) (by kernel_rfl) (Or.inl ⟨by rfl, ?_⟩) (by assumption) ?_
            rotate_left
            · intro V hSV
              obtain ⟨s1, s2, s3⟩ := hSV
              go_simp
              try with_reducible rfl
            simp only [List.setIfInBounds_toArray, List.set_cons_zero, List.set_cons_succ]
            refine stepH 2 rfl (by kernel_rfl) (fun K hK => ?_)
            go_simp
            refine (HJ.out _ HD1.out).mono ?_
            rintro r w2 ⟨a2, m2, c2', rfl, HH⟩
            have d2 : w2.cell? ⟨n0 + 2, 0, none⟩ = some (.slice na qs.length nc) := (HBx.out.below HH.out.2.1).cells.1
            have d3 : w2.cell? ⟨n0 + 3, 0, none⟩ = some (.slice pa qs.length pc) := (HBx.out.below HH.out.2.1).cells.2.1
            have d4 : w2.cell? ⟨n0 + 4, 0, none⟩ = some (.int .i64 e) := (HBx.out.below HH.out.2.1).cells.2.2
            obtain ⟨x2, y2, ⟨d0, f0⟩, d1, f1⟩ := (HBx.out.below HH.out.2.1).outs
            refine hK.out _ _ ⟨d2, d3, d4⟩ (fun hHeld2 => ?_)
            clear hK K
            try simp only [Act.put, List.setIfInBounds_toArray, List.set_cons_zero, List.set_cons_succ]
            refine stepH 4 rfl (by kernel_rfl) (fun K hK => ?_)
            go_simp
            refine hK.out _ _ (keep_set (by omega) ⟨d2, d3, d4⟩) (fun hHeld3 => ?_)
            clear hK K
            refine stepH 5 rfl (by kernel_rfl) (fun K hK => ?_)
            go_simp
            refine hK.out _ _ (keep_set (by omega) (keep_set (by omega) ⟨d2, d3, d4⟩)) (fun hHeld4 => ?_)
            clear hK K
            refine wpAnyH_done (by kernel_rfl) ?_ _
            refine Calm.normal ?_
            have HQ6 := Lib.hid ((HBx.out.below HH.out.2.1).mq (u := Value.slice a2 m2 c2') (v := Value.int IntKind.i64 e) (HQ1.out.below HH.out.2.1 (by omega)))
            have HF6 := Lib.hid ((HBx.out.below HH.out.2.1).fin HH.out.1 (HBW.out.trans (HQ1.out.below HH.out.2.1 (by omega)).b))
            clear HBx HJ HD1 HH hHeld hHeld2 hHeld3 hHeld4 d0 d1 f0 f1 d2 d3 d4
            gi_wp2
            exact ⟨HQ6.out.keeps, pre, ⟨(C, E), hxx⟩, fs, e, rfl, HG.out, .inr ⟨rfl, hC, HSt.out, by rw [HZ.out]; exact HF6.out⟩⟩
  case done =>
    rintro D ys W hD hys ⟨fs, e, hgo, hSt⟩ hK
    have hsz : n0 + 6 ≤ W.heap.size := by have := (Array.getElem?_eq_some_iff.1 hK).1; omega
    have hyl : ys.length ≤ 30000 := by
      have := congrArg List.length hys
      rw [List.length_map, HNn.out] at this
      omega
    have HF : Hid ((Hd.parse s.data.toList).1 = fs ∧ s.data.toList.length - (Hd.parse s.data.toList).2.length = e) := Lib.hid (by
      have h1 := Hd.run_goes _ [] _ _ _ _ hgo
      rw [List.append_nil, hys, Hd.parse_run] at h1
      exact ⟨congrArg Prod.fst h1, congrArg Prod.snd h1⟩)
    obtain ⟨na, nc, pa, pc, k, HB, HJ⟩ := hSt.join hyl hsz
    clear hSt hgo hys
    have HK := Lib.hid hK
    clear hK
    obtain ⟨c2, c3, c4⟩ := HB.out.1.cells
    have HD := Lib.hid (below_drews (Below.refl W.heap.size W) 1)
    gi_wp2
    refine wpIn_wide.2 ?_
    go_region_held3 (fun V => V.cell? ⟨n0 + 1 + 1, 0, none⟩ = some (.slice na k nc) ∧ V.cell? ⟨n0 + 1 + 1 + 1, 0, none⟩ = some (.slice pa k pc) ∧ V.cell? ⟨n0 + 1 + 1 + 1 + 1, 0, none⟩ = some (.int .i64 e)) (first | exact ⟨by assumption, by assumption, by assumption⟩ | exact keep_set (by omega) ⟨d2, d3, d4⟩ | exact keep_set (by omega) (keep_set (by omega) ⟨d2, d3, d4⟩))
      (first | (go_at_call 50; refine (HJ.out _ HD.out).mono ?_; rintro r w2 ⟨a2, m2, c2', rfl, HH⟩; obtain ⟨d2, d3, d4⟩ := (HB.out.1.below HH.out.2.1).cells; obtain ⟨x2, y2, ⟨d0, f0⟩, d1, f1⟩ := (HB.out.1.below HH.out.2.1).outs))
    obtain ⟨W9, hW9⟩ : ∃ W9, (w2.setCell ⟨n0, 0, none⟩ (Value.slice a2 m2 c2')).setCell ⟨n0 + 1, 0, none⟩ (Value.int IntKind.i64 e) = W9 := ⟨_, rfl⟩
    have hF4 := (HB.out.1.below HH.out.2.1).fin HH.out.1 (below_to HB.out.2 hn0le HH.out.2.1)
    have hK9 := set2_at (n0 := n0) (u := Value.slice a2 m2 c2') (v := Value.int IntKind.i64 e) (by omega) HK.out HH.out.2.1
    rw [hW9] at hF4 hK9 ⊢
    clear hW9 d0 d1 d2 d3 d4 f0 f1 c2 c3 c4 HH HB HJ HD
    have HF4 := Lib.hid (hF4.out hn0le (by omega) hK9)
    have HK9 := Lib.hid hK9
    clear hF4 hK9
    gi_wp2
    obtain ⟨a, m, c, hO, hb, hres⟩ := HF4.out.done
    refine ⟨by simp, .inl ⟨_, _, rfl, run_takeDeferred HK9.out, ?_⟩⟩
    refine ⟨_, hres _ _ _ _ rfl rfl rfl, a, m, c, ?_, fown_base (by rw [HF.out.1]; exact hO) (by have := HN0.out; omega), hb.mono (by have := HN0.out; omega)⟩
    rw [← HF.out.2, ← Lib.size_eq]
  case stop =>
    rintro D c pre W hD ⟨r, hr⟩ ⟨p, x, fs, e, rfl, hgo, hL⟩ hK
    have hsz : n0 + 6 ≤ W.heap.size := by have := (Array.getElem?_eq_some_iff.1 hK).1; omega
    have hyl : p.length ≤ 30000 := by
      have := congrArg List.length hr
      rw [List.length_append, List.length_map, List.length_append, HNn.out] at this
      omega
    have h1 := Hd.run_goes _ (x.1 :: r) _ _ _ _ hgo
    rw [show List.map Subtype.val p ++ x.1 :: r = Hd.seqG 0 s.data.toList from by rw [← hr]; simp, Hd.parse_run] at h1
    unfold Hd.runQ at h1
    rcases hL with ⟨rfl, hx0, hSt⟩ | ⟨rfl, hx0, hst, hF⟩
    · rw [if_pos hx0] at h1
      obtain ⟨e, he⟩ : ∃ e, x.1.2 = e := ⟨_, rfl⟩
      rw [he] at hSt h1
      have HF : Hid ((Hd.parse s.data.toList).1 = fs ∧ s.data.toList.length - (Hd.parse s.data.toList).2.length = e) := Lib.hid ⟨congrArg Prod.fst h1, congrArg Prod.snd h1⟩
      obtain ⟨na, nc, pa, pc, k, HB, HJ⟩ := hSt.join hyl hsz
      clear hSt hgo hr h1 hx0 he
      have HK := Lib.hid hK
      clear hK
      obtain ⟨c2, c3, c4⟩ := HB.out.1.cells
      have HD := Lib.hid (below_drews (Below.refl W.heap.size W) 1)
      gi_wp2
      refine wpIn_wide.2 ?_
      go_region_held3 (fun V => V.cell? ⟨n0 + 1 + 1, 0, none⟩ = some (.slice na k nc) ∧ V.cell? ⟨n0 + 1 + 1 + 1, 0, none⟩ = some (.slice pa k pc) ∧ V.cell? ⟨n0 + 1 + 1 + 1 + 1, 0, none⟩ = some (.int .i64 e)) (first | exact ⟨by assumption, by assumption, by assumption⟩ | exact keep_set (by omega) ⟨d2, d3, d4⟩ | exact keep_set (by omega) (keep_set (by omega) ⟨d2, d3, d4⟩))
        (first | (go_at_call 50; refine (HJ.out _ HD.out).mono ?_; rintro r w2 ⟨a2, m2, c2', rfl, HH⟩; obtain ⟨d2, d3, d4⟩ := (HB.out.1.below HH.out.2.1).cells; obtain ⟨x2, y2, ⟨d0, f0⟩, d1, f1⟩ := (HB.out.1.below HH.out.2.1).outs))
      obtain ⟨W9, hW9⟩ : ∃ W9, (w2.setCell ⟨n0, 0, none⟩ (Value.slice a2 m2 c2')).setCell ⟨n0 + 1, 0, none⟩ (Value.int IntKind.i64 e) = W9 := ⟨_, rfl⟩
      have hF4 := (HB.out.1.below HH.out.2.1).fin HH.out.1 (below_to HB.out.2 hn0le HH.out.2.1)
      have hK9 := set2_at (n0 := n0) (u := Value.slice a2 m2 c2') (v := Value.int IntKind.i64 e) (by omega) HK.out HH.out.2.1
      rw [hW9] at hF4 hK9 ⊢
      clear hW9 d0 d1 d2 d3 d4 f0 f1 c2 c3 c4 HH HB HJ HD
      have HF4 := Lib.hid (hF4.out hn0le (by omega) hK9)
      have HK9 := Lib.hid hK9
      clear hF4 hK9
      gi_wp2
      obtain ⟨a, m, c, hO, hb, hres⟩ := HF4.out.done
      refine ⟨by simp, .inl ⟨_, _, rfl, run_takeDeferred HK9.out, ?_⟩⟩
      refine ⟨_, hres _ _ _ _ rfl rfl rfl, a, m, c, ?_, fown_base (by rw [HF.out.1]; exact hO) (by have := HN0.out; omega), hb.mono (by have := HN0.out; omega)⟩
      rw [← HF.out.2, ← Lib.size_eq]
    · rw [if_neg hx0, hst] at h1
      have HF : Hid ((Hd.parse s.data.toList).1 = fs ∧ s.data.toList.length - (Hd.parse s.data.toList).2.length = e) := Lib.hid ⟨congrArg Prod.fst h1, congrArg Prod.snd h1⟩
      have HF4 := Lib.hid (hF.out hn0le (by omega) hK)
      have HK9 := Lib.hid hK
      clear hgo hr h1 hx0 hst hF hK
      gi_wp2
      obtain ⟨a, m, c, hO, hb, hres⟩ := HF4.out.done
      refine ⟨by simp, .inl ⟨_, _, rfl, run_takeDeferred HK9.out, ?_⟩⟩
      refine ⟨_, hres _ _ _ _ rfl rfl rfl, a, m, c, ?_, fown_base (by rw [HF.out.1]; exact hO) (by have := HN0.out; omega), hb.mono (by have := HN0.out; omega)⟩
      rw [← HF.out.2, ← Lib.size_eq]
end Go.Proofs.YtliadekcbkedmaaDoor
