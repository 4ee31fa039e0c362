/-
  DiskLasts, plain: what a round leaves.
-/
import Derived.Test.YtbpodclodflgfaaLDo
namespace Go.Proofs.Ytbpodclodflgfaa
open Go Go.RowKit
namespace Dk
/-- A call that succeeded: the machine is up, the numbers are files. -/
theorem ok_flush {D : Disk} {f : Int} (h : (flush D f).1 = .ok) : (flush D f).2.down = false ∧ 0 ≤ f ∧ f ≤ 11 := by
  unfold flush flushB at *
  by_cases hm : may (comes D none) f = .ok
  · obtain ⟨m1, m2, m3⟩ := may_ok hm
    refine ⟨?_, m2, m3⟩
    rw [if_pos hm]
    split
    · exact m1
    · exact m1
  · rw [if_neg hm] at h
    exact absurd h hm
theorem ok_cut {D : Disk} {f n : Int} (h : (cut D f n).1 = .ok) : (cut D f n).2.down = false ∧ 0 ≤ f ∧ f ≤ 11 := by
  unfold cut cutB at *
  by_cases hm : may (comes D none) f = .ok
  · obtain ⟨m1, m2, m3⟩ := may_ok hm
    refine ⟨?_, m2, m3⟩
    rw [if_pos hm]
    split
    · exact m1
    · exact m1
  · rw [if_neg hm] at h
    exact absurd h hm
theorem ok_turn {D : Disk} {f g : Int} (h : (turn D f g).1 = .ok) : (turn D f g).2.down = false ∧ (0 ≤ f ∧ f ≤ 11) ∧ 0 ≤ g ∧ g ≤ 11 := by
  unfold turn turnB at *
  by_cases hm : may (comes D none) f = .ok
  · obtain ⟨m1, m2, m3⟩ := may_ok hm
    by_cases hg : may (comes D none) g = .ok
    · obtain ⟨_, g2, g3⟩ := may_ok hg
      refine ⟨?_, ⟨m2, m3⟩, g2, g3⟩
      rw [if_pos hm, if_pos hg]
      split
      · exact m1
      split
      · exact m1
      · exact m1
    · rw [if_pos hm, if_neg hg] at h
      exact absurd h hg
  · rw [if_neg hm] at h
    exact absurd h hm
theorem act_two {D : Disk} {a : Act} (h : pick a.do_ = 2) : act D a = (([], (flush D a.f).1), (flush D a.f).2) := by
  unfold act; rw [h]; rfl
theorem act_three {D : Disk} {a : Act} (h : pick a.do_ = 3) : act D a = (([], (cut D a.f a.n).1), (cut D a.f a.n).2) := by
  unfold act; rw [h]; rfl
theorem act_four {D : Disk} {a : Act} (h : pick a.do_ = 4) : act D a = (([], (turn D a.f a.g).1), (turn D a.f a.g).2) := by
  unfold act; rw [h]; rfl
theorem ok_23 {D : Disk} {a : Act} (hk : pick a.do_ = 2 ∨ pick a.do_ = 3) (h : (act D a).1.2 = .ok) : (act D a).2.down = false ∧ 0 ≤ a.f ∧ a.f ≤ 11 := by
  rcases hk with hk | hk
  · rw [act_two hk] at h ⊢
    exact ok_flush h
  · rw [act_three hk] at h ⊢
    exact ok_cut h
theorem ok_4 {D : Disk} {a : Act} (hk : pick a.do_ = 4) (h : (act D a).1.2 = .ok) : (act D a).2.down = false ∧ (0 ≤ a.f ∧ a.f ≤ 11) ∧ 0 ≤ a.g ∧ a.g ≤ 11 := by
  rw [act_four hk] at h ⊢
  exact ok_turn h
theorem ec_ok {e : E} : ec e = 0 ↔ e = .ok := by cases e <;> simp [ec]
/-- The round, as long as no crash comes. -/
theorem round_on {D : Disk} {safe : Nat → B} {l : List Act} (h : Inv D safe l) (a : Act) (hn : a.n < 4000 ∨ 16777216 < a.n) (hd : ¬ (D.down = false ∧ (act D a).2.down = true)) :
    Inv (act D a).2 (safeOf (act D a).2 a (act D a).1.2 safe) (restOf a (act D a).1.2 (sinceOf D a l)) := by
  rcases act_went h a hn with ⟨h1, _⟩ | ⟨h1, h2, _⟩
  · exact h1
  · exact absurd ⟨h1, h2⟩ hd
theorem round_down {D : Disk} {safe : Nat → B} {l : List Act} (h : Inv D safe l) (a : Act) (hn : a.n < 4000 ∨ 16777216 < a.n) (h1 : D.down = false) (h2 : (act D a).2.down = true) :
    (∀ f, f < 12 → Here ((act D a).2.last f) (safe f) (sinceOf D a l) f) ∧ (act D a).2.queue = [] := by
  rcases act_went h a hn with ⟨_, h3⟩ | ⟨_, _, h3⟩
  · rw [h3 h1] at h2; cases h2
  · exact h3
theorem since_same {D : Disk} {a : Act} {l : List Act} (h : ¬ (pick a.do_ ≤ 1 ∧ D.down = false ∧ 0 ≤ a.n ∧ a.n < 4000)) : sinceOf D a l = l := by unfold sinceOf; rw [if_neg h]
theorem since_more {D : Disk} {a : Act} {l : List Act} (h : pick a.do_ ≤ 1 ∧ D.down = false ∧ 0 ≤ a.n ∧ a.n < 4000) : sinceOf D a l = l ++ [a] := by unfold sinceOf; rw [if_pos h]
theorem kept_same {D : Disk} {a : Act} {e : E} {safe : Nat → B} (h : (pick a.do_ ≠ 2 ∧ pick a.do_ ≠ 3 ∧ pick a.do_ ≠ 4) ∨ e ≠ .ok) : safeOf D a e safe = safe ∧ ∀ l, restOf a e l = l := by
  unfold safeOf restOf
  refine ⟨by rw [if_neg (by rcases h with h | h <;> simp_all), if_neg (by rcases h with h | h <;> simp_all)], fun l => by rw [if_neg (by rcases h with h | h <;> simp_all), if_neg (by rcases h with h | h <;> simp_all)]⟩
/-- What safe is in the inner loop, behind a crash. -/
def taken (D : Disk) (safe : Nat → B) (j : Nat) : Nat → B := fun i => if i < j then D.last i else safe i
theorem taken_zero (D : Disk) (safe : Nat → B) : taken D safe 0 = safe := by funext i; unfold taken; rw [if_neg (Nat.not_lt_zero i)]
theorem taken_succ (D : Disk) (safe : Nat → B) (j : Nat) : setLast (taken D safe j) j (D.last j) = taken D safe (j + 1) := by
  funext i
  unfold setLast taken
  by_cases h : i = j
  · subst h
    rw [if_pos rfl, if_pos (Nat.lt_succ_self i)]
  · rw [if_neg h]
    by_cases h2 : i < j
    · rw [if_pos h2, if_pos (by omega)]
    · rw [if_neg h2, if_neg (by omega)]
theorem taken_at (D : Disk) (safe : Nat → B) (j : Nat) : taken D safe j j = safe j := by unfold taken; rw [if_neg (Nat.lt_irrefl j)]
theorem taken_inv {D : Disk} (hq : D.queue = []) (safe : Nat → B) : Inv (crash (start D) []) (taken D safe 12) [] :=
  inv_after hq _ fun f hf => by unfold taken; rw [if_pos hf]
theorem read_up {D : Disk} (hd : D.down = false) (f : Nat) (hf : f < 12) : readE D (f : Int) = (read D f, .ok) := by
  unfold readE
  rw [may_file hd (by omega) (by omega)]
  rfl
theorem read_started {D : Disk} (hq : D.queue = []) (f : Nat) (hf : f < 12) : readE (start D) (f : Int) = (D.last f, .ok) := by
  rw [read_up rfl f hf, read_quiet (d := start D) hq]
  rfl
theorem size_file_is (D : Disk) (f : Nat) (hf : f < 12) : size D (f : Int) = (read D f).length := by
  unfold size
  rw [if_pos (by omega)]
  rfl
end Dk
theorem few_each {X : List Dk.Act} (h : Dk.few X = true) {k : Nat} {x : Dk.Act} (hx : X[k]? = some x) : x.n < 4000 ∨ 16777216 < x.n := by
  unfold Dk.few at h
  simp only [Bool.and_eq_true, List.all_eq_true] at h
  have := h.1 x (List.mem_of_getElem? hx)
  unfold Dk.bad at this
  simp at this
  omega
theorem LM.slice {w2 w : World} {g sb : Nat} {v : Value} {D : Dk.Disk} {safe : Nat → List UInt8} {l : List AH} (h : LM w2 w g sb v D safe l) : ∃ xa n cap, v = .slice xa n cap ∧ l.length = n := by
  obtain ⟨_, ⟨h1, h2⟩ | ⟨g, cap, cur, h1, _⟩⟩ := h.own
  · exact ⟨none, 0, 0, h1, h2⟩
  · exact ⟨_, _, cap, h1, rfl⟩
/-- The round's end. -/
theorem LM.ls {w2 w : World} {g sb : Nat} {v : Value} {X : List Dk.Act} {k : Nat} {D : Dk.Disk} {safe : Nat → List UInt8} {l : List AH} (h : LM w2 w g sb v D safe l) (hi : Dk.Inv D safe (l.map AH.a)) (hl : l.length ≤ k) (hb : ∀ x ∈ l, 0 ≤ x.a.n ∧ x.a.n < 4000) (hq : D.queue.length ≤ Dk.atot X k) : LS w2 w g sb v X k D safe l :=
  ⟨h.mine, h.safe_, h.sblk, h.own, h.kept, hi, hl, hb, hq⟩
/-- And the round's act in its block. -/
structure LP (w2 w : World) (g sb : Nat) (v : Value) (D : Dk.Disk) (safe : Nat → List UInt8) (l : List AH) (p : Nat) (x : AH) : Prop where
  lm : LM w2 w g sb v D safe l
  pa : Blk w p 32 (ah x)
section
variable {w2 w w' : World} {g sb p : Nat} {v : Value} {D D' : Dk.Disk} {safe : Nat → List UInt8} {l : List AH} {x : AH}
theorem LP.cells (h : LP w2 w g sb v D safe l p x) : w.cell? ⟨p, 0, none⟩ = some (.int .i64 x.a.do_) ∧ w.cell? ⟨p, 1, none⟩ = some (.int .i64 x.a.f) ∧ w.cell? ⟨p, 2, none⟩ = some (.int .i64 x.a.g) ∧ w.cell? ⟨p, 3, none⟩ = some (.int .i64 x.a.n) ∧ w.cell? ⟨p, 4, none⟩ = some (.string (enc x.a.s)) ∧ w.cell? ⟨p, 5, none⟩ = some (.slice x.ka x.kn x.kcap) :=
  ⟨h.pa.cell (j := 0) rfl, h.pa.cell (j := 1) rfl, h.pa.cell (j := 2) rfl, h.pa.cell (j := 3) rfl, h.pa.cell (j := 4) rfl, h.pa.cell (j := 5) rfl⟩
theorem LP.made (h : LM w2 w g sb v D safe l) (x : AH) : LP w2 (w.alloc (.cells #[.int .i64 x.a.do_, .int .i64 x.a.f, .int .i64 x.a.g, .int .i64 x.a.n, .string (enc x.a.s), .slice x.ka x.kn x.kcap] 32)) g sb v D safe l w.heap.size x :=
  ⟨h.alloc _, Blk.made w #[.int .i64 x.a.do_, .int .i64 x.a.f, .int .i64 x.a.g, .int .i64 x.a.n, .string (enc x.a.s), .slice x.ka x.kn x.kcap] 32⟩
theorem LP.quiet (h : LP w2 w g sb v D safe l p x) (hb : Below w.heap.size w w') : LP w2 w' g sb v D safe l p x := ⟨h.lm.quiet hb, (hb.block p h.pa.lt).trans h.pa⟩
theorem LP.mv (h : LP w2 w g sb v D safe l p x) (m : MM w2 w w' g D') : LP w2 w' g sb v D' safe l p x := ⟨h.lm.mv m, blk_mv h.pa h.lm.mine.at_ m.mv (by decide) (by decide) (by decide)⟩
theorem LP.laid {v' : Value} {y : AH} {o : Obj} (h0 : LM w2 w g sb v D safe l) (h : LP w2 (w.alloc o) g sb v D safe l w.heap.size x) (o2 : Obj) (hg : ((w.alloc o).alloc o2).grownBy w' v.ownBlock) (ho : w'.ownsRow w2.heap.size 32 6 v' (l ++ [y]).length (av (l ++ [y]))) (hx : Kept w2 [y]) : LP w2 w' g sb v' D safe (l ++ [y]) w.heap.size x := by
  have h2 := h.quiet (below_new (w.alloc o) o2)
  refine ⟨h2.lm.laid hg ho hx, blk_grown h2.pa hg fun e => ?_⟩
  obtain ⟨_, ⟨h3, _⟩ | ⟨b, cap, cur, rfl, _, hb, _⟩⟩ := h0.own
  · rw [h3] at e; cases e
  · injection e with e
    change b = _ at e
    have := (Array.getElem?_eq_some_iff.1 hb).1
    omega
theorem LP.laid2 {v' : Value} {y : AH} (h : LP w2 w g sb v D safe l p x) (hne : v.ownBlock ≠ some p) (o2 : Obj) (hg : (w.alloc o2).grownBy w' v.ownBlock) (ho : w'.ownsRow w2.heap.size 32 6 v' (l ++ [y]).length (av (l ++ [y]))) (hx : Kept w2 [y]) : LP w2 w' g sb v' D safe (l ++ [y]) p x := by
  have h2 := h.quiet (below_new w o2)
  exact ⟨h2.lm.laid hg ho hx, blk_grown h2.pa hg hne⟩
theorem LP.store (h : LP w2 w g sb v D safe l p x) (f : Nat) (s : List UInt8) : LP w2 (w.setCell ⟨sb, f, none⟩ (.string (enc s))) g sb v D (Dk.setLast safe f s) l p x := by
  refine ⟨h.lm.store f s, (set_other w sb f p _ fun e => ?_).trans h.pa⟩
  subst e
  have h1 := h.lm.safe_
  have h2 := h.pa
  unfold Blk at h1 h2
  rw [h1] at h2
  injection h2 with h2
  injection h2 with _ h2 _
  exact absurd h2 (by decide)
theorem LP.empty (h : LP w2 w g sb v D safe l p x) (f : Nat) : LP w2 (w.setCell ⟨sb, f, none⟩ (.string ⟨#[]⟩)) g sb v D (Dk.setLast safe f []) l p x := h.store f []
theorem lp_do (h : LP w2 w g sb v D safe l p x) (y : Dk.Act) (ka : Option Addr) (kb koff kn kcap : Nat) (hA : AC w2 y ka kb koff kn kcap) (hs : y.s.length ≤ 1000000) (hq : D.queue.length + y.s.length ≤ 1000000) (hkl : kn ≤ 100000000) :
    Calls Try.prog 15 #[.pointer (some ⟨g, 0, none⟩), .agg #[.int .i64 y.do_, .int .i64 y.f, .int .i64 y.g, .int .i64 y.n, .string (enc y.s), .slice ka kn kcap]] w fun e w' => e = .returned (.tuple #[.string (enc (Dk.act D y).1.1), .int .i64 (Dk.ec (Dk.act D y).1.2)]) ∧ LP w2 w' g sb v (Dk.act D y).2 safe l p x :=
  (dm_any y (enc y.s) rfl ka kb koff kn kcap w2 w w g D h.lm.mm hA hs hq hkl).mono fun _ _ ⟨a, b⟩ => ⟨a, h.mv b⟩
theorem lp_read (h : LP w2 w g sb v D safe l p x) (f : Int) : Calls Try.prog 23 #[.pointer (some ⟨g, 0, none⟩), .int .i64 f] w fun e w' => e = .returned (.tuple #[.string (enc (Dk.readE D f).1), .int .i64 (Dk.ec (Dk.readE D f).2)]) ∧ LP w2 w' g sb v D safe l p x :=
  (read_any g D f w h.lm.mine.at_).mono fun _ _ ⟨a, b⟩ => ⟨a, h.quiet b⟩
theorem lp_without (xa : Option Addr) (n cap : Nat) (h : LP w2 w g sb (.slice xa n cap) D safe l p x) (hn : l.length = n) (hN : n ≤ 1000000) (f : Int) :
    Calls Try.prog 25 #[.slice xa n cap, .int .i64 f] w fun e w' => ∃ xa' n' cap', e = .returned (.slice xa' n' cap') ∧ (keep l f n).length = n' ∧ LP w2 w' g sb (.slice xa' n' cap') D safe (keep l f n) p x :=
  (without_any l n hn hN f w xa w2.heap.size cap h.lm.own).mono fun _ w1 ⟨v', a, b, c⟩ => by
    obtain ⟨pa, pn, pc, rfl⟩ := own_slice c
    have e : (keep l f n).length = pn := by
      obtain ⟨_, ⟨h1, h2⟩ | ⟨_, _, _, h1, _⟩⟩ := c
      · injection h1 with _ h1 _
        omega
      · injection h1 with _ h1 _
        omega
    exact ⟨pa, pn, pc, a, e, ⟨h.lm.mine.quiet b, (b.block sb h.lm.safe_.lt).trans h.lm.safe_, h.lm.sblk, own_low c h.lm.mine.below.size, h.lm.kept.keep f n⟩, (b.block p h.pa.lt).trans h.pa⟩
end
theorem DiskAt.last_le {w : World} {g : Nat} {D : Dk.Disk} (h : DiskAt w g D) (f : Nat) (hf : f < 12) : (D.last f).length ≤ 16777216 := by
  obtain ⟨vs, q, k, hv⟩ := h
  exact hv.good.len f hf
end Go.Proofs.Ytbpodclodflgfaa
