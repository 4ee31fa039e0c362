/-
  DiskLasts: the ends of a round.
-/
import Derived.Test.YtbpodclodflgfaaLPl
namespace Go.Proofs.Ytbpodclodflgfaa
open Go Go.RowKit
namespace Dk
theorem ok_was {D : Disk} {a : Act} (hk : pick a.do_ = 2 ∨ pick a.do_ = 3 ∨ pick a.do_ = 4) (h : (act D a).1.2 = .ok) : D.down = false := by
  cases hd : D.down with
  | false => rfl
  | true =>
    rcases hk with hk | hk | hk
    · rw [act_two hk, down_flush hd] at h; cases h
    · rw [act_three hk, down_cut hd] at h; cases h
    · rw [act_four hk, down_turn hd] at h; cases h
theorem read_up_at {D : Disk} (hd : D.down = false) (x : Int) (f : Nat) (hf : f < 12) (hx : x = (f : Int)) : readE D x = (read D f, .ok) := by rw [hx]; exact read_up hd f hf
end Dk
section
variable {w2 w' : World} {g sb p k : Nat} {v : Value} {X : List Dk.Act} {D D' : Dk.Disk} {sf : Nat → List UInt8} {L L1 : List AH} {x : Dk.Act} {er : Dk.E}
theorem fin_plain (hi : Dk.Inv D' (Dk.safeOf D' x er sf) (Dk.restOf x er (Dk.sinceOf D x (L.map AH.a)))) (hk : (Dk.pick x.do_ ≠ 2 ∧ Dk.pick x.do_ ≠ 3 ∧ Dk.pick x.do_ ≠ 4) ∨ er ≠ .ok)
    (h : LM w2 w' g sb v D' sf L1) (hL : L1.map AH.a = Dk.sinceOf D x (L.map AH.a)) (hlow : ∀ z ∈ L1, 0 ≤ z.a.n ∧ z.a.n < 4000) (hlen : L1.length ≤ k + 1) (hq : D'.queue.length ≤ Dk.atot X (k + 1)) : LS w2 w' g sb v X (k + 1) D' sf L1 := by
  obtain ⟨h1, h2⟩ := Dk.kept_same (D := D') (safe := sf) hk
  rw [h1, h2, ← hL] at hi
  exact h.ls hi hlen hlow hq
theorem keep_low {f : Int} {n : Nat} (h : ∀ z ∈ L, 0 ≤ z.a.n ∧ z.a.n < 4000) : ∀ z ∈ keep L f n, 0 ≤ z.a.n ∧ z.a.n < 4000 := fun z hz => h z (keep_sub L f n z hz)
theorem keep_short (L : List AH) (f : Int) (n : Nat) : (keep L f n).length ≤ L.length := by
  unfold keep
  refine Nat.le_trans (List.length_filter_le _ _) ?_
  rw [List.length_take]
  omega
theorem fin_23 {n f : Nat} (hi : Dk.Inv D' (Dk.safeOf D' x .ok sf) (Dk.restOf x .ok (Dk.sinceOf D x (L.map AH.a)))) (hk : Dk.pick x.do_ = 2 ∨ Dk.pick x.do_ = 3) (hf : x.f = (f : Int)) (hn : L.length = n)
    (h : LM w2 w' g sb v D' (Dk.setLast sf f (Dk.read D' f)) (keep L (f : Int) n)) (hlow : ∀ z ∈ L, 0 ≤ z.a.n ∧ z.a.n < 4000) (hlen : L.length ≤ k + 1) (hq : D'.queue.length ≤ Dk.atot X (k + 1)) : LS w2 w' g sb v X (k + 1) D' (Dk.setLast sf f (Dk.read D' f)) (keep L (f : Int) n) := by
  have e1 : Dk.safeOf D' x .ok sf = Dk.setLast sf f (Dk.read D' f) := by
    unfold Dk.safeOf
    rw [if_pos ⟨hk, rfl⟩, hf]
    rfl
  have e2 : Dk.restOf x .ok (Dk.sinceOf D x (L.map AH.a)) = (keep L (f : Int) n).map AH.a := by
    rw [Dk.since_same (by omega), keep_others L _ n hn]
    unfold Dk.restOf
    rw [if_pos ⟨hk, rfl⟩, hf]
  rw [e1, e2] at hi
  exact h.ls hi (Nat.le_trans (keep_short L _ n) hlen) (keep_low hlow) hq
theorem fin_4 {n m f t : Nat} (hi : Dk.Inv D' (Dk.safeOf D' x .ok sf) (Dk.restOf x .ok (Dk.sinceOf D x (L.map AH.a)))) (hk : Dk.pick x.do_ = 4) (hf : x.f = (f : Int)) (ht : x.g = (t : Int)) (hn : L.length = n) (hm : (keep L (f : Int) n).length = m)
    (h : LM w2 w' g sb v D' (Dk.setLast (Dk.setLast sf f (sf t)) t []) (keep (keep L (f : Int) n) (t : Int) m)) (hlow : ∀ z ∈ L, 0 ≤ z.a.n ∧ z.a.n < 4000) (hlen : L.length ≤ k + 1) (hq : D'.queue.length ≤ Dk.atot X (k + 1)) : LS w2 w' g sb v X (k + 1) D' (Dk.setLast (Dk.setLast sf f (sf t)) t []) (keep (keep L (f : Int) n) (t : Int) m) := by
  have e1 : Dk.safeOf D' x .ok sf = Dk.setLast (Dk.setLast sf f (sf t)) t [] := by
    unfold Dk.safeOf
    rw [if_neg (by omega), if_pos ⟨hk, rfl⟩, hf, ht]
    rfl
  have e2 : Dk.restOf x .ok (Dk.sinceOf D x (L.map AH.a)) = (keep (keep L (f : Int) n) (t : Int) m).map AH.a := by
    rw [Dk.since_same (by omega), keep_others _ _ m hm, keep_others L _ n hn]
    unfold Dk.restOf
    rw [if_neg (by omega), if_pos ⟨hk, rfl⟩, hf, ht]
  rw [e1, e2] at hi
  exact h.ls hi (Nat.le_trans (keep_short _ _ m) (Nat.le_trans (keep_short L _ n) hlen)) (keep_low (keep_low hlow)) hq
theorem fin_23b {n f : Nat} (hi : Dk.Inv D' (Dk.safeOf D' x .ok sf) (Dk.restOf x .ok (Dk.sinceOf D x (L.map AH.a)))) (hk : Dk.pick x.do_ = 2 ∨ Dk.pick x.do_ = 3) (hf : x.f = (f : Int)) (hL : L1.map AH.a = Dk.sinceOf D x (L.map AH.a)) (hn : L1.length = n)
    (h : LM w2 w' g sb v D' (Dk.setLast sf f (Dk.read D' f)) (keep L1 (f : Int) n)) (hlow : ∀ z ∈ L1, 0 ≤ z.a.n ∧ z.a.n < 4000) (hlen : L1.length ≤ k + 1) (hq : D'.queue.length ≤ Dk.atot X (k + 1)) : LS w2 w' g sb v X (k + 1) D' (Dk.setLast sf f (Dk.read D' f)) (keep L1 (f : Int) n) := by
  have e1 : Dk.safeOf D' x .ok sf = Dk.setLast sf f (Dk.read D' f) := by
    unfold Dk.safeOf
    rw [if_pos ⟨hk, rfl⟩, hf]
    rfl
  have e2 : Dk.restOf x .ok (Dk.sinceOf D x (L.map AH.a)) = (keep L1 (f : Int) n).map AH.a := by
    rw [← hL, keep_others L1 _ n hn]
    unfold Dk.restOf
    rw [if_pos ⟨hk, rfl⟩, hf]
  rw [e1, e2] at hi
  exact h.ls hi (Nat.le_trans (keep_short L1 _ n) hlen) (keep_low hlow) hq
theorem fin_4b {n m f t : Nat} (hi : Dk.Inv D' (Dk.safeOf D' x .ok sf) (Dk.restOf x .ok (Dk.sinceOf D x (L.map AH.a)))) (hk : Dk.pick x.do_ = 4) (hf : x.f = (f : Int)) (ht : x.g = (t : Int)) (hL : L1.map AH.a = Dk.sinceOf D x (L.map AH.a)) (hn : L1.length = n) (hm : (keep L1 (f : Int) n).length = m)
    (h : LM w2 w' g sb v D' (Dk.setLast (Dk.setLast sf f (sf t)) t []) (keep (keep L1 (f : Int) n) (t : Int) m)) (hlow : ∀ z ∈ L1, 0 ≤ z.a.n ∧ z.a.n < 4000) (hlen : L1.length ≤ k + 1) (hq : D'.queue.length ≤ Dk.atot X (k + 1)) : LS w2 w' g sb v X (k + 1) D' (Dk.setLast (Dk.setLast sf f (sf t)) t []) (keep (keep L1 (f : Int) n) (t : Int) m) := by
  have e1 : Dk.safeOf D' x .ok sf = Dk.setLast (Dk.setLast sf f (sf t)) t [] := by
    unfold Dk.safeOf
    rw [if_neg (by omega), if_pos ⟨hk, rfl⟩, hf, ht]
    rfl
  have e2 : Dk.restOf x .ok (Dk.sinceOf D x (L.map AH.a)) = (keep (keep L1 (f : Int) n) (t : Int) m).map AH.a := by
    rw [← hL, keep_others _ _ m hm, keep_others L1 _ n hn]
    unfold Dk.restOf
    rw [if_neg (by omega), if_pos ⟨hk, rfl⟩, hf, ht]
  rw [e1, e2] at hi
  exact h.ls hi (Nat.le_trans (keep_short _ _ m) (Nat.le_trans (keep_short L1 _ n) hlen)) (keep_low (keep_low hlow)) hq
theorem fin_crash (h : LM w2 w' g sb v (Dk.crash (Dk.start D') []) (Dk.taken D' sf 12) []) (hq : D'.queue = []) : LS w2 w' g sb v X (k + 1) (Dk.crash (Dk.start D') []) (Dk.taken D' sf 12) [] :=
  h.ls (Dk.taken_inv hq sf) (Nat.zero_le _) (fun z hz => by cases hz) (by
    have := Dk.crash_queue (Dk.start D') []
    have e : (Dk.start D').queue = [] := hq
    rw [e] at this
    exact Nat.le_trans this (Nat.zero_le _))
end
/-- A row of ints beside what the main loop has. -/
structure LW (w2 w : World) (g sb : Nat) (v : Value) (D : Dk.Disk) (safe : Nat → List UInt8) (l : List AH) (base : Nat) (u : Value) (ws : List Int) : Prop where
  lm : LM w2 w g sb v D safe l
  row : w.ownsRow base 3 1 u ws.length (iv ws)
section
variable {w2 w w' : World} {g sb base : Nat} {v u : Value} {D D' : Dk.Disk} {safe : Nat → List UInt8} {l : List AH} {ws : List Int}
theorem LW.quiet (h : LW w2 w g sb v D safe l base u ws) (hb : Below w.heap.size w w') : LW w2 w' g sb v D safe l base u ws := ⟨h.lm.quiet hb, own_below h.row hb⟩
theorem LW.mv (h : LW w2 w g sb v D safe l base u ws) (m : MM w2 w w' g D') : LW w2 w' g sb v D' safe l base u ws := ⟨h.lm.mv m, own_mv h.row h.lm.mine.at_ m.mv (by decide) (by decide) (by decide)⟩
theorem lw_crash (h : LW w2 w g sb v D safe l base u ws) (a : Option Addr) (b off n cap : Nat) (ks : List Int) (hk : IR w2 a b off ks) (hn : ks.length = n) : Calls Try.prog 13 #[.pointer (some ⟨g, 0, none⟩), .slice a n cap] w fun e w' => (∃ v, e = .returned v) ∧ LW w2 w' g sb v (Dk.crash D ks) safe l base u ws := (mm_crash_arg h.lm.mm a b off n cap ks hk hn).mono fun _ _ ⟨a, b⟩ => ⟨a, h.mv b⟩
theorem lw_start (h : LW w2 w g sb v D safe l base u ws) : Calls Try.prog 21 #[.pointer (some ⟨g, 0, none⟩)] w fun e w' => (∃ v, e = .returned v) ∧ LW w2 w' g sb v (Dk.start D) safe l base u ws := (mm_start h.lm.mm).mono fun _ _ ⟨a, b⟩ => ⟨a, h.mv b⟩
theorem lw_read (h : LW w2 w g sb v D safe l base u ws) (f : Int) : Calls Try.prog 23 #[.pointer (some ⟨g, 0, none⟩), .int .i64 f] w fun e w' => e = .returned (.tuple #[.string (enc (Dk.readE D f).1), .int .i64 (Dk.ec (Dk.readE D f).2)]) ∧ LW w2 w' g sb v D safe l base u ws :=
  (read_any g D f w h.lm.mine.at_).mono fun _ _ ⟨a, b⟩ => ⟨a, h.quiet b⟩
theorem lw_here (xa : Option Addr) (n cap : Nat) (h : LW w2 w g sb (.slice xa n cap) D safe l base u ws) (hn : l.length = n) (hN : n ≤ 1000000) (hX : ∀ x ∈ l, 0 ≤ x.a.n ∧ x.a.n < 4000) (f : Nat) (s sf : ByteArray) (hs : s.size ≤ 100000000) (hH : Dk.Here s.data.toList sf.data.toList (l.map AH.a) f) :
    Calls Try.prog 26 #[.string s, .string sf, .slice xa n cap, .int .i64 f] w fun e w' => e = .returned (.bool true) ∧ LW w2 w' g sb (.slice xa n cap) D safe l base u ws :=
  (lm_here xa n cap h.lm hn hN hX f s sf hs hH).mono fun _ _ ⟨a, b, _⟩ => ⟨a, h.quiet b⟩
theorem LW.at_ (h : LW w2 w g sb v D safe l base u ws) (j : Nat) (z : Int) (hz : ws[j]? = some z) : ∃ r cap, u = .slice (some ⟨r, 0, none⟩) ws.length cap ∧ w.cell? ⟨r, j, none⟩ = some (.int .i64 z) := by
  obtain ⟨_, ⟨_, h2⟩ | ⟨r, cap, cur, rfl, _, hb, _, _, _, htk⟩⟩ := h.row
  · have := (List.getElem?_eq_some_iff.1 hz).1; omega
  · refine ⟨r, cap, rfl, ?_⟩
    have h3 : (iv ws)[j]? = some (.int .i64 z) := by simp [iv, hz]
    rw [← htk, List.getElem?_take] at h3
    split at h3
    · simp [World.cell?, hb]
      simpa using h3
    · cases h3
end
theorem LW.cell {w2 w : World} {g sb base r n c : Nat} {v : Value} {D : Dk.Disk} {safe : Nat → List UInt8} {l : List AH} {ws : List Int} (h : LW w2 w g sb v D safe l base (.slice (some ⟨r, 0, none⟩) n c) ws) (j : Nat) (z : Int) (hz : ws[j]? = some z) : w.cell? ⟨r, j, none⟩ = some (.int .i64 z) := by
  obtain ⟨r2, c2, h1, h2⟩ := h.at_ j z hz
  injection h1 with h1 _ _
  injection h1 with h1
  injection h1 with h1 _ _
  subst h1
  exact h2
namespace Dk
def sizes (R : Disk) (j : Nat) : List Int := (List.range j).map fun f => ((read R f).length : Int)
theorem sizes_length (R : Disk) (j : Nat) : (sizes R j).length = j := by simp [sizes]
theorem sizes_succ (R : Disk) (j : Nat) : sizes R (j + 1) = sizes R j ++ [((read R j).length : Int)] := by simp [sizes, List.range_succ]
theorem sizes_at (R : Disk) (j f : Nat) (h : f < j) : (sizes R j)[f]? = some ((read R f).length : Int) := by
  unfold sizes
  rw [List.getElem?_map, List.getElem?_range h]
  rfl
end Dk
theorem new_int (w : World) (z : Int) : ∀ j u, ([Value.int .i64 z])[j]? = some u → (w.alloc (.cells #[.int .i64 z] 3)).cell? (Addr.add ⟨w.heap.size, 0, none⟩ j) = some u := fun j u hj => by
  have h2 : (⟨w.heap.size, 0, none⟩ : Addr).add j = ⟨w.heap.size, j, none⟩ := by unfold Addr.add; split <;> simp_all
  rw [h2]
  exact (Blk.made w #[.int .i64 z] 3).cell hj
/-- was = append(was, d.Size(f)). -/
theorem wpList_app_was {w wa : World} {ops : Array Oper} {o : Oper} {a : Act} {Q : Exit → Act → World → Prop} {rest : List Oper} {u : Value} {R : Dk.Disk} {j : Nat} (hgd : o.guard = none) (s x : Operand) (ho : o.op = .call { callee := .builtin .append, args := #[s, x], argTypes := #[30, 30] })
    (z : Int) (hz : z = ((Dk.read R j).length : Int)) (hj : j < 12) (hO : w.ownsRow wa.heap.size 3 1 u (Dk.sizes R j).length (iv (Dk.sizes R j))) (hB : Below wa.heap.size wa w)
    (hs : a.eval s = u) (hx : a.eval x = .slice (some ⟨w.heap.size, 0, none⟩) 1 1)
    (h : ∀ pa pn pc w', Hid (w'.ownsRow wa.heap.size 3 1 (.slice pa pn pc) (Dk.sizes R (j + 1)).length (iv (Dk.sizes R (j + 1)))) → Hid (Below wa.heap.size wa w') → wpList Try.prog ops Q rest (a.put o.dst (.slice pa pn pc)) w') :
    wpList Try.prog ops Q (o :: rest) a (w.alloc (.cells #[.int .i64 z] 3)) := by
  obtain ⟨i0, hi, hz0, hz1, hz2⟩ := info_parts infoI
  have hl := Dk.sizes_length R j
  refine wpList_append_own _ hgd s x 30 ho wa.heap.size 3 i0 (.int .i64 0) 1 8 Try.underlying30 hi hz0 hz1 hz2 rfl (by decide) u (Dk.sizes R j).length (iv (Dk.sizes R j)) hs (own_below hO (below_new w _)) ⟨w.heap.size, 0, none⟩ 1 1 [.int .i64 z] hx rfl (new_int w z) (fun v hv => by simp at hv; subst hv; rfl) (by unfold maxLen; omega) (by omega) (by rw [alloc_size]; have := hB.size; omega) fun v' w' h1 h2 h3 => ?_
  obtain ⟨pa, pn, pc, rfl⟩ := own_slice h1
  refine h pa pn pc w' (Lib.hid ?_) (Lib.hid (below_grown (below_to hB (Nat.le_refl _) (below_new w _)) (Nat.le_refl _) h2 (own_from hO)))
  have e : (Dk.sizes R (j + 1)).length = (Dk.sizes R j).length + 1 := by rw [Dk.sizes_length, Dk.sizes_length]
  rw [e, Dk.sizes_succ, ← hz]
  have e2 : iv (Dk.sizes R j ++ [z]) = iv (Dk.sizes R j) ++ [.int .i64 z] := by simp [iv]
  rw [e2]
  exact h1
end Go.Proofs.Ytbpodclodflgfaa
