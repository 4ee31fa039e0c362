/-
  What holds between two rounds of DiskLasts.
-/
import Derived.Test.YtbpodclodflgfaaLAs
import Derived.Test.YtbpodclodflgfaaKDd
namespace Go.Proofs.Ytbpodclodflgfaa
open Go Go.RowKit
theorem keep_others (l : List AH) (f : Int) (n : Nat) (hn : l.length = n) : (keep l f n).map AH.a = Dk.others (l.map AH.a) f := by
  unfold keep Dk.others
  rw [List.take_of_length_le (by omega), List.filter_map]
  rfl
theorem keep_sub (l : List AH) (f : Int) (n : Nat) : ∀ x ∈ keep l f n, x ∈ l := fun x hx => by
  unfold keep at hx
  exact List.mem_of_mem_take (List.mem_filter.1 hx).1
/-- g: the disk; sb: the block of the twelve strings; v: the slice of the acts that may show; k: the acts done. -/
structure LS (w2 w : World) (g sb : Nat) (v : Value) (X : List Dk.Act) (k : Nat) (D : Dk.Disk) (safe : Nat → List UInt8) (l : List AH) : Prop where
  mine : Mine w2 w g D
  safe_ : Blk w sb 9 (sv safe)
  sblk : w2.heap.size ≤ sb
  own : w.ownsRow w2.heap.size 32 6 v l.length (av l)
  kept : Kept w2 l
  inv : Dk.Inv D safe (l.map AH.a)
  len : l.length ≤ k
  low : ∀ x ∈ l, 0 ≤ x.a.n ∧ x.a.n < 4000
  q : D.queue.length ≤ Dk.atot X k
theorem LS.start {w2 w : World} {g sb : Nat} {X : List Dk.Act} (h : Mine w2 w g Dk.new) (hs : Blk w sb 9 (sv fun _ => [])) (hb : w2.heap.size ≤ sb) : LS w2 w g sb (.slice none 0 0) X 0 Dk.new (fun _ => []) [] :=
  ⟨h, hs, hb, ⟨rfl, .inl ⟨rfl, rfl⟩⟩, fun x hx => by simp at hx, Dk.inv_new, Nat.le_refl _, fun x hx => by simp at hx, Nat.zero_le _⟩
/-- Only new blocks are made. -/
theorem own_block {w : World} {base : Nat} {e : TypeId} {sz : Nat} {v : Value} {n : Nat} {xs : List Value} (h : w.ownsRow base e sz v n xs) {b : Nat} {t : TypeId} {L : List Value} (hb : Blk w b t L) (he : e ≠ t) : v.ownBlock ≠ some b := fun hv => by
  obtain ⟨_, ⟨rfl, _⟩ | ⟨g, cap, cur, rfl, _, hg, _⟩⟩ := h
  · cases hv
  · injection hv with hv
    change g = b at hv
    subst hv
    unfold Blk at hb
    rw [hg] at hb
    injection hb with hb
    injection hb with _ hb _
    exact he hb
/-- The act is laid by. -/
theorem LS.laid {w2 w w' : World} {g sb k : Nat} {v v' : Value} {X : List Dk.Act} {D : Dk.Disk} {safe : Nat → List UInt8} {l : List AH} {x : AH} (h : LS w2 w g sb v X k D safe l) (hg : w.grownBy w' v.ownBlock) (ho : w'.ownsRow w2.heap.size 32 6 v' (l ++ [x]).length (av (l ++ [x]))) (hx : Kept w2 [x]) (h0 : 0 ≤ x.a.n) (h1 : x.a.n < 4000) :
    Mine w2 w' g D ∧ Blk w' sb 9 (sv safe) ∧ Kept w2 (l ++ [x]) ∧ Dk.Inv D safe ((l ++ [x]).map AH.a) ∧ (l ++ [x]).length ≤ k + 1 ∧ ∀ y ∈ l ++ [x], 0 ≤ y.a.n ∧ y.a.n < 4000 := by
  refine ⟨h.mine.aside hg (aside_own h.own (by decide) (by decide) (by decide) (by decide)) (own_from h.own), blk_grown h.safe_ hg (own_block h.own h.safe_ (by decide)), h.kept.append hx, h.inv.mono fun a ha => ?_, ?_, fun y hy => ?_⟩
  · rw [List.map_append]
    exact List.mem_append_left _ ha
  · have := h.len
    rw [List.length_append]
    exact Nat.succ_le_succ this
  · rcases List.mem_append.1 hy with hy | hy
    · exact h.low y hy
    · obtain rfl : y = x := by simpa using hy
      exact ⟨h0, h1⟩
/-- A string is stored in the law's twelve. -/
theorem LS.store {w2 w : World} {g sb k : Nat} {v : Value} {X : List Dk.Act} {D : Dk.Disk} {safe : Nat → List UInt8} {l : List AH} (h : LS w2 w g sb v X k D safe l) (f : Nat) (s : List UInt8) :
    Mine w2 (w.setCell ⟨sb, f, none⟩ (.string (enc s))) g D ∧ Blk (w.setCell ⟨sb, f, none⟩ (.string (enc s))) sb 9 (sv (Dk.setLast safe f s)) ∧ (w.setCell ⟨sb, f, none⟩ (.string (enc s))).ownsRow w2.heap.size 32 6 v l.length (av l) := by
  have hg := grown_set (grown_refl w (some sb)) f (.string (enc s))
  refine ⟨h.mine.aside hg (fun b hb => ?_) (fun b hb => ?_), (h.safe_.set f _).as (sv_set safe f s), ?_⟩
  · obtain rfl := Option.some.inj hb
    exact ⟨_, _, _, h.safe_, by decide, by decide, by decide, by decide⟩
  · obtain rfl := Option.some.inj hb
    exact h.sblk
  · have hn := own_block h.own h.safe_ (by decide)
    obtain ⟨y1, y | ⟨b, cap, cur, rfl, y2, hb, y3, y4, y5, y6⟩⟩ := h.own
    · exact ⟨y1, .inl y⟩
    · exact ⟨y1, .inr ⟨b, cap, cur, rfl, y2, (hg.block b (Array.getElem?_eq_some_iff.1 hb).1 (fun e => hn e)).trans hb, y3, y4, y5, y6⟩⟩
end Go.Proofs.Ytbpodclodflgfaa
