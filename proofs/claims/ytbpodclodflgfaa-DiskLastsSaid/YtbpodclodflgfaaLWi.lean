/-
  The acts that the law keeps: a slice of its own; an act appended; what reads as acts.
-/
import Derived.Test.YtbpodclodflgfaaLHe
import Derived.Test.YtbpodclodflgfaaKX2
namespace Go.Proofs.Ytbpodclodflgfaa
open Go Go.RowKit
/-- An act as it lies in memory: with the header of its ints. -/
structure AH where
  a : Dk.Act
  ka : Option Addr
  kn : Nat
  kcap : Nat
def ah (x : AH) : List Value := acells x.a x.ka x.kn x.kcap
def av (l : List AH) : List Value := l.flatMap ah
theorem av_append (a b : List AH) : av (a ++ b) = av a ++ av b := by simp [av]
theorem av_length : ∀ q : List AH, (av q).length = q.length * 6
  | [] => rfl
  | p :: q => by
    have := av_length q
    show (ah p ++ av q).length = _
    rw [List.length_append, this, List.length_cons, show (ah p).length = 6 from rfl]
    omega
theorem av_at : ∀ (q : List AH) (j i : Nat) (p : AH) (v : Value), q[j]? = some p → (ah p)[i]? = some v → (av q)[j * 6 + i]? = some v
  | p0 :: q, 0, i, p, v, hj, hi => by
    simp at hj
    subst hj
    show (ah p0 ++ av q)[0 * 6 + i]? = _
    rw [Nat.zero_mul, Nat.zero_add, List.getElem?_append_left (List.getElem?_eq_some_iff.1 hi).1]
    exact hi
  | p0 :: q, j + 1, i, p, v, hj, hi => by
    have ih := av_at q j i p v (by simpa using hj) hi
    show (ah p0 ++ av q)[(j + 1) * 6 + i]? = _
    rw [List.getElem?_append_right (by rw [show (ah p0).length = 6 from rfl]; omega), show (ah p0).length = 6 from rfl, show (j + 1) * 6 + i - 6 = j * 6 + i by omega]
    exact ih
theorem av_cells (l : List AH) : ∀ v ∈ av l, v.oneCell' = true := fun v hv => by
  simp only [av, List.mem_flatMap] at hv
  obtain ⟨x, _, hv⟩ := hv
  simp [ah, acells] at hv
  rcases hv with rfl | rfl | rfl | rfl | rfl | rfl <;> rfl
/-- Each of these acts keeps ints that lie in w. -/
def Kept (w : World) (l : List AH) : Prop := ∀ x ∈ l, ∃ kb koff, AC w x.a x.ka kb koff x.kn x.kcap
theorem Kept.below {w w' : World} {l : List AH} (h : Kept w l) (hb : Below w.heap.size w w') : Kept w' l := fun x hx => by
  obtain ⟨kb, koff, h1⟩ := h x hx
  exact ⟨kb, koff, h1.below hb⟩
theorem Kept.append {w : World} {l m : List AH} (h : Kept w l) (k : Kept w m) : Kept w (l ++ m) := fun x hx => by
  rcases List.mem_append.1 hx with hx | hx
  · exact h x hx
  · exact k x hx
/-- What the law keeps reads as acts. w0: the world in which the ints lie. -/
theorem la_own {w0 w : World} {v : Value} {base : Nat} {l : List AH} (h : w.ownsRow base 32 6 v l.length (av l)) (hk : Kept w0 l) (hb : Below w0.heap.size w0 w) :
    ∃ xa b off cap, v = .slice xa l.length cap ∧ LA w xa b off (l.map AH.a) := by
  obtain ⟨_, h | ⟨g, cap, cur, rfl, _, hg, _, _, _, htk⟩⟩ := h
  · obtain ⟨rfl, hl⟩ := h
    obtain rfl : l = [] := List.length_eq_zero_iff.1 hl
    exact ⟨none, 0, 0, 0, rfl, ⟨fun h => absurd h (Nat.lt_irrefl _), fun j x hj => by simp at hj, fun h => absurd h (Nat.lt_irrefl _)⟩⟩
  · refine ⟨some ⟨g, 0, none⟩, g, 0, cap, rfl, ⟨fun _ => rfl, fun j a hj => ?_, fun _ => (Array.getElem?_eq_some_iff.1 hg).1⟩⟩
    rw [List.getElem?_map] at hj
    obtain ⟨x, hx, rfl⟩ := Option.map_eq_some_iff.1 hj
    obtain ⟨kb, koff, h1⟩ := hk x (List.mem_of_getElem? hx)
    refine ⟨x.ka, kb, koff, x.kn, x.kcap, h1.below hb, fun i u hu => ?_⟩
    have h2 := av_at l j i x u hx hu
    rw [← htk] at h2
    have h3 : cur.toList[j * 6 + i]? = some u := by
      rw [List.getElem?_take] at h2
      split at h2
      · exact h2
      · cases h2
    rw [Nat.zero_add]
    simp [World.cell?, hg]
    simpa using h3
theorem infoA : (Try.prog.info? 32).map (fun i => (i.zero, i.size, i.bytes)) = some (some (.agg #[.int .i64 0, .int .i64 0, .int .i64 0, .int .i64 0, .string ⟨#[]⟩, .slice none 0 0]), 6, 72) := by kernel_rfl
section
variable {w : World} {ops : Array Oper} {o : Oper} {a : Act} {Q : Exit → Act → World → Prop}
theorem step_app_act {K : Act → World → Prop} {E : Prop} (hgd : o.guard = none) (s x : Operand) (ho : o.op = .call { callee := .builtin .append, args := #[s, x], argTypes := #[22, 22] })
    {v : Value} {L : List AH} (base : Nat) (hs : a.eval s = v) (hown : w.ownsRow base 32 6 v L.length (av L)) (ad : Addr) (c : Nat) (p : AH) (hx : a.eval x = .slice (some ad) 1 c) (hnews : ∀ j u, (ah p)[j]? = some u → w.cell? (ad.add j) = some u) (hbig : L.length ≤ 1000000) (hbase : base ≤ w.heap.size)
    (h : ∀ v' w', w'.ownsRow base 32 6 v' (L ++ [p]).length (av (L ++ [p])) → w.grownBy w' v.ownBlock → SF w v v' → K (a.put o.dst v') w') : if Region.wanted o (yielded ops a.tmps) = true then Oper.wp Try.prog o a w K Q else E := by
  have hw : Region.wanted o (yielded ops a.tmps) = true := by simp [Region.wanted, hgd]
  rw [if_pos hw]
  obtain ⟨i0, hi, hz0, hz1, hz2⟩ := info_parts infoA
  obtain ⟨v', w', hr, h2, h3, h4⟩ := app_same w o.type i0 _ 72 Try.underlying22 hi hz0 hz1 hz2 rfl (by omega) hown ad 1 c (ah p) rfl hnews (by intro u hu; simp [ah, acells] at hu; rcases hu with rfl | rfl | rfl | rfl | rfl | rfl <;> rfl) (by unfold maxLen; omega) (by omega) hbase
  unfold Oper.wp execOp
  simp only [ho, resolve, invoke, builtin, Sem.run_bind, Sem.run_pure, Result.andThen_ok, List.map_toArray, List.map_cons, List.map_nil, hs, hx, hr]
  refine h v' w' ?_ h3 h4
  have e : (L ++ [p]).length = L.length + 1 := by simp
  have e2 : av (L ++ [p]) = av L ++ ah p := by rw [av_append]; simp [av]
  rw [e, e2]
  exact h2
end
end Go.Proofs.Ytbpodclodflgfaa
