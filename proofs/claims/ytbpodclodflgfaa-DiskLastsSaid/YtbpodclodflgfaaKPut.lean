/-
  The plain part of layer 5, fourth: a write's pieces put one behind the other are the write; calls on a machine that is down.
-/
import Derived.Test.YtbpodclodflgfaaKLasts
namespace Go.Proofs.Ytbpodclodflgfaa
open Go
namespace Dk
theorem put_put (s : B) (at_ : Nat) (a b : B) : put (put s at_ a) (at_ + a.length) b = put s at_ (a ++ b) := by
  refine List.ext_getElem? fun i => ?_
  rw [put_at (put s at_ a) (at_ + a.length) b i, put_length, put_at s at_ a i, put_at s at_ (a ++ b) i, List.length_append]
  by_cases h1 : at_ + a.length ≤ i ∧ i < at_ + a.length + b.length
  · rw [if_pos h1, if_pos (by omega), List.getElem?_append_right (by omega)]
    congr 1; omega
  · rw [if_neg h1]
    by_cases h2 : at_ ≤ i ∧ i < at_ + a.length
    · rw [if_pos (by omega), if_pos h2, if_pos (by omega), List.getElem?_append_left (by omega)]
    · rw [if_neg h2]
      rw [if_neg (c := at_ ≤ i ∧ i < at_ + (a.length + b.length)) (by omega)]
      by_cases h3 : i < s.length
      · rw [if_pos (by omega), if_pos h3, if_pos h3]
      · rw [if_neg h3]
        by_cases h4 : i < at_ + a.length
        · rw [if_pos (by omega), if_pos h4, if_neg h3, if_pos (by omega)]
        · rw [if_neg (by omega), if_neg (by omega), if_neg h3, if_neg (by omega)]
theorem over_pieces (f : Nat) : ∀ (n at_ : Nat) (s base : B), s.length ≤ n → s ≠ [] → over f base (pieces f n at_ s) = put base at_ s
  | 0, at_, s, base, hn, hs => absurd (List.eq_nil_of_length_eq_zero (by omega)) hs
  | n + 1, at_, [], base, hn, hs => absurd rfl hs
  | n + 1, at_, c :: t, base, hn, hs => by
    unfold pieces
    rw [over_cons, if_pos rfl]
    generalize hm : 64 - at_ % 64 = m
    have hm1 : 1 ≤ m := by omega
    by_cases hd : (c :: t).drop m = []
    · have hlen : (c :: t).length ≤ m := by rw [List.drop_eq_nil_iff] at hd; exact hd
      have hp : pieces f n (at_ + m) [] = [] := by cases n <;> simp [pieces]
      rw [hd, hp, List.take_of_length_le hlen]
      rfl
    · have hlen : m < (c :: t).length := by
        rcases Nat.lt_or_ge m (c :: t).length with h | h
        · exact h
        · exact absurd (List.drop_eq_nil_of_le h) hd
      have htl : ((c :: t).take m).length = m := by rw [List.length_take]; omega
      rw [over_pieces f n (at_ + m) ((c :: t).drop m) _ (by rw [List.length_drop]; simp only [List.length_cons] at hn ⊢; omega) hd]
      show put (put base at_ ((c :: t).take m)) (at_ + m) _ = _
      have := put_put base at_ ((c :: t).take m) ((c :: t).drop m)
      rw [htl, List.take_append_drop] at this
      exact this
theorem over_append (f : Nat) (s : B) (q q' : List Piece) : over f s (q ++ q') = over f (over f s q) q' := by unfold over; rw [List.foldl_append]
theorem over_other (f g : Nat) (h : g ≠ f) (n at_ : Nat) (s base : B) : over f base (pieces g n at_ s) = base :=
  over_without f _ _ fun p hp => by rw [(pieces_of g n at_ s p hp).1]; exact h
theorem read_add (d : Disk) (f at_ : Nat) (s : B) (hs : s ≠ []) : read (add d f at_ s) f = put (read d f) at_ s := by
  unfold read add
  show over f (d.last f) (d.queue ++ pieces f s.length at_ s) = _
  rw [over_append, over_pieces f _ _ _ _ (Nat.le_refl _) hs]
theorem read_add_other (d : Disk) (f g at_ : Nat) (s : B) (h : g ≠ f) : read (add d g at_ s) f = read d f := by
  unfold read add
  show over f (d.last f) (d.queue ++ pieces g s.length at_ s) = _
  rw [over_append, over_other f g h]
theorem put_end (s t : B) : put s s.length t = s ++ t := by
  refine List.ext_getElem? fun i => ?_
  rw [put_at]
  by_cases h1 : s.length ≤ i ∧ i < s.length + t.length
  · rw [if_pos h1, List.getElem?_append_right h1.1]
  · rw [if_neg h1]
    by_cases h2 : i < s.length
    · rw [if_pos h2, List.getElem?_append_left h2]
    · rw [if_neg h2, if_neg (by omega), List.getElem?_append_right (by omega)]
      rw [List.getElem?_eq_none (by omega)]
theorem pieces_nil (f n at_ : Nat) : pieces f n at_ [] = [] := by cases n <;> simp [pieces]
/-- A machine that is down. -/
theorem down_comes {d : Disk} (h : d.down = true) (w : Option (Int × Int × B)) : comes d w = d := by unfold comes; rw [if_pos (.inl h)]
theorem down_write {d : Disk} (h : d.down = true) (f at_ : Int) (s : B) : write d f at_ s = (.down, d) := by
  unfold write; rw [down_comes h]; unfold writeB; rw [may_down h, if_neg (by decide)]
theorem down_flush {d : Disk} (h : d.down = true) (f : Int) : flush d f = (.down, d) := by
  unfold flush; rw [down_comes h]; unfold flushB; rw [may_down h, if_neg (by decide)]
theorem down_cut {d : Disk} (h : d.down = true) (f n : Int) : cut d f n = (.down, d) := by
  unfold cut; rw [down_comes h]; unfold cutB; rw [may_down h, if_neg (by decide)]
theorem down_turn {d : Disk} (h : d.down = true) (f g : Int) : turn d f g = (.down, d) := by
  unfold turn; rw [down_comes h]; unfold turnB; rw [may_down h, if_neg (by decide)]
theorem down_read {d : Disk} (h : d.down = true) (f : Int) : readE d f = ([], .down) := by unfold readE; rw [may_down h]
theorem down_crash {d : Disk} (h : d.down = true) (keep : List Int) : crash d keep = d := by unfold crash; rw [if_pos h]
/-- A file number that is none. -/
theorem may_arg {d : Disk} (h : d.down = false) {f : Int} (hf : f < 0 ∨ 11 < f) : may d f = .arg := by
  unfold may isFile
  rw [h, if_neg (by decide)]
  rw [if_neg (by simp; omega)]
theorem may_file {d : Disk} (h : d.down = false) {f : Int} (h0 : 0 ≤ f) (h1 : f ≤ 11) : may d f = .ok := by
  unfold may isFile
  rw [h, if_neg (by decide), if_pos (by simp; omega)]
theorem calm_comes {d : Disk} (h : d.armed = 0) (w : Option (Int × Int × B)) : comes d w = d := by unfold comes; rw [if_pos (.inr h)]
theorem arg_write {d : Disk} (h : d.down = false) (ha : d.armed = 0) {f : Int} (hf : f < 0 ∨ 11 < f) (at_ : Int) (s : B) : write d f at_ s = (.arg, d) := by
  unfold write; rw [calm_comes ha]; unfold writeB; rw [may_arg h hf, if_neg (by decide)]
theorem arg_flush {d : Disk} (h : d.down = false) (ha : d.armed = 0) {f : Int} (hf : f < 0 ∨ 11 < f) : flush d f = (.arg, d) := by
  unfold flush; rw [calm_comes ha]; unfold flushB; rw [may_arg h hf, if_neg (by decide)]
theorem arg_cut {d : Disk} (h : d.down = false) (ha : d.armed = 0) {f : Int} (hf : f < 0 ∨ 11 < f) (n : Int) : cut d f n = (.arg, d) := by
  unfold cut; rw [calm_comes ha]; unfold cutB; rw [may_arg h hf, if_neg (by decide)]
theorem arg_turn {d : Disk} (h : d.down = false) (ha : d.armed = 0) {f : Int} (hf : f < 0 ∨ 11 < f) (g : Int) : turn d f g = (.arg, d) := by
  unfold turn; rw [calm_comes ha]; unfold turnB; rw [may_arg h hf, if_neg (by decide)]
theorem arg_turn2 {d : Disk} (h : d.down = false) (ha : d.armed = 0) {f g : Int} (h0 : 0 ≤ f) (h1 : f ≤ 11) (hg : g < 0 ∨ 11 < g) : turn d f g = (.arg, d) := by
  unfold turn; rw [calm_comes ha]; unfold turnB; rw [may_file h h0 h1, if_pos rfl, may_arg h hg, if_neg (by decide)]
/-- The final crash of DiskLasts. -/
theorem final_here {d : Disk} {safe : Nat → B} {l : List Act} (h : Inv d safe l) (keep : List Int) (f : Nat) (hf : f < 12) :
    Here ((crash (start (arm d 0 [])) keep).last f) (safe f) l f ∧ ((crash (start (arm d 0 [])) keep).last f).length ≤ (read (start (arm d 0 [])) f).length ∧ (crash (start (arm d 0 [])) keep).queue = [] := by
  have h2 : Inv (start (arm d 0 [])) safe l := ⟨h.from_, h.safe_, fun hd => by cases hd⟩
  obtain ⟨a, b, c⟩ := crash_here h2 rfl keep
  refine ⟨a f hf, ?_, b⟩
  show (overK f (d.last f) d.queue keep).length ≤ (over f (d.last f) d.queue).length
  exact overK_length f _ _ _ _ (Nat.le_refl _)
theorem read_quiet {d : Disk} (h : d.queue = []) (f : Nat) : read d f = d.last f := by unfold read; rw [h]; rfl
/-- Calls that fit, on a calm machine that is up. -/
theorem calm_write {d : Disk} (h : d.down = false) (ha : d.armed = 0) {f at_ : Int} (h0 : 0 ≤ f) (h1 : f ≤ 11) (s : B) (hfit : fits at_ s = true) : write d f at_ s = (.ok, add d f.toNat at_.toNat s) := by
  have hn : ¬ at_ < 0 := by unfold fits at hfit; simp at hfit; omega
  unfold write; rw [calm_comes ha]; unfold writeB; rw [may_file h h0 h1, if_pos rfl, if_neg hn, if_pos hfit]
theorem calm_flush {d : Disk} (h : d.down = false) (ha : d.armed = 0) {f : Int} (h0 : 0 ≤ f) (h1 : f ≤ 11) (hl : d.lost ≤ 0) : flush d f = (.ok, { d with last := setLast d.last f.toNat (read d f.toNat), queue := without d.queue f.toNat }) := by
  unfold flush; rw [calm_comes ha]; unfold flushB; rw [may_file h h0 h1, if_pos rfl, if_neg (by omega)]
theorem calm_lost {d : Disk} (h : d.down = false) (ha : d.armed = 0) {f : Int} (h0 : 0 ≤ f) (h1 : f ≤ 11) (hl : 0 < d.lost) : flush d f = (.lost, { d with lost := d.lost - 1 }) := by
  unfold flush; rw [calm_comes ha]; unfold flushB; rw [may_file h h0 h1, if_pos rfl, if_pos hl]
theorem calm_turn {d : Disk} (h : d.down = false) (ha : d.armed = 0) {f g : Int} (h0 : 0 ≤ f) (h1 : f ≤ 11) (g0 : 0 ≤ g) (g1 : g ≤ 11) (hne : f ≠ g) :
    turn d f g = if pending d.queue g.toNat = true then (.state, d) else (.ok, { d with last := setLast (setLast d.last f.toNat (d.last g.toNat)) g.toNat [], queue := without d.queue f.toNat }) := by
  unfold turn; rw [calm_comes ha]; unfold turnB; rw [may_file h h0 h1, if_pos rfl, may_file h g0 g1, if_pos rfl, if_neg hne]
end Dk
end Go.Proofs.Ytbpodclodflgfaa
