/-
  The plain part of layer 5, third: what holds between two acts, act for act.
-/
import Derived.Test.YtbpodclodflgfaaKHere
namespace Go.Proofs.Ytbpodclodflgfaa
open Go
namespace Dk
def pick (n : Int) : Int := n % 11
def act (d : Disk) (a : Act) : (B × E) × Disk :=
  if pick a.do_ = 0 ∨ pick a.do_ = 1 then (([], (write d a.f a.n a.s).1), (write d a.f a.n a.s).2)
  else if pick a.do_ = 2 then (([], (flush d a.f).1), (flush d a.f).2)
  else if pick a.do_ = 3 then (([], (cut d a.f a.n).1), (cut d a.f a.n).2)
  else if pick a.do_ = 4 then (([], (turn d a.f a.g).1), (turn d a.f a.g).2)
  else if pick a.do_ = 5 then (([], .ok), crash d a.keep)
  else if pick a.do_ = 6 then (([], .ok), lose d a.n)
  else if pick a.do_ = 7 then (([], .ok), start d)
  else if pick a.do_ = 8 then (readE d a.f, d)
  else if pick a.do_ = 10 then (([], .ok), arm d a.n a.keep)
  else (([], .ok), d)
def sinceOf (d : Disk) (a : Act) (since : List Act) : List Act := if pick a.do_ ≤ 1 ∧ d.down = false ∧ 0 ≤ a.n ∧ a.n < 4000 then since ++ [a] else since
def others (l : List Act) (f : Int) : List Act := l.filter fun a => a.f != f
theorem sinceOf_sub (d : Disk) (a : Act) (since : List Act) : ∀ x ∈ since, x ∈ sinceOf d a since := fun x hx => by
  unfold sinceOf
  split
  · exact List.mem_append.2 (.inl hx)
  · exact hx
/-- Counting a call leaves what holds, or crashes. -/
theorem comes_none {d : Disk} {safe : Nat → B} {l : List Act} (h : Inv d safe l) :
    (Inv (comes d none) safe l ∧ (comes d none).down = d.down) ∨ (d.down = false ∧ (comes d none).down = true ∧ (∀ f, f < 12 → Here ((comes d none).last f) (safe f) l f) ∧ (comes d none).queue = []) := by
  unfold comes
  by_cases h1 : d.down = true ∨ d.armed = 0
  · rw [if_pos h1]; exact .inl ⟨h, rfl⟩
  · rw [if_neg h1]
    by_cases h2 : 1 < d.armed
    · rw [if_pos h2]; exact .inl ⟨h.armed _, rfl⟩
    · rw [if_neg h2]
      have hd : d.down = false := by cases hx : d.down with | false => rfl | true => exact absurd (.inl hx) h1
      obtain ⟨a, b, c⟩ := crash_here (h.armed 0) hd d.keep
      exact .inr ⟨hd, c, a, b⟩
theorem comes_write {d : Disk} {safe : Nat → B} {l : List Act} (h : Inv d safe l) (a : Act) (ha : fits a.n a.s = true → d.down = false → a ∈ l) :
    (Inv (comes d (some (a.f, a.n, a.s))) safe l ∧ (comes d (some (a.f, a.n, a.s))).down = d.down) ∨ (d.down = false ∧ (comes d (some (a.f, a.n, a.s))).down = true ∧ (∀ f, f < 12 → Here ((comes d (some (a.f, a.n, a.s))).last f) (safe f) l f) ∧ (comes d (some (a.f, a.n, a.s))).queue = []) := by
  unfold comes
  by_cases h1 : d.down = true ∨ d.armed = 0
  · rw [if_pos h1]; exact .inl ⟨h, rfl⟩
  · rw [if_neg h1]
    by_cases h2 : 1 < d.armed
    · rw [if_pos h2]; exact .inl ⟨h.armed _, rfl⟩
    · rw [if_neg h2]
      have hd : d.down = false := by cases hx : d.down with | false => rfl | true => exact absurd (.inl hx) h1
      dsimp only
      by_cases hf : (isFile a.f && fits a.n a.s) = true
      · rw [if_pos hf]
        simp only [Bool.and_eq_true] at hf
        have hf1 : 0 ≤ a.f := by have := hf.1; unfold isFile at this; simp at this; omega
        have hf2 : 0 ≤ a.n := by have := hf.2; unfold fits at this; simp at this; omega
        obtain ⟨x, y, z⟩ := crash_here ((h.armed 0).add hd (ha hf.2 hd) (f := a.f.toNat) (at_ := a.n.toNat) (by omega) (by omega)) hd d.keep
        exact .inr ⟨hd, z, x, y⟩
      · rw [if_neg hf]
        obtain ⟨x, y, z⟩ := crash_here (h.armed 0) hd d.keep
        exact .inr ⟨hd, z, x, y⟩
/-- Either what holds goes on, or the machine has just crashed, and each file is what a crash may leave. -/
def Went (d d' : Disk) (safe safe' : Nat → B) (since since' : List Act) : Prop :=
  (Inv d' safe' since' ∧ (d.down = false → d'.down = false)) ∨ (d.down = false ∧ d'.down = true ∧ (∀ f, f < 12 → Here (d'.last f) (safe f) since f) ∧ d'.queue = [])
theorem may_ok {d : Disk} {f : Int} (h : may d f = .ok) : d.down = false ∧ 0 ≤ f ∧ f ≤ 11 := by
  unfold may at h
  split at h
  · cases h
  · next hd =>
    split at h
    · next hf =>
      unfold isFile at hf
      simp at hf
      exact ⟨by simpa using hd, hf.1, hf.2⟩
    · cases h
theorem fits_lt {a : Act} (hn : a.n < 4000 ∨ 16777216 < a.n) (h : fits a.n a.s = true) : 0 ≤ a.n ∧ a.n < 4000 := by
  unfold fits at h
  simp at h
  omega
theorem write_went {d : Disk} {safe : Nat → B} {l : List Act} (h : Inv d safe l) (a : Act) (hk : pick a.do_ ≤ 1) (hn : a.n < 4000 ∨ 16777216 < a.n) : Went d (write d a.f a.n a.s).2 safe safe (sinceOf d a l) (sinceOf d a l) := by
  have hin : fits a.n a.s = true → d.down = false → a ∈ sinceOf d a l := by
    intro h1 h2
    have := fits_lt hn h1
    unfold sinceOf
    rw [if_pos ⟨hk, h2, this.1, this.2⟩]
    simp
  have h' := h.mono (sinceOf_sub d a l)
  unfold write
  rcases comes_write h' a hin with ⟨h1, h2⟩ | ⟨h1, h2, h3, h4⟩
  · generalize comes d (some (a.f, a.n, a.s)) = d1 at *
    have hsame : Went d d1 safe safe (sinceOf d a l) (sinceOf d a l) := .inl ⟨h1, fun hd => by rw [h2, hd]⟩
    unfold writeB
    split
    · next hm =>
      obtain ⟨m1, m2, m3⟩ := may_ok hm
      split
      · exact hsame
      · split
        · next hfit =>
          have hd : d.down = false := by rw [← h2]; exact m1
          exact .inl ⟨h1.add m1 (hin hfit hd) (by omega) (by have := fits_lt hn hfit; omega), fun _ => m1⟩
        · exact hsame
    · exact hsame
  · have hm : may (comes d (some (a.f, a.n, a.s))) a.f = .down := by unfold may; rw [h2]; rfl
    unfold writeB
    rw [hm, if_neg (by decide)]
    exact .inr ⟨h1, h2, h3, h4⟩
theorem over_without (f : Nat) : ∀ (q : List Piece) (s : B), (∀ p ∈ q, p.f ≠ f) → over f s q = s
  | [], s, _ => rfl
  | p :: q, s, h => by rw [over_cons, if_neg (h p (by simp))]; exact over_without f q s fun x hx => h x (by simp [hx])
theorem without_ne {q : List Piece} {f : Nat} : ∀ p ∈ without q f, p ∈ q ∧ p.f ≠ f := fun p hp => by
  unfold without at hp
  simpa using hp
theorem from_others {l : List Act} {p : Piece} {f : Int} (h : From l p) (hf : (p.f : Int) ≠ f) : From (others l f) p := by
  obtain ⟨a, ha, h1, h2⟩ := h
  exact ⟨a, by unfold others; simp [ha, h1, hf], h1, h2⟩
/-- A file is durable as it reads. -/
theorem inv_durable {d : Disk} {safe : Nat → B} {l : List Act} (h : Inv d safe l) (hd : d.down = false) (f : Nat) (s : B) :
    Inv { d with last := setLast d.last f s, queue := without d.queue f } (setLast safe f s) (others l (f : Int)) := by
  refine ⟨fun p hp => ?_, fun g hg => ?_, fun h2 => by change d.down = true at h2; rw [hd] at h2; cases h2⟩
  · obtain ⟨h1, h2⟩ := without_ne p hp
    exact from_others (h.from_ p h1) (by omega)
  · show setLast safe f s g = setLast d.last f s g
    unfold setLast
    split
    · rfl
    · exact h.safe_ g hg
/-- What an act that made something durable leaves. -/
def safeOf (d' : Disk) (a : Act) (e : E) (safe : Nat → B) : Nat → B :=
  if (pick a.do_ = 2 ∨ pick a.do_ = 3) ∧ e = .ok then setLast safe a.f.toNat (read d' a.f.toNat)
  else if pick a.do_ = 4 ∧ e = .ok then setLast (setLast safe a.f.toNat (safe a.g.toNat)) a.g.toNat [] else safe
def restOf (a : Act) (e : E) (since : List Act) : List Act :=
  if (pick a.do_ = 2 ∨ pick a.do_ = 3) ∧ e = .ok then others since a.f
  else if pick a.do_ = 4 ∧ e = .ok then others (others since a.f) a.g else since
theorem read_durable (d : Disk) (f : Nat) (s : B) : read { d with last := setLast d.last f s, queue := without d.queue f } f = s := by
  unfold read
  show over f (setLast d.last f s f) (without d.queue f) = s
  rw [over_without f _ _ (fun p hp => (without_ne p hp).2)]
  unfold setLast
  rw [if_pos rfl]
theorem went_none {d : Disk} {safe : Nat → B} {l : List Act} (h : Inv d safe l) (d' : Disk) (safe' : Nat → B) (l' : List Act) (hgo : Inv (comes d none) safe l → (comes d none).down = d.down → Inv d' safe' l' ∧ d'.down = d.down) (hst : (comes d none).down = true → d' = comes d none) : Went d d' safe safe' l l' := by
  rcases comes_none h with ⟨h1, h2⟩ | ⟨h1, h2, h3, h4⟩
  · obtain ⟨a, b⟩ := hgo h1 h2
    exact .inl ⟨a, fun hd => by rw [b, hd]⟩
  · rw [hst h2]; exact .inr ⟨h1, h2, h3, h4⟩
theorem may_down {d : Disk} {f : Int} (h : d.down = true) : may d f = .down := by unfold may; rw [h]; rfl
theorem flush_went {d : Disk} {safe : Nat → B} {l : List Act} (h : Inv d safe l) (a : Act) (hk : pick a.do_ = 2) : Went d (flush d a.f).2 safe (safeOf (flush d a.f).2 a (flush d a.f).1 safe) l (restOf a (flush d a.f).1 l) := by
  unfold flush
  refine went_none h _ _ _ (fun h1 h2 => ?_) (fun h1 => by unfold flushB; rw [may_down h1, if_neg (by decide)])
  generalize comes d none = d1 at *
  unfold flushB safeOf restOf
  by_cases hm : may d1 a.f = .ok
  · rw [if_pos hm]
    obtain ⟨m1, m2, m3⟩ := may_ok hm
    by_cases hl : 0 < d1.lost
    · rw [if_pos hl]
      simp only [hk]
      exact ⟨by simpa using (⟨h1.from_, h1.safe_, h1.down_⟩ : Inv { d1 with lost := d1.lost - 1 } safe l), h2⟩
    · rw [if_neg hl]
      rw [if_pos ⟨.inl hk, rfl⟩, if_pos ⟨.inl hk, rfl⟩]
      refine ⟨?_, h2⟩
      have := inv_durable h1 m1 a.f.toNat (read d1 a.f.toNat)
      rw [show ((a.f.toNat : Nat) : Int) = a.f by omega] at this
      rw [show read (E.ok, { d1 with last := setLast d1.last a.f.toNat (read d1 a.f.toNat), queue := without d1.queue a.f.toNat }).2 a.f.toNat = read d1 a.f.toNat from read_durable d1 _ _]
      exact this
  · rw [if_neg hm]
    rw [if_neg (fun h => hm h.2), if_neg (fun h => hm h.2), if_neg (fun h => hm h.2), if_neg (fun h => hm h.2)]
    exact ⟨h1, h2⟩
theorem cut_went {d : Disk} {safe : Nat → B} {l : List Act} (h : Inv d safe l) (a : Act) (hk : pick a.do_ = 3) : Went d (cut d a.f a.n).2 safe (safeOf (cut d a.f a.n).2 a (cut d a.f a.n).1 safe) l (restOf a (cut d a.f a.n).1 l) := by
  unfold cut
  refine went_none h _ _ _ (fun h1 h2 => ?_) (fun h1 => by unfold cutB; rw [may_down h1, if_neg (by decide)])
  generalize comes d none = d1 at *
  unfold cutB safeOf restOf
  by_cases hm : may d1 a.f = .ok
  · rw [if_pos hm]
    obtain ⟨m1, m2, m3⟩ := may_ok hm
    by_cases hl : a.n < 0 ∨ ((read d1 a.f.toNat).length : Int) < a.n
    · rw [if_pos hl]
      simp only [hk]
      exact ⟨by simpa using h1, h2⟩
    · rw [if_neg hl]
      rw [if_pos ⟨.inr hk, rfl⟩, if_pos ⟨.inr hk, rfl⟩]
      refine ⟨?_, h2⟩
      have := inv_durable h1 m1 a.f.toNat ((read d1 a.f.toNat).take a.n.toNat)
      rw [show ((a.f.toNat : Nat) : Int) = a.f by omega] at this
      rw [show read (E.ok, { d1 with last := setLast d1.last a.f.toNat ((read d1 a.f.toNat).take a.n.toNat), queue := without d1.queue a.f.toNat }).2 a.f.toNat = (read d1 a.f.toNat).take a.n.toNat from read_durable d1 _ _]
      exact this
  · rw [if_neg hm]
    rw [if_neg (fun h => hm h.2), if_neg (fun h => hm h.2), if_neg (fun h => hm h.2), if_neg (fun h => hm h.2)]
    exact ⟨h1, h2⟩
theorem turn_went {d : Disk} {safe : Nat → B} {l : List Act} (h : Inv d safe l) (a : Act) (hk : pick a.do_ = 4) : Went d (turn d a.f a.g).2 safe (safeOf (turn d a.f a.g).2 a (turn d a.f a.g).1 safe) l (restOf a (turn d a.f a.g).1 l) := by
  unfold turn
  refine went_none h _ _ _ (fun h1 h2 => ?_) (fun h1 => by unfold turnB; rw [may_down h1, if_neg (by decide)])
  generalize comes d none = d1 at *
  unfold turnB safeOf restOf
  have hk2 : ¬ (pick a.do_ = 2 ∨ pick a.do_ = 3) := by omega
  by_cases hm : may d1 a.f = .ok
  · rw [if_pos hm]
    obtain ⟨m1, m2, m3⟩ := may_ok hm
    by_cases hg : may d1 a.g = .ok
    · rw [if_pos hg]
      obtain ⟨_, g2, g3⟩ := may_ok hg
      by_cases hfg : a.f = a.g
      · rw [if_pos hfg, if_neg (fun h => hk2 h.1), if_neg (fun h => by cases h.2), if_neg (fun h => hk2 h.1), if_neg (fun h => by cases h.2)]
        exact ⟨h1, h2⟩
      · rw [if_neg hfg]
        by_cases hp : pending d1.queue a.g.toNat = true
        · rw [if_pos hp, if_neg (fun h => hk2 h.1), if_neg (fun h => by cases h.2), if_neg (fun h => hk2 h.1), if_neg (fun h => by cases h.2)]
          exact ⟨h1, h2⟩
        · rw [if_neg hp, if_neg (fun h => hk2 h.1), if_pos ⟨hk, rfl⟩, if_neg (fun h => hk2 h.1), if_pos ⟨hk, rfl⟩]
          refine ⟨⟨fun p hpq => ?_, fun x hx => ?_, fun h3 => by change d1.down = true at h3; rw [m1] at h3; cases h3⟩, h2⟩
          · obtain ⟨q1, q2⟩ := without_ne p hpq
            have q3 : p.f ≠ a.g.toNat := fun e => hp (by unfold pending; rw [List.any_eq_true]; exact ⟨p, q1, by simp [e]⟩)
            exact from_others (from_others (h1.from_ p q1) (by omega)) (by omega)
          · show setLast (setLast safe a.f.toNat (safe a.g.toNat)) a.g.toNat [] x = setLast (setLast d1.last a.f.toNat (d1.last a.g.toNat)) a.g.toNat [] x
            unfold setLast
            split
            · rfl
            · split
              · exact h1.safe_ _ (by omega)
              · exact h1.safe_ _ hx
    · rw [if_neg hg, if_neg (fun h => hk2 h.1), if_neg (fun h => hg h.2), if_neg (fun h => hk2 h.1), if_neg (fun h => hg h.2)]
      exact ⟨h1, h2⟩
  · rw [if_neg hm, if_neg (fun h => hk2 h.1), if_neg (fun h => hm h.2), if_neg (fun h => hk2 h.1), if_neg (fun h => hm h.2)]
    exact ⟨h1, h2⟩
theorem pick_range (n : Int) : 0 ≤ pick n ∧ pick n ≤ 10 := by unfold pick; omega
/-- Act for act: what holds goes on, or the machine has just crashed, and each file is what a crash may leave. -/
theorem act_went {d : Disk} {safe : Nat → B} {l : List Act} (h : Inv d safe l) (a : Act) (hn : a.n < 4000 ∨ 16777216 < a.n) :
    Went d (act d a).2 safe (safeOf (act d a).2 a (act d a).1.2 safe) (sinceOf d a l) (restOf a (act d a).1.2 (sinceOf d a l)) := by
  have hr := pick_range a.do_
  have hsame : ¬ pick a.do_ ≤ 1 → sinceOf d a l = l := fun hk => by unfold sinceOf; rw [if_neg (fun h => hk h.1)]
  have hno : ∀ (d' : Disk) (e : E), ¬ (pick a.do_ = 2 ∨ pick a.do_ = 3) → pick a.do_ ≠ 4 → safeOf d' a e safe = safe ∧ ∀ m, restOf a e m = m := fun d' e h1 h2 => by
    unfold safeOf restOf
    refine ⟨by rw [if_neg (fun h => h1 h.1), if_neg (fun h => h2 h.1)], fun m => by rw [if_neg (fun h => h1 h.1), if_neg (fun h => h2 h.1)]⟩
  unfold act
  split
  · next hk =>
    obtain ⟨e1, e2⟩ := hno (write d a.f a.n a.s).2 (write d a.f a.n a.s).1 (by omega) (by omega)
    show Went d (write d a.f a.n a.s).2 safe (safeOf (write d a.f a.n a.s).2 a (write d a.f a.n a.s).1 safe) _ (restOf a (write d a.f a.n a.s).1 _)
    rw [e1, e2]
    exact write_went h a (by omega) hn
  split
  · next hk => rw [hsame (by omega)]; exact flush_went h a hk
  split
  · next hk => rw [hsame (by omega)]; exact cut_went h a hk
  split
  · next hk => rw [hsame (by omega)]; exact turn_went h a hk
  rw [hsame (by omega)]
  have e1 := fun (d' : Disk) (e : E) => (hno d' e (by omega) (by omega)).1
  have e2 := fun (e : E) => (hno d e (by omega) (by omega)).2
  simp only [e1, e2]
  split
  · by_cases hd : d.down = true
    · have : crash d a.keep = d := by unfold crash; rw [if_pos hd]
      rw [this]
      exact .inl ⟨h, id⟩
    · have hd' : d.down = false := by simpa using hd
      obtain ⟨x, y, z⟩ := crash_here h hd' a.keep
      exact .inr ⟨hd', z, x, y⟩
  split
  · exact .inl ⟨⟨h.from_, h.safe_, h.down_⟩, id⟩
  split
  · exact .inl ⟨⟨h.from_, h.safe_, fun hd => by cases hd⟩, fun _ => rfl⟩
  split
  · exact .inl ⟨h, id⟩
  split
  · exact .inl ⟨⟨h.from_, h.safe_, h.down_⟩, id⟩
  · exact .inl ⟨h, id⟩
/-- Behind a crash all is durable. -/
theorem inv_after {d : Disk} (hq : d.queue = []) (safe : Nat → B) (hs : ∀ f, f < 12 → safe f = d.last f) : Inv (crash (start d) []) safe [] := by
  refine ⟨fun p hp => ?_, fun f hf => ?_, fun _ => rfl⟩
  · change p ∈ ([] : List Piece) at hp; cases hp
  · show safe f = overK f (d.last f) d.queue []
    rw [hq, hs f hf]
    rfl
theorem inv_new : Inv new (fun _ => []) [] := by
  refine ⟨fun p hp => ?_, fun _ _ => rfl, fun h => ?_⟩
  · cases hp
  · cases h
end Dk
end Go.Proofs.Ytbpodclodflgfaa
