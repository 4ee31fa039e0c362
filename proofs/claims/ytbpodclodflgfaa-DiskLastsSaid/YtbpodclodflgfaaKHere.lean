/-
  The plain part of layer 5, second: what a crash may leave of a file.
-/
import Derived.Test.YtbpodclodflgfaaKPlain
namespace Go.Proofs.Ytbpodclodflgfaa
open Go
namespace Dk
structure Act where
  do_ : Int
  f : Int
  g : Int
  n : Int
  s : B
  keep : List Int
/-- An act writes this byte at this place of the file. -/
def Hit (a : Act) (f : Nat) (i : Nat) (c : UInt8) : Prop := a.f = (f : Int) ∧ a.n ≤ (i : Int) ∧ a.s[((i : Int) - a.n).toNat]? = some c
def Here (s safe : B) (l : List Act) (f : Nat) : Prop :=
  safe.length ≤ s.length ∧ ∀ i c, s[i]? = some c → safe[i]? = some c ∨ (safe.length ≤ i ∧ c = 0) ∨ ∃ a ∈ l, Hit a f i c
def From (l : List Act) (p : Piece) : Prop := ∃ a ∈ l, a.f = (p.f : Int) ∧ ∀ j c, p.s[j]? = some c → Hit a p.f (p.at_ + j) c
theorem here_self (s : B) (l : List Act) (f : Nat) : Here s s l f := ⟨Nat.le_refl _, fun _ _ h => .inl h⟩
theorem From.mono {l l' : List Act} {p : Piece} (h : From l p) (hs : ∀ a ∈ l, a ∈ l') : From l' p := by
  obtain ⟨a, ha, h2⟩ := h
  exact ⟨a, hs a ha, h2⟩
theorem here_put {s safe t : B} {l : List Act} {p : Piece} (h : Here s safe l p.f) (hp : From l p) (ht : ∀ (j : Nat) (c : UInt8), t[j]? = some c → p.s[j]? = some c) : Here (put s p.at_ t) safe l p.f := by
  refine ⟨by rw [put_length]; have := h.1; omega, fun i c hc => ?_⟩
  rw [put_at] at hc
  by_cases h1 : p.at_ ≤ i ∧ i < p.at_ + t.length
  · rw [if_pos h1] at hc
    obtain ⟨a, ha, _, h2⟩ := hp
    have := h2 _ _ (ht _ _ hc)
    rw [show p.at_ + (i - p.at_) = i by omega] at this
    exact .inr (.inr ⟨a, ha, this⟩)
  · rw [if_neg h1] at hc
    by_cases h2 : i < s.length
    · rw [if_pos h2] at hc
      exact h.2 i c hc
    · rw [if_neg h2] at hc
      by_cases h3 : i < p.at_ + t.length
      · rw [if_pos h3] at hc
        injection hc with hc
        have := h.1
        exact .inr (.inl ⟨by omega, hc.symm⟩)
      · rw [if_neg h3] at hc; cases hc
theorem part_pre (p : Piece) (k : Option Int) : ∀ (j : Nat) (c : UInt8), (part p k)[j]? = some c → p.s[j]? = some c := by
  intro j c h
  unfold part at h
  split at h
  · exact h
  · split at h
    · rw [List.getElem?_take] at h
      split at h
      · exact h
      · cases h
    · simp at h
theorem here_overK {safe : B} {l : List Act} (f : Nat) : ∀ (q : List Piece) (ks : List Int) (s : B), Here s safe l f → (∀ p ∈ q, From l p) → Here (overK f s q ks) safe l f
  | [], ks, s, h, _ => by unfold overK; exact h
  | p :: q, [], s, h, _ => by unfold overK; exact h
  | p :: q, k :: ks, s, h, hq => by
    unfold overK
    refine here_overK f q ks _ ?_ (fun x hx => hq x (by simp [hx]))
    split
    · next hc =>
      obtain ⟨rfl, _⟩ := hc
      exact here_put h (hq p (by simp)) (part_pre p _)
    · exact h
theorem over_cons (f : Nat) (s : B) (p : Piece) (q : List Piece) : over f s (p :: q) = over f (if p.f = f then put s p.at_ p.s else s) q := rfl
theorem here_over {safe : B} {l : List Act} (f : Nat) : ∀ (q : List Piece) (s : B), Here s safe l f → (∀ p ∈ q, From l p) → Here (over f s q) safe l f
  | [], s, h, _ => h
  | p :: q, s, h, hq => by
    rw [over_cons]
    refine here_over f q _ ?_ (fun x hx => hq x (by simp [hx]))
    split
    · next hc =>
      subst hc
      exact here_put h (hq p (by simp)) (fun _ _ h => h)
    · exact h
theorem part_length (p : Piece) (k : Option Int) : (part p k).length ≤ p.s.length := by
  unfold part
  split
  · exact Nat.le_refl _
  · split <;> simp <;> omega
theorem over_length (f : Nat) : ∀ (q : List Piece) (s s' : B), s.length ≤ s'.length → (over f s q).length ≤ (over f s' q).length
  | [], s, s', h => h
  | p :: q, s, s', h => by
    rw [over_cons, over_cons]
    refine over_length f q _ _ ?_
    split
    · rw [put_length, put_length]; omega
    · exact h
theorem overK_length (f : Nat) : ∀ (q : List Piece) (ks : List Int) (s s' : B), s.length ≤ s'.length → (overK f s q ks).length ≤ (over f s' q).length
  | [], ks, s, s', h => by unfold overK; exact h
  | p :: q, [], s, s', h => by
    unfold overK
    have h1 : s'.length ≤ (over f s' (p :: q)).length := by
      have : ∀ (q : List Piece) (s : B), s.length ≤ (over f s q).length := by
        intro q
        induction q with
        | nil => exact fun s => Nat.le_refl _
        | cons p q ih =>
          intro s
          rw [over_cons]
          refine Nat.le_trans ?_ (ih _)
          split
          · rw [put_length]; omega
          · exact Nat.le_refl _
      exact this _ _
    omega
  | p :: q, k :: ks, s, s', h => by
    rw [over_cons]
    unfold overK
    refine overK_length f q ks _ _ ?_
    have := part_length p (some k)
    split
    · next hc =>
      rw [if_pos hc.1, put_length, put_length]; omega
    · split
      · rw [put_length]; omega
      · exact h
theorem pieces_of (f : Nat) : ∀ (n at_ : Nat) (s : B), ∀ p ∈ pieces f n at_ s, p.f = f ∧ ∃ k m, p.at_ = at_ + k ∧ p.s = (s.drop k).take m
  | 0, at_, s, p, hp => by simp [pieces] at hp
  | n + 1, at_, [], p, hp => by simp [pieces] at hp
  | n + 1, at_, c :: s, p, hp => by
    unfold pieces at hp
    rcases List.mem_cons.1 hp with rfl | hp
    · exact ⟨rfl, 0, 64 - at_ % 64, rfl, rfl⟩
    · obtain ⟨h1, k, m, h2, h3⟩ := pieces_of f n _ _ p hp
      exact ⟨h1, (64 - at_ % 64) + k, m, by omega, by rw [h3, List.drop_drop]⟩
theorem pieces_from {l : List Act} {a : Act} (ha : a ∈ l) (f at_ : Nat) (hf : a.f = (f : Int)) (hn : a.n = (at_ : Int)) (n : Nat) : ∀ p ∈ pieces f n at_ a.s, From l p := by
  intro p hp
  obtain ⟨h1, k, m, h2, h3⟩ := pieces_of f n at_ a.s p hp
  refine ⟨a, ha, by rw [hf, h1], fun j c hc => ⟨by rw [hf, h1], by omega, ?_⟩⟩
  rw [h3, List.getElem?_take] at hc
  split at hc
  · rw [List.getElem?_drop] at hc
    rw [show (((p.at_ + j : Nat) : Int) - a.n).toNat = k + j by omega]
    exact hc
  · cases hc
/-- What holds between two acts. -/
structure Inv (d : Disk) (safe : Nat → B) (since : List Act) : Prop where
  from_ : ∀ p ∈ d.queue, From since p
  safe_ : ∀ f, f < 12 → safe f = d.last f
  down_ : d.down = true → d.queue = []
theorem Inv.mono {d : Disk} {safe : Nat → B} {l l' : List Act} (h : Inv d safe l) (hs : ∀ a ∈ l, a ∈ l') : Inv d safe l' := ⟨fun p hp => (h.from_ p hp).mono hs, h.safe_, h.down_⟩
theorem Inv.armed {d : Disk} {safe : Nat → B} {l : List Act} (h : Inv d safe l) (n : Int) : Inv { d with armed := n } safe l := ⟨h.from_, h.safe_, h.down_⟩
theorem Inv.add {d : Disk} {safe : Nat → B} {l : List Act} (h : Inv d safe l) (hd : d.down = false) {a : Act} (ha : a ∈ l) {f at_ : Nat} (hf : a.f = (f : Int)) (hn : a.n = (at_ : Int)) : Inv (add d f at_ a.s) safe l := by
  refine ⟨fun p hp => ?_, h.safe_, fun h2 => ?_⟩
  · rcases List.mem_append.1 hp with hp | hp
    · exact h.from_ p hp
    · exact pieces_from ha f at_ hf hn _ p hp
  · change d.down = true at h2
    rw [hd] at h2; cases h2
theorem crash_here {d : Disk} {safe : Nat → B} {l : List Act} (h : Inv d safe l) (hd : d.down = false) (keep : List Int) : (∀ f, f < 12 → Here ((crash d keep).last f) (safe f) l f) ∧ (crash d keep).queue = [] ∧ (crash d keep).down = true := by
  unfold crash
  rw [hd]
  refine ⟨fun f hf => ?_, rfl, rfl⟩
  show Here (overK f (d.last f) d.queue keep) (safe f) l f
  rw [h.safe_ f hf]
  exact here_overK f _ _ _ (here_self _ _ _) h.from_
end Dk
end Go.Proofs.Ytbpodclodflgfaa
