/-
  The plain part of layer 5, fifth: DiskTurns and DiskLoses.
-/
import Derived.Test.YtbpodclodflgfaaKPut
namespace Go.Proofs.Ytbpodclodflgfaa
open Go
namespace Dk
/-- A calm machine that is up. -/
structure Calm (d : Disk) : Prop where
  down : d.down = false
  armed : d.armed = 0
theorem calm_new : Calm new := ⟨rfl, rfl⟩
theorem fits_of {at_ : Int} {s : B} (h0 : 0 ≤ at_) (h : at_ + s.length ≤ 16777216) : fits at_ s = true := by unfold fits; simp; omega
theorem without_nil (f : Nat) : without [] f = [] := rfl
theorem without_pieces (f n at_ : Nat) (s : B) : without (pieces f n at_ s) f = [] := by
  unfold without
  rw [List.filter_eq_nil_iff]
  intro p hp
  simp [(pieces_of f n at_ s p hp).1]
theorem read_new_write (d : Disk) (hq : d.queue = []) (f : Nat) (hl : d.last f = []) (s : B) : read (add d f 0 s) f = s := by
  by_cases hs : s = []
  · subst hs
    unfold read add
    show over f (d.last f) (d.queue ++ pieces f 0 0 []) = []
    rw [hq, pieces_nil, hl]; rfl
  · rw [read_add d f 0 s hs, read_quiet hq, hl]
    have := put_end [] s
    simpa using this
theorem pending_pieces (f : Nat) (s : B) (hs : s ≠ []) (q : List Piece) : pending (q ++ pieces f s.length 0 s) f = true := by
  unfold pending
  rw [List.any_append]
  cases s with
  | nil => exact absurd rfl hs
  | cons c t =>
    rw [Bool.or_eq_true]
    right
    rw [List.length_cons, pieces]
    · simp
    · intro h; cases h
theorem pending_nil (f : Nat) : pending [] f = false := rfl
/-- The machine behind the first write and flush of one file. -/
theorem wrote {d : Disk} (h : Calm d) (hq : d.queue = []) (hl : d.lost = 0) (f : Nat) (hf : f ≤ 11) (h0 : d.last f = []) (s : B) (hs : s.length ≤ 50000) :
    (write d (f : Int) 0 s) = (.ok, add d f 0 s) ∧ flush (add d f 0 s) (f : Int) = (.ok, { d with last := setLast d.last f s, queue := [] }) := by
  have e1 := calm_write h.down h.armed (f := (f : Int)) (at_ := 0) (by omega) (by omega) s (fits_of (by omega) (by omega))
  rw [Int.toNat_natCast, Int.toNat_zero] at e1
  refine ⟨e1, ?_⟩
  have e2 := calm_flush (d := add d f 0 s) h.down h.armed (f := (f : Int)) (by omega) (by omega) (by show d.lost ≤ 0; omega)
  rw [Int.toNat_natCast, read_new_write d hq f h0 s] at e2
  rw [e2]
  have : without (add d f 0 s).queue f = [] := by
    unfold add
    show without (d.queue ++ pieces f s.length 0 s) f = []
    rw [hq]
    exact without_pieces f _ _ s
  rw [this]
  rfl
theorem overK_other (f : Nat) : ∀ (q : List Piece) (ks : List Int) (s : B), (∀ p ∈ q, p.f ≠ f) → overK f s q ks = s
  | [], ks, s, _ => by unfold overK; rfl
  | p :: q, [], s, _ => by unfold overK; rfl
  | p :: q, k :: ks, s, h => by
    unfold overK
    rw [if_neg (fun hc => h p (by simp) hc.1)]
    exact overK_other f q ks s fun x hx => h x (by simp [hx])
theorem overK_nil (f : Nat) (s : B) (ks : List Int) : overK f s [] ks = s := by unfold overK; rfl
theorem crash_quiet {d : Disk} (hd : d.down = false) (hq : d.queue = []) (keep : List Int) (f : Nat) : read (start (crash d keep)) f = d.last f := by
  have : (start (crash d keep)).queue = [] := by unfold start crash; rw [hd]; rfl
  rw [read_quiet this]
  unfold start crash
  rw [hd]
  show overK f (d.last f) d.queue keep = _
  rw [hq, overK_nil]
/-- What becomes of the two files, whatever was turned. -/
theorem turn_done {d : Disk} (h : Calm d) (hq : d.queue = []) (keep : List Int) :
    (turn d 3 4).1 = .ok ∧ read (start (crash (turn d 3 4).2 keep)) 3 = d.last 4 ∧ read (start (crash (turn d 3 4).2 keep)) 4 = [] := by
  have e := calm_turn h.down h.armed (f := 3) (g := 4) (by omega) (by omega) (by omega) (by omega) (by omega)
  rw [hq] at e
  rw [if_neg (by rw [pending_nil]; decide)] at e
  rw [e]
  refine ⟨rfl, ?_, ?_⟩
  · exact crash_quiet (d := { d with last := setLast (setLast d.last 3 (d.last 4)) 4 [], queue := [] }) h.down rfl keep 3
  · exact crash_quiet (d := { d with last := setLast (setLast d.last 3 (d.last 4)) 4 [], queue := [] }) h.down rfl keep 4
theorem not_turned {d : Disk} (h : Calm d) (newer : B) (hne : newer ≠ []) (hq : d.queue = []) (h4 : d.last 4 = []) (keep : List Int) :
    (turn (add d 4 0 newer) 3 4).1 = .state ∧ read (start (crash (turn (add d 4 0 newer) 3 4).2 keep)) 3 = d.last 3 ∧ (read (start (crash (turn (add d 4 0 newer) 3 4).2 keep)) 4).length ≤ newer.length := by
  have e := calm_turn (d := add d 4 0 newer) h.down h.armed (f := 3) (g := 4) (by omega) (by omega) (by omega) (by omega) (by omega)
  have hp : pending (add d 4 0 newer).queue (4 : Int).toNat = true := pending_pieces 4 newer hne d.queue
  rw [if_pos hp] at e
  rw [e]
  have hqq : (add d 4 0 newer).queue = pieces 4 newer.length 0 newer := by unfold add; show d.queue ++ _ = _; rw [hq]; rfl
  have hs : ∀ f, read (start (crash (add d 4 0 newer) keep)) f = overK f (d.last f) (pieces 4 newer.length 0 newer) keep := by
    intro f
    have hq2 : (start (crash (add d 4 0 newer) keep)).queue = [] := by unfold start crash; rw [if_neg (by show ¬ d.down = true; rw [h.down]; decide)]
    rw [read_quiet hq2]
    unfold start crash
    rw [if_neg (by show ¬ d.down = true; rw [h.down]; decide)]
    show overK f ((add d 4 0 newer).last f) (add d 4 0 newer).queue keep = _
    rw [hqq]
    rfl
  refine ⟨rfl, ?_, ?_⟩
  · rw [hs 3]
    exact overK_other 3 _ _ _ fun p hp => by rw [(pieces_of 4 _ _ _ p hp).1]; decide
  · rw [hs 4, h4]
    refine Nat.le_trans (overK_length 4 _ keep [] [] (Nat.le_refl _)) ?_
    rw [over_pieces 4 _ 0 newer [] (Nat.le_refl _) hne, put_length]
    simp
end Dk
end Go.Proofs.Ytbpodclodflgfaa
