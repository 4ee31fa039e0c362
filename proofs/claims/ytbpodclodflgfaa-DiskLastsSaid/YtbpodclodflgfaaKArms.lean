/-
  The plain part of layer 5, sixth: DiskArms, write for write and flush for flush; DiskLoses.
-/
import Derived.Test.YtbpodclodflgfaaKTurns
namespace Go.Proofs.Ytbpodclodflgfaa
open Go
namespace Dk
/-- Between two calls of DiskArms, while the machine is up: calls of n were made. -/
structure AInv (d : Disk) (safe rest : B) (calls n : Int) (keep : List Int) : Prop where
  down : d.down = false
  armed : d.armed = n - calls
  more : calls < n
  keep_ : d.keep = keep
  lost : d.lost = 0
  last : d.last 0 = safe
  read_ : read d 0 = safe ++ rest
  queue : ∀ p ∈ d.queue, p.f = 0 ∧ safe.length ≤ p.at_
/-- What a crash leaves of the file. -/
def Left (z safe rest : B) (keep : List Int) : Prop := safe.length ≤ z.length ∧ z.length ≤ safe.length + rest.length ∧ z.take safe.length = safe ∧ (keep = [] → z = safe)
theorem put_take (s t : B) (at_ k : Nat) (h : k ≤ at_) (h2 : k ≤ s.length) : (put s at_ t).take k = s.take k := by
  refine List.ext_getElem? fun i => ?_
  rw [List.getElem?_take, List.getElem?_take]
  split
  · rw [put_at, if_neg (by omega), if_pos (by omega)]
  · rfl
theorem overK_take (f k : Nat) : ∀ (q : List Piece) (ks : List Int) (s : B), (∀ p ∈ q, k ≤ p.at_) → k ≤ s.length → (overK f s q ks).take k = s.take k ∧ k ≤ (overK f s q ks).length
  | [], ks, s, _, h => by unfold overK; exact ⟨rfl, h⟩
  | p :: q, [], s, _, h => by unfold overK; exact ⟨rfl, h⟩
  | p :: q, j :: ks, s, hq, h => by
    unfold overK
    have hq' : ∀ x ∈ q, k ≤ x.at_ := fun x hx => hq x (by simp [hx])
    by_cases hc : p.f = f ∧ (j = 1 ∨ j = 2)
    · rw [if_pos hc]
      obtain ⟨a, b⟩ := overK_take f k q ks (put s p.at_ (part p (some j))) hq' (by rw [put_length]; omega)
      exact ⟨a.trans (put_take _ _ _ _ (hq p (by simp)) h), b⟩
    · rw [if_neg hc]
      exact overK_take f k q ks s hq' h
theorem left_of (safe rest : B) (q : List Piece) (keep : List Int) (hq : ∀ p ∈ q, safe.length ≤ p.at_) (hr : over 0 safe q = safe ++ rest) : Left (overK 0 safe q keep) safe rest keep := by
  obtain ⟨a, b⟩ := overK_take 0 safe.length q keep safe hq (Nat.le_refl _)
  refine ⟨b, ?_, by rw [a, List.take_length], fun h => by subst h; cases q <;> (unfold overK; rfl)⟩
  have := overK_length 0 q keep safe safe (Nat.le_refl _)
  rw [hr, List.length_append] at this
  exact this
theorem arms_write {d : Disk} {safe rest : B} {calls n : Int} {keep : List Int} (h : AInv d safe rest calls n keep) (s : B) (hsz : safe.length + rest.length + s.length ≤ 100000) :
    (calls + 1 < n → (write d 0 ((safe.length + rest.length : Nat) : Int) s).1 = .ok ∧ AInv (write d 0 ((safe.length + rest.length : Nat) : Int) s).2 safe (rest ++ s) (calls + 1) n keep) ∧
    (calls + 1 = n → (write d 0 ((safe.length + rest.length : Nat) : Int) s).1 = .down ∧ (write d 0 ((safe.length + rest.length : Nat) : Int) s).2.down = true ∧ (write d 0 ((safe.length + rest.length : Nat) : Int) s).2.queue = [] ∧ Left ((write d 0 ((safe.length + rest.length : Nat) : Int) s).2.last 0) safe (rest ++ s) keep) := by
  have hfit : fits ((safe.length + rest.length : Nat) : Int) s = true := fits_of (by omega) (by omega)
  have hna : ¬ (d.down = true ∨ d.armed = 0) := by
    rw [h.down, h.armed]
    have := h.more
    intro h2
    rcases h2 with h2 | h2
    · cases h2
    · omega
  have hread : ∀ a : Int, over 0 (d.last 0) (d.queue ++ pieces 0 s.length (safe.length + rest.length) s) = safe ++ (rest ++ s) := by
    intro a
    rw [over_append]
    have hr := h.read_
    unfold read at hr
    rw [hr]
    by_cases hs : s = []
    · subst hs; rw [pieces_nil]; simp [over]
    · rw [over_pieces 0 _ _ _ _ (Nat.le_refl _) hs]
      have := put_end (safe ++ rest) s
      rw [List.length_append] at this
      rw [this, List.append_assoc]
  have hq : ∀ p ∈ d.queue ++ pieces 0 s.length (safe.length + rest.length) s, p.f = 0 ∧ safe.length ≤ p.at_ := by
    intro p hp
    rcases List.mem_append.1 hp with hp | hp
    · exact h.queue p hp
    · obtain ⟨h1, k, m, h2, _⟩ := pieces_of 0 _ _ s p hp
      exact ⟨h1, by omega⟩
  refine ⟨fun hc => ?_, fun hc => ?_⟩
  · have hcomes : comes d (some (0, ((safe.length + rest.length : Nat) : Int), s)) = { d with armed := d.armed - 1 } := by
      unfold comes
      rw [if_neg hna, if_pos (by rw [h.armed]; omega)]
    unfold write
    rw [hcomes]
    unfold writeB
    rw [may_file (d := { d with armed := d.armed - 1 }) h.down (by omega) (by omega), if_pos rfl, if_neg (by omega), if_pos hfit]
    refine ⟨rfl, ⟨h.down, ?_, hc, h.keep_, h.lost, h.last, ?_, ?_⟩⟩
    · show d.armed - 1 = n - (calls + 1)
      rw [h.armed]; omega
    · exact hread 0
    · exact hq
  · have hcomes : comes d (some (0, ((safe.length + rest.length : Nat) : Int), s)) = crash (add { d with armed := 0 } 0 (safe.length + rest.length) s) d.keep := by
      unfold comes
      rw [if_neg hna, if_neg (by rw [h.armed]; omega)]
      dsimp only
      rw [show (isFile 0 && fits ((safe.length + rest.length : Nat) : Int) s) = true from by rw [hfit]; rfl, if_pos rfl]
      rfl
    unfold write
    rw [hcomes]
    have hdown : (crash (add { d with armed := 0 } 0 (safe.length + rest.length) s) d.keep).down = true := by unfold crash; rw [if_neg (by show ¬ d.down = true; rw [h.down]; decide)]
    unfold writeB
    rw [may_down hdown, if_neg (by decide)]
    refine ⟨rfl, hdown, ?_, ?_⟩
    · unfold crash; rw [if_neg (by show ¬ d.down = true; rw [h.down]; decide)]
    · unfold crash
      rw [if_neg (by show ¬ d.down = true; rw [h.down]; decide)]
      show Left (overK 0 (d.last 0) (d.queue ++ pieces 0 s.length (safe.length + rest.length) s) d.keep) safe (rest ++ s) keep
      have hr := hread 0
      rw [h.last] at hr ⊢
      rw [h.keep_]
      exact left_of safe (rest ++ s) _ keep (fun p hp => (hq p hp).2) hr
theorem arms_flush {d : Disk} {safe rest : B} {calls n : Int} {keep : List Int} (h : AInv d safe rest calls n keep) :
    (calls + 1 < n → (flush d 0).1 = .ok ∧ AInv (flush d 0).2 (safe ++ rest) [] (calls + 1) n keep) ∧
    (calls + 1 = n → (flush d 0).1 = .down ∧ (flush d 0).2.down = true ∧ (flush d 0).2.queue = [] ∧ Left ((flush d 0).2.last 0) safe rest keep) := by
  have hna : ¬ (d.down = true ∨ d.armed = 0) := by
    rw [h.down, h.armed]
    have := h.more
    intro h2
    rcases h2 with h2 | h2
    · cases h2
    · omega
  refine ⟨fun hc => ?_, fun hc => ?_⟩
  · have hcomes : comes d none = { d with armed := d.armed - 1 } := by
      unfold comes
      rw [if_neg hna, if_pos (by rw [h.armed]; omega)]
    have hq : without d.queue 0 = [] := by
      unfold without
      rw [List.filter_eq_nil_iff]
      intro p hp
      simp [(h.queue p hp).1]
    have hr : read { d with armed := d.armed - 1 } 0 = safe ++ rest := h.read_
    unfold flush
    rw [hcomes]
    unfold flushB
    rw [may_file (d := { d with armed := d.armed - 1 }) h.down (by omega) (by omega), if_pos rfl, if_neg (by show ¬ 0 < d.lost; rw [h.lost]; omega)]
    refine ⟨rfl, ⟨h.down, ?_, hc, h.keep_, h.lost, ?_, ?_, ?_⟩⟩
    · show d.armed - 1 = n - (calls + 1)
      rw [h.armed]; omega
    · exact hr
    · show over 0 (setLast d.last 0 (read { d with armed := d.armed - 1 } 0) 0) (without d.queue 0) = _
      rw [hq, hr, List.append_nil]
      rfl
    · show ∀ p ∈ without d.queue 0, _
      rw [hq]
      intro p hp; cases hp
  · have hcomes : comes d none = crash { d with armed := 0 } d.keep := by
      unfold comes
      rw [if_neg hna, if_neg (by rw [h.armed]; omega)]
    unfold flush
    rw [hcomes]
    have hdown : (crash { d with armed := 0 } d.keep).down = true := by unfold crash; rw [if_neg (by show ¬ d.down = true; rw [h.down]; decide)]
    unfold flushB
    rw [may_down hdown, if_neg (by decide)]
    refine ⟨rfl, hdown, ?_, ?_⟩
    · unfold crash; rw [if_neg (by show ¬ d.down = true; rw [h.down]; decide)]
    · unfold crash
      rw [if_neg (by show ¬ d.down = true; rw [h.down]; decide)]
      show Left (overK 0 (d.last 0) d.queue d.keep) safe rest keep
      have hr := h.read_
      unfold read at hr
      rw [h.last] at hr ⊢
      rw [h.keep_]
      exact left_of safe rest _ keep (fun p hp => (h.queue p hp).2) hr
theorem arms_new (n : Int) (hn : 1 ≤ n) (keep : List Int) : AInv (arm new n keep) [] [] 0 n keep :=
  ⟨rfl, by show max n 0 = n - 0; omega, by omega, rfl, rfl, rfl, rfl, fun p hp => by cases hp⟩
/-- DiskLoses: the machine with one write and lost flushes due. -/
theorem loses_round (s : B) (n : Int) (hn : 0 < n) :
    flush { add new 0 0 s with lost := n } 0 = (.lost, { add new 0 0 s with lost := n - 1 }) ∧
    read (start (crash { add new 0 0 s with lost := n } [])) 0 = [] := by
  refine ⟨?_, ?_⟩
  · exact calm_lost (d := { add new 0 0 s with lost := n }) rfl rfl (f := 0) (by omega) (by omega) hn
  · have hq : (start (crash { add new 0 0 s with lost := n } [])).queue = [] := rfl
    rw [read_quiet hq]
    show overK 0 [] _ [] = []
    cases (add new 0 0 s).queue <;> (unfold overK; rfl)
end Dk
end Go.Proofs.Ytbpodclodflgfaa
