/-
  What Write writes is read as a header, plainly: the lines of a field, and Parse over them.
-/
import Derived.Test.YtliadekcbkedmaaDoorFPw
namespace Go.Proofs.YtliadekcbkedmaaDoor
namespace Hd
theorem Pure.take {s : List UInt8} (h : Pure s) (k : Nat) : Pure (s.take k) := fun c hc => h c (List.mem_of_mem_take hc)
theorem Pure.drop {s : List UInt8} (h : Pure s) (k : Nat) : Pure (s.drop k) := fun c hc => h c (List.mem_of_mem_drop hc)
theorem blank_take {s : List UInt8} {k : Nat} (h : s.head? = some 32) (hk : 1 ≤ k) : blankHead (s.take k) = true := by
  cases s with
  | nil => cases h
  | cons c r =>
    cases h
    obtain ⟨k, rfl⟩ : ∃ j, k = j + 1 := ⟨k - 1, by omega⟩
    rfl
/-- The first line, and that the further lines begin with a space. -/
theorem lines_shape : ∀ (n : Nat) (s : List UInt8) (least : Nat), s.length ≤ n → 1 ≤ least → least ≤ 998 → Pure s →
    ∃ p r, linesG least s = s.take p :: r ∧ (least ≤ p ∨ s.length ≤ p) ∧ 1 ≤ p ∧ ∀ x ∈ r, blankHead x = true ∧ Pure x := by
  intro n
  induction n with
  | zero =>
    intro s least hs hl hl2 hP
    have : s = [] := List.eq_nil_of_length_eq_zero (by omega)
    subst this
    exact ⟨1, [], by rw [linesG_step hl, if_pos (by simp)]; rfl, .inr (by simp), Nat.le_refl _, fun x hx => by cases hx⟩
  | succ n ih =>
    intro s least hs hl hl2 hP
    have whole : ∃ p r, [s] = s.take p :: r ∧ (least ≤ p ∨ s.length ≤ p) ∧ 1 ≤ p ∧ ∀ x ∈ r, blankHead x = true ∧ Pure x :=
      ⟨s.length + 1, [], by rw [List.take_of_length_le (by omega)], .inr (by omega), by omega, fun x hx => by cases hx⟩
    -- the lines of a rest that begins with a space
    have rest : ∀ u : List UInt8, u.length ≤ n → u.head? = some 32 → Pure u → ∀ x ∈ linesG 1 u, blankHead x = true ∧ Pure x := fun u hu h32 hPu x hx => by
      obtain ⟨p, r, e, _, hp1, hr⟩ := ih u 1 hu (Nat.le_refl _) (by omega) hPu
      rw [e] at hx
      rcases List.mem_cons.1 hx with rfl | hx
      · exact ⟨blank_take h32 hp1, hPu.take p⟩
      · exact hr x hx
    rw [linesG_step hl]
    split
    · exact whole
    · split
      · rename_i hp
        rcases place_is s least hl with ⟨h0, _⟩ | ⟨_, h1, h2, h3, _⟩
        · omega
        · have hf := isFold_lt h1
          refine ⟨place s least, _, rfl, .inl h2, by omega, rest _ (by rw [List.length_drop]; omega) ?_ (hP.drop _)⟩
          rw [List.head?_drop]
          exact hf.2.2.1
      · split
        · exact whole
        · rename_i h998
          refine ⟨998, _, rfl, .inl hl2, by omega, rest _ (by rw [List.length_cons, List.length_drop]; omega) rfl ?_⟩
          intro c hc
          rcases List.mem_cons.1 hc with rfl | hc
          · decide
          · exact hP.drop 998 c hc
theorem unbroken_pure (v : List UInt8) : Pure (unbroken v) := fun c hc => by
  unfold unbroken at hc
  obtain ⟨d, _, rfl⟩ := List.mem_map.1 hc
  split
  · decide
  · rename_i h
    exact ⟨fun e => h (.inr e), fun e => h (.inl e)⟩
theorem trim_pure {v : List UInt8} (h : Pure v) : Pure (Tx.trim v) := fun c hc => by
  refine h c ?_
  have h1 : c ∈ Lib.trimRightS v [9, 10, 13, 32] := (List.dropWhile_sublist _).subset hc
  unfold Lib.trimRightS at h1
  have h2 := (List.dropWhile_sublist (l := v.reverse) (fun c => [9, 10, 13, 32].contains c)).subset (List.mem_reverse.1 h1)
  exact List.mem_reverse.1 h2
theorem head_pure {f : Fd} (h : named f.1 = true) : Pure (head f) := fun c hc => by
  have hn := named_of h
  unfold head at hc
  rcases List.mem_append.1 hc with hc | hc
  · have := hn.2.2 c hc
    constructor <;> (rintro rfl; exact absurd this.1 (by decide))
  · rcases List.mem_cons.1 hc with rfl | hc
    · decide
    · split at hc
      · cases hc
      · rcases List.mem_cons.1 hc with rfl | hc
        · decide
        · exact trim_pure (unbroken_pure f.2) c hc
/-- The first line of a field holds its name. -/
theorem first_line {f : Fd} {p : Nat} (hp : f.1.length + 2 ≤ p ∨ (head f).length ≤ p) : ∃ r, (head f).take p = f.1 ++ 58 :: r := by
  unfold head at hp ⊢
  rw [List.length_append, List.length_cons] at hp
  have h1 : f.1.length + 1 ≤ p := by omega
  generalize (if Tx.trim (unbroken f.2) = [] then [] else 32 :: Tx.trim (unbroken f.2)) = Z
  refine ⟨Z.take (p - f.1.length - 1), ?_⟩
  rw [List.take_append, List.take_of_length_le (by omega)]
  obtain ⟨k, hk⟩ : ∃ k, p - f.1.length = k + 1 := ⟨p - f.1.length - 1, by omega⟩
  rw [hk, List.take_succ_cons, Nat.add_sub_cancel]
/-- What Parse makes of a field that Write wrote. -/
theorem parse_written (fs : List Fd) {f : Fd} (hn : named f.1 = true) (hl : fs.length < 400) : ∃ v, ∀ t, parseG fs (writeField f ++ t) = parseG (fs ++ [(f.1, v)]) t := by
  have hN := named_of hn
  obtain ⟨p, r, e, hp, _, hr⟩ := lines_shape _ (head f) (f.1.length + 2) (Nat.le_refl _) (by omega) (by omega) (head_pure hn)
  obtain ⟨q, hq⟩ := first_line hp
  refine ⟨conts (Tx.trim q) r, fun t => ?_⟩
  have hpure : Pure (f.1 ++ 58 :: q) := by rw [← hq]; exact (head_pure hn).take p
  unfold writeField
  rw [flines_G, e, hq]
  have e2 : ended ((f.1 ++ 58 :: q) :: r) ++ t = (f.1 ++ 58 :: q) ++ 10 :: (ended r ++ t) := by simp [ended]
  rw [e2, parse_field fs hn hpure hl, parse_conts fs t r _ hr]
/-- The same value whatever stands in front. -/
theorem written_val {f : Fd} (hn : named f.1 = true) : ∃ v, ∀ (fs : List Fd) (t : List UInt8), fs.length < 400 → parseG fs (writeField f ++ t) = parseG (fs ++ [(f.1, v)]) t := by
  have hN := named_of hn
  obtain ⟨p, r, e, hp, _, hr⟩ := lines_shape _ (head f) (f.1.length + 2) (Nat.le_refl _) (by omega) (by omega) (head_pure hn)
  obtain ⟨q, hq⟩ := first_line hp
  refine ⟨conts (Tx.trim q) r, fun fs t hl => ?_⟩
  have hpure : Pure (f.1 ++ 58 :: q) := by rw [← hq]; exact (head_pure hn).take p
  unfold writeField
  rw [flines_G, e, hq]
  have e2 : ended ((f.1 ++ 58 :: q) :: r) ++ t = (f.1 ++ 58 :: q) ++ 10 :: (ended r ++ t) := by simp [ended]
  rw [e2, parse_field fs hn hpure hl, parse_conts fs t r _ hr]
/-- What Parse makes of what Write wrote: the names of the fields that have one, in order. -/
theorem parse_write : ∀ (fs : List Fd), ∃ vs : List Fd, vs.map (·.1) = (fs.filter fun f => named f.1).map (·.1) ∧
    ∀ (gs : List Fd) (t : List UInt8), gs.length + fs.length ≤ 400 → parseG gs (write fs ++ t) = parseG (gs ++ vs) t
  | [] => ⟨[], rfl, fun gs t _ => by simp [write]⟩
  | f :: fs => by
    obtain ⟨vs, h1, h2⟩ := parse_write fs
    cases hn : named f.1 with
    | false =>
      refine ⟨vs, by simp [hn, h1], fun gs t hl => ?_⟩
      have e : write (f :: fs) = write fs := by simp [write, hn]
      rw [e, h2 gs t (by rw [List.length_cons] at hl; omega)]
    | true =>
      obtain ⟨v, hv⟩ := written_val hn
      refine ⟨(f.1, v) :: vs, by simp [hn, h1], fun gs t hl => ?_⟩
      have e : write (f :: fs) = writeField f ++ write fs := by simp [write, hn]
      rw [List.length_cons] at hl
      rw [e, List.append_assoc, hv gs _ (by omega), h2 _ t (by rw [List.length_append, List.length_singleton]; omega)]
      simp
end Hd
end Go.Proofs.YtliadekcbkedmaaDoor
