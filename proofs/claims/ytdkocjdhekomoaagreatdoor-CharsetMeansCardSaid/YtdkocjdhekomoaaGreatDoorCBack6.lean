/-
  Base64 is decoded to what went in, plainly.
-/
import Derived.Test.YtdkocjdhekomoaaGreatDoorCBackP
namespace Go.Proofs.YtdkocjdhekomoaaGreatDoor
open Go
namespace Cd
theorem cnt_step {n len : Nat} (hn : 0 < n) (hl : 0 < len) : cnt n len = cnt n (len - n) + 1 := by
  by_cases h : n ≤ len
  · unfold cnt
    obtain ⟨m, rfl⟩ : ∃ m, len = m + n := ⟨len - n, by omega⟩
    rw [Nat.add_sub_cancel, show m + n + n - 1 = (m + n - 1) + n by omega, Nat.add_div_right _ hn]
  · have h1 : cnt n (len - n) = 0 := by
      have : len - n = 0 := by omega
      rw [this]; unfold cnt
      exact Nat.div_eq_of_lt (by omega)
    have h2 : cnt n len = 1 := by
      unfold cnt
      obtain ⟨m, rfl⟩ : ∃ m, len = m + 1 := ⟨len - 1, by omega⟩
      rw [show m + 1 + n - 1 = m + n by omega, Nat.add_div_right _ hn, Nat.div_eq_of_lt (by omega)]
    omega
theorem parts_step {n len : Nat} (hn : 0 < n) (hl : 0 < len) : parts n len = (0, min n len) :: (parts n (len - n)).map fun x => (x.1 + n, x.2) := by
  rw [parts_eq, cnt_step hn hl, List.range_succ_eq_map, List.map_cons, List.map_map, parts_eq, List.map_map]
  congr 1
  · simp
  · apply List.map_congr_left
    intro k _
    simp only [Function.comp_apply]
    rw [Nat.succ_mul, show len - (k * n + n) = len - n - k * n by omega]
theorem parts_nil (n : Nat) (hn : 0 < n) : parts n 0 = [] := by
  rw [parts_eq, show cnt n 0 = 0 from Nat.div_eq_of_lt (by omega)]; rfl
theorem part_shift (l : List UInt8) (n : Nat) (x : Nat × Nat) : part l (x.1 + n, x.2) = part (l.drop n) x := by
  unfold part
  rw [List.drop_drop, Nat.add_comm n x.1]
theorem part_first (l : List UInt8) (n : Nat) : part l (0, min n l.length) = l.take n := by
  unfold part
  rw [List.drop_zero]
  by_cases h : n ≤ l.length
  · rw [Nat.min_eq_left h]
  · rw [Nat.min_eq_right (by omega), List.take_of_length_le (Nat.le_refl _), List.take_of_length_le (by omega)]
theorem flat_step (f : List UInt8 → List UInt8) (n : Nat) (hn : 0 < n) (l : List UInt8) (hl : l ≠ []) :
    ((parts n l.length).map fun x => f (part l x)).flatten = f (l.take n) ++ ((parts n (l.drop n).length).map fun x => f (part (l.drop n) x)).flatten := by
  have h0 : 0 < l.length := List.length_pos_iff.2 hl
  rw [parts_step hn h0, List.map_cons, List.flatten_cons, part_first, List.map_map, List.length_drop]
  congr 2
  apply List.map_congr_left
  intro x _
  show f (part l (x.1 + n, x.2)) = _
  rw [part_shift]
theorem line_nil : b64line [] = [] := rfl
theorem base_nil : base64 [] = [] := rfl
theorem line_step (l : List UInt8) (hl : l ≠ []) : b64line l = grp (l.take 3) ++ b64line (l.drop 3) := flat_step grp 3 (by decide) l hl
theorem base_step (l : List UInt8) (hl : l ≠ []) : base64 l = (b64line (l.take 57) ++ [10]) ++ base64 (l.drop 57) := flat_step (fun x => b64line x ++ [10]) 57 (by decide) l hl
theorem line_append : ∀ (n : Nat) (a b : List UInt8), a.length ≤ n → a.length % 3 = 0 → b64line (a ++ b) = b64line a ++ b64line b := by
  intro n
  induction n using Nat.strongRecOn with
  | ind n ih =>
    intro a b ha h3
    by_cases h0 : a = []
    · subst h0; rfl
    · have hp : 0 < a.length := List.length_pos_iff.2 h0
      have h3' : 3 ≤ a.length := by omega
      have hab : a ++ b ≠ [] := by intro e; exact h0 (List.append_eq_nil_iff.1 e).1
      rw [line_step (a ++ b) hab, line_step a h0, List.take_append_of_le_length h3', List.drop_append_of_le_length h3', ih (n - 3) (by omega) (a.drop 3) b (by rw [List.length_drop]; omega) (by rw [List.length_drop]; omega), List.append_assoc]

/-- The digits. -/
theorem digit_is (n : Nat) : val64 (dig64 n) = some (UInt8.ofNat (n % 64)) := by
  have H : ∀ k : Fin 64, val64 ((digF digs 64 (UInt8.ofNat k.val)).getD 0) = some (UInt8.ofNat k.val) := by decide +kernel
  exact H ⟨n % 64, Nat.mod_lt _ (by decide)⟩
theorem digit_val (n : Nat) : (((val64 (dig64 n)).getD 0).toNat) = n % 64 := by
  rw [digit_is]
  simp
  omega
theorem digit_yes (n : Nat) : isDig64 (dig64 n) = true := by unfold isDig64; rw [digit_is]; rfl
theorem digit_not_white {c : UInt8} (h : isDig64 c = true) : Tx.isW c = false := by
  have H : ∀ k : Fin 256, isDig64 (UInt8.ofNat k.val) = true → Tx.isW (UInt8.ofNat k.val) = false := by decide +kernel
  have := H ⟨c.toNat, UInt8.toNat_lt c⟩
  simp only [UInt8.ofNat_toNat] at this
  exact this h
theorem pad_not : isDig64 61 = false := by decide +kernel
def from_ (st : St) (ds : List UInt8) : St := ds.foldl (fun st c => st.step ((val64 c).getD 0)) st
theorem from_append (st : St) (a b : List UInt8) : from_ st (a ++ b) = from_ (from_ st a) b := List.foldl_append
theorem byte_of {n : Nat} {c : UInt8} (h : n = c.toNat) : UInt8.ofNat n = c := by subst h; simp
theorem step_none {g : Nat} {o : List UInt8} {v : UInt8} : St.step ⟨g, 0, o⟩ v = ⟨(g * 64 + v.toNat) % 4294967296, 6, o⟩ := rfl
theorem step_6 {g : Nat} {o : List UInt8} {v : UInt8} : St.step ⟨g, 6, o⟩ v = ⟨(g * 64 + v.toNat) % 4294967296, 4, o ++ [UInt8.ofNat ((g * 64 + v.toNat) % 4294967296 / 16 % 256)]⟩ := rfl
theorem step_4 {g : Nat} {o : List UInt8} {v : UInt8} : St.step ⟨g, 4, o⟩ v = ⟨(g * 64 + v.toNat) % 4294967296, 2, o ++ [UInt8.ofNat ((g * 64 + v.toNat) % 4294967296 / 4 % 256)]⟩ := rfl
theorem step_2 {g : Nat} {o : List UInt8} {v : UInt8} : St.step ⟨g, 2, o⟩ v = ⟨(g * 64 + v.toNat) % 4294967296, 0, o ++ [UInt8.ofNat ((g * 64 + v.toNat) % 4294967296 / 1 % 256)]⟩ := rfl
theorem two_digits (g : Nat) (o : List UInt8) (N : Nat) (a : UInt8) (h : N / 65536 = a.toNat) (hN : N < 16777216) :
    ∃ g', from_ ⟨g, 0, o⟩ [dig64 (N / 262144), dig64 (N / 4096)] = ⟨g', 4, o ++ [a]⟩ ∧ g' % 16 = N / 4096 % 16 := by
  refine ⟨_, by
    show St.step (St.step ⟨g, 0, o⟩ _) _ = _
    rw [step_none, step_6, digit_val, digit_val, byte_of (c := a) (by omega)], by omega⟩
theorem three_digits (g : Nat) (o : List UInt8) (N : Nat) (a b : UInt8) (h : N / 65536 = a.toNat) (h2 : N / 256 % 256 = b.toNat) (hN : N < 16777216) :
    ∃ g', from_ ⟨g, 0, o⟩ [dig64 (N / 262144), dig64 (N / 4096), dig64 (N / 64)] = ⟨g', 2, o ++ [a, b]⟩ ∧ g' % 4 = N / 64 % 4 := by
  obtain ⟨g1, e1, hg1⟩ := two_digits g o N a h hN
  refine ⟨_, by
    rw [show [dig64 (N / 262144), dig64 (N / 4096), dig64 (N / 64)] = [dig64 (N / 262144), dig64 (N / 4096)] ++ [dig64 (N / 64)] from rfl, from_append, e1]
    show St.step ⟨g1, 4, _⟩ _ = _
    rw [step_4, digit_val, byte_of (c := b) (by omega), List.append_assoc]; rfl, by omega⟩
theorem four_digits (g : Nat) (o : List UInt8) (N : Nat) (a b c : UInt8) (h : N / 65536 = a.toNat) (h2 : N / 256 % 256 = b.toNat) (h3 : N % 256 = c.toNat) (hN : N < 16777216) :
    ∃ g', from_ ⟨g, 0, o⟩ [dig64 (N / 262144), dig64 (N / 4096), dig64 (N / 64), dig64 N] = ⟨g', 0, o ++ [a, b, c]⟩ := by
  obtain ⟨g1, e1, hg1⟩ := three_digits g o N a b h h2 hN
  refine ⟨_, by
    rw [show [dig64 (N / 262144), dig64 (N / 4096), dig64 (N / 64), dig64 N] = [dig64 (N / 262144), dig64 (N / 4096), dig64 (N / 64)] ++ [dig64 N] from rfl, from_append, e1]
    show St.step ⟨g1, 2, _⟩ _ = _
    rw [step_2, digit_val, byte_of (c := c) (by omega), List.append_assoc]; rfl⟩
theorem grp_one (a : UInt8) : grp [a] = [dig64 (a.toNat * 65536 / 262144), dig64 (a.toNat * 65536 / 4096), 61, 61] := by
  simp [grp, chr4, num3]
theorem grp_two (a b : UInt8) : grp [a, b] = [dig64 ((a.toNat * 65536 + b.toNat * 256) / 262144), dig64 ((a.toNat * 65536 + b.toNat * 256) / 4096), dig64 ((a.toNat * 65536 + b.toNat * 256) / 64), 61] := by
  simp [grp, chr4, num3]
/-- The digits of a text, and what completes them. -/
theorem line_digits : ∀ (n : Nat) (l : List UInt8), l.length ≤ n → ∃ D : List UInt8, b64line l = D ++ List.replicate (missing D.length) 61 ∧ (∀ c ∈ D, isDig64 c = true) ∧ missing D.length < 3 ∧ (missing D.length = 0 ↔ l.length % 3 = 0) ∧
    ∀ g o, ∃ st : St, from_ ⟨g, 0, o⟩ D = st ∧ st.out = o ++ l := by
  intro n
  induction n using Nat.strongRecOn with
  | ind n ih =>
    intro l hl
    match l, hl with
    | [], _ => exact ⟨[], rfl, by simp, by decide, by decide, fun g o => ⟨_, rfl, by simp [from_]⟩⟩
    | [a], _ =>
      have ha := a.toNat_lt
      refine ⟨[dig64 (a.toNat * 65536 / 262144), dig64 (a.toNat * 65536 / 4096)], ?_, ?_, by simp [missing], by simp [missing], fun g o => ?_⟩
      · rw [line_step _ (by simp), show [a].take 3 = [a] from rfl, show [a].drop 3 = [] from rfl, grp_one]; rfl
      · intro c hc
        rcases List.mem_cons.1 hc with rfl | hc
        · exact digit_yes _
        · rw [List.mem_singleton] at hc; subst hc; exact digit_yes _
      · obtain ⟨g', e, _⟩ := two_digits g o (a.toNat * 65536) a (by omega) (by omega)
        exact ⟨_, e, rfl⟩
    | [a, b], _ =>
      have ha := a.toNat_lt
      have hb := b.toNat_lt
      refine ⟨[dig64 ((a.toNat * 65536 + b.toNat * 256) / 262144), dig64 ((a.toNat * 65536 + b.toNat * 256) / 4096), dig64 ((a.toNat * 65536 + b.toNat * 256) / 64)], ?_, ?_, by simp [missing], by simp [missing], fun g o => ?_⟩
      · rw [line_step _ (by simp), show [a, b].take 3 = [a, b] from rfl, show [a, b].drop 3 = [] from rfl, grp_two]; rfl
      · intro c hc
        rcases List.mem_cons.1 hc with rfl | hc
        · exact digit_yes _
        · rcases List.mem_cons.1 hc with rfl | hc
          · exact digit_yes _
          · rw [List.mem_singleton] at hc; subst hc; exact digit_yes _
      · obtain ⟨g', e, _⟩ := three_digits g o (a.toNat * 65536 + b.toNat * 256) a b (by omega) (by omega) (by omega)
        exact ⟨_, e, rfl⟩
    | a :: b :: c :: r, hl =>
      have ha := a.toNat_lt
      have hb := b.toNat_lt
      have hc := c.toNat_lt
      simp only [List.length_cons] at hl
      obtain ⟨D, h1, h2, h3, h4, h5⟩ := ih (n - 3) (by omega) r (by omega)
      obtain ⟨N, hN⟩ : ∃ N, a.toNat * 65536 + b.toNat * 256 + c.toNat = N := ⟨_, rfl⟩
      have hm : missing ([dig64 (N / 262144), dig64 (N / 4096), dig64 (N / 64), dig64 N] ++ D).length = missing D.length := by
        unfold missing
        rw [List.length_append]
        simp only [List.length_cons, List.length_nil]
        omega
      refine ⟨[dig64 (N / 262144), dig64 (N / 4096), dig64 (N / 64), dig64 N] ++ D, ?_, ?_, by rw [hm]; exact h3, by rw [hm, h4]; simp only [List.length_cons]; omega, fun g o => ?_⟩
      · rw [line_step _ (by simp), hm, List.append_assoc, ← h1, ← hN]
        rw [show (a :: b :: c :: r).drop 3 = r from rfl]
        congr 1
        show [dig64 (_ / 2 ^ 18), dig64 (_ / 2 ^ 12), dig64 (_ / 2 ^ 6), dig64 (_ / 2 ^ 0)] = _
        rw [Nat.pow_zero, Nat.div_one]
        rfl
      · intro d hd
        rcases List.mem_append.1 hd with hd | hd
        · simp only [List.mem_cons, List.not_mem_nil, or_false] at hd
          rcases hd with rfl | rfl | rfl | rfl <;> exact digit_yes _
        · exact h2 d hd
      · obtain ⟨g', e⟩ := four_digits g o N a b c (by omega) (by omega) (by omega) (by omega)
        obtain ⟨st, e2, h6⟩ := h5 g' (o ++ [a, b, c])
        refine ⟨st, by rw [from_append, e, e2], by rw [h6]; simp⟩
theorem bare_dig {D : List UInt8} (h : ∀ c ∈ D, isDig64 c = true) : bare D = D := List.filter_eq_self.2 fun c hc => by rw [digit_not_white (h c hc)]; rfl
theorem bare_append (a b : List UInt8) : bare (a ++ b) = bare a ++ bare b := List.filter_append ..
theorem bare_line (l : List UInt8) : bare (b64line l) = b64line l := by
  obtain ⟨D, h1, h2, _⟩ := line_digits _ l (Nat.le_refl _)
  rw [h1, bare_append, bare_dig h2]
  congr 1
  refine List.filter_eq_self.2 fun c hc => ?_
  rw [List.eq_of_mem_replicate hc]; rfl
theorem bare_base : ∀ (n : Nat) (l : List UInt8), l.length ≤ n → bare (base64 l) = b64line l := by
  intro n
  induction n using Nat.strongRecOn with
  | ind n ih =>
    intro l hl
    by_cases h0 : l = []
    · subst h0; rfl
    · have hp : 0 < l.length := List.length_pos_iff.2 h0
      rw [base_step l h0, bare_append, bare_append, bare_line]
      have e10 : bare [10] = [] := rfl
      rw [e10, List.append_nil]
      by_cases h57 : l.length ≤ 57
      · rw [List.take_of_length_le h57, List.drop_eq_nil_of_le h57]
        show _ ++ bare [] = _
        rw [show bare [] = [] from rfl, List.append_nil]
      · rw [ih (n - 57) (by omega) (l.drop 57) (by rw [List.length_drop]; omega), ← line_append _ (l.take 57) (l.drop 57) (Nat.le_refl _) (by rw [List.length_take]; omega), List.take_append_drop]
/-- Decoding what has these digits, and then something else. -/
theorem unb_of {t D R : List UInt8} (ht : bare t = D ++ R) (hD : ∀ c ∈ D, isDig64 c = true) (hR : ∀ c, R.head? = some c → isDig64 c = false) :
    unbase64 t = ((decode D).out, decide (missing D.length < 3) && (R == List.replicate (missing D.length) 61)) := by
  have e : (D ++ R).takeWhile isDig64 = D := by
    rw [List.takeWhile_append_of_pos hD]
    cases R with
    | nil => simp
    | cons c r =>
      have := hR c rfl
      simp [this]
  unfold unbase64
  rw [ht]
  simp only [e, List.drop_left]
theorem pad_head (k : Nat) : ∀ c, (List.replicate k (61 : UInt8)).head? = some c → isDig64 c = false := by
  intro c hc
  cases k with
  | zero => cases hc
  | succ k => rw [List.replicate_succ, List.head?_cons] at hc; cases hc; exact pad_not
theorem decode_digits {D l : List UInt8} (h : ∀ g o, ∃ st : St, from_ ⟨g, 0, o⟩ D = st ∧ st.out = o ++ l) : (decode D).out = l := by
  obtain ⟨st, h1, h2⟩ := h 0 []
  show (from_ ⟨0, 0, []⟩ D).out = l
  rw [h1, h2]; rfl
theorem unb_base (l : List UInt8) (t : List UInt8) (h : bare t = b64line l) : unbase64 t = (l, true) := by
  obtain ⟨D, h1, h2, h3, _, h5⟩ := line_digits _ l (Nat.le_refl _)
  rw [unb_of (h.trans h1) h2 (pad_head _), decode_digits h5, decide_eq_true h3]
  simp
theorem unb_base64 (l : List UInt8) : unbase64 (base64 l) = (l, true) := unb_base l _ (bare_base _ l (Nat.le_refl _))
end Cd
end Go.Proofs.YtdkocjdhekomoaaGreatDoor
