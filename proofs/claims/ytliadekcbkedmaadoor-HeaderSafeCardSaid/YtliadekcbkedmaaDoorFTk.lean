/-
  missiveref09.Token: Printable, has.
-/
import Derived.Test.YtliadekcbkedmaaDoorFQm
namespace Go.Proofs.YtliadekcbkedmaaDoor
open Go Go.RowKit Go.Shelf
namespace Hd
def inR (c : UInt8) : Bool := decide (33 ≤ c.toNat) && decide (c.toNat ≤ 126)
theorem inR_no {c : UInt8} (h : c.toNat < 33 ∨ 126 < c.toNat) : inR c = false := by
  unfold inR
  rcases h with h | h
  · rw [decide_eq_false (by omega)]; rfl
  · rw [decide_eq_false (p := c.toNat ≤ 126) (by omega), Bool.and_false]
theorem inR_yes {c : UInt8} (h : 33 ≤ c.toNat) (h2 : c.toNat ≤ 126) : inR c = true := by
  unfold inR; rw [decide_eq_true h, decide_eq_true h2]; rfl
def hasB (l s : List UInt8) : Bool := s.any l.contains
theorem drop_all {f : UInt8 → Bool} {S : List UInt8} {k : Nat} {c : UInt8} (h : S[k]? = some c) : (S.drop k).all f = (f c && (S.drop (k + 1)).all f) := by
  have hk : k < S.length := (List.getElem?_eq_some_iff.1 h).1
  have hck : S[k] = c := (List.getElem?_eq_some_iff.1 h).2
  rw [List.drop_eq_getElem_cons hk, hck, List.all_cons]
theorem drop_any {f : UInt8 → Bool} {S : List UInt8} {k : Nat} {c : UInt8} (h : S[k]? = some c) : (S.drop k).any f = (f c || (S.drop (k + 1)).any f) := by
  have hk : k < S.length := (List.getElem?_eq_some_iff.1 h).1
  have hck : S[k] = c := (List.getElem?_eq_some_iff.1 h).2
  rw [List.drop_eq_getElem_cons hk, hck, List.any_cons]
theorem contains_any (l : List UInt8) (c : UInt8) : l.contains c = l.any (fun d => d == c) := by
  induction l with
  | nil => rfl
  | cons a r ih => rw [List.any_cons, ← ih, List.contains_cons]; congr 1; exact Bool.beq_comm
theorem vis_parts (l s : List UInt8) : vis l s = (!s.isEmpty && s.all inR && !hasB l s) := by
  unfold vis hasB
  induction s with
  | nil => rfl
  | cons c r ih =>
    simp only [List.all_cons, List.any_cons, List.isEmpty_cons, Bool.not_false, Bool.and_true, Bool.true_and, Bool.not_or] at ih ⊢
    have h2 : r.all (visB l) = (r.all inR && !r.any l.contains) := by
      clear ih
      induction r with
      | nil => rfl
      | cons d t ih2 =>
        simp only [List.all_cons, List.any_cons, Bool.not_or]
        rw [ih2]
        unfold visB inR
        cases decide (33 ≤ d.toNat) <;> cases decide (d.toNat ≤ 126) <;> cases l.contains d <;> simp
    rw [h2]
    unfold visB inR
    cases decide (33 ≤ c.toNat) <;> cases decide (c.toNat ≤ 126) <;> cases l.contains c <;> simp
end Hd
set_option maxHeartbeats 2000000 in
set_option maxRecDepth 100000 in
theorem printable_any (s : ByteArray) (w : World) (hs : s.size ≤ 1000000) :
    Calls Tryd.prog 37 #[.string s] w fun e w' => e = .returned (.bool (s.data.toList.all Hd.inR)) ∧ w = w' := by
  obtain ⟨R, hR⟩ : ∃ R, s.data.toList.all Hd.inR = R := ⟨_, rfl⟩
  rw [hR]
  have HR := Lib.hid hR
  clear hR
  go_enter Tryd.func37, Tryd.ntmps37
  go_wp2
  go_loop [3] (fun i => ∃ k : Nat, i = .int .i64 k ∧ k ≤ s.size ∧ Hid ((s.data.toList.drop k).all Hd.inR = R)) (fun i => s.size - (intOf i).toNat)
  case atStart => exact ⟨0, rfl, Nat.zero_le _, HR.out⟩
  case round =>
    obtain ⟨k, rfl, hk, hI⟩ := hrel
    by_cases hlt : k < s.size
    · have hg := Tx.get_of s k hlt
      obtain ⟨c, hc⟩ : ∃ c, s[k] = c := ⟨_, rfl⟩
      rw [hc] at hg
      have hA := hI.out
      rw [Hd.drop_all hg] at hA
      by_cases h1 : c.toNat < 33
      · rw [Hd.inR_no (.inl h1), Bool.false_and] at hA
        have HF := Lib.hid hA
        clear hA hg hI
        have q1 : (c.toNat : Int) < 33 := by omega
        go_wp2
        go_ret
        exact ⟨retB HF.out, rfl⟩
      · have q1 : ¬ ((c.toNat : Int) < 33) := by omega
        by_cases h2 : 126 < c.toNat
        · rw [Hd.inR_no (.inr h2), Bool.false_and] at hA
          have HF := Lib.hid hA
          clear hA hg hI
          have q2 : (126 : Int) < (c.toNat : Int) := by omega
          go_wp2
          go_ret
          exact ⟨retB HF.out, rfl⟩
        · have q2 : ¬ ((126 : Int) < (c.toNat : Int)) := by omega
          rw [Hd.inR_yes (by omega) (by omega), Bool.true_and] at hA
          have HN := Lib.hid hA
          clear hA hg hI
          go_wp2
          go_round
          case rel => exact ⟨k + 1, by go_num, by omega, HN.out⟩
          case measure => simp [intOf]; omega
    · obtain rfl : k = s.size := by omega
      have hI2 := hI.out
      rw [Lib.size_eq, List.drop_length] at hI2
      have HN := Lib.hid hI2
      clear hI hI2
      go_wp2
      go_ret
      exact ⟨retB HN.out, rfl⟩
set_option maxHeartbeats 4000000 in
set_option maxRecDepth 100000 in
theorem has_any (s l : ByteArray) (w : World) (hs : s.size ≤ 1000000) (hl : l.size ≤ 1000000) :
    Calls Tryd.prog 38 #[.string s, .string l] w fun e w' => e = .returned (.bool (Hd.hasB l.data.toList s.data.toList)) ∧ Drew w w' := by
  obtain ⟨R, hR⟩ : ∃ R, Hd.hasB l.data.toList s.data.toList = R := ⟨_, rfl⟩
  rw [hR]
  have HR := Lib.hid hR
  clear hR
  go_enter Tryd.func38, Tryd.ntmps38
  go_wp2
  go_loopw [5] (fun i wr => ∃ k : Nat, i = .int .i64 k ∧ k ≤ s.size ∧ Hid ((s.data.toList.drop k).any l.data.toList.contains = R) ∧ Hid (Drew w wr)) (fun i _ => s.size - (intOf i).toNat)
  case atStart => exact ⟨0, rfl, Nat.zero_le _, HR.out, ⟨0, rfl⟩⟩
  case round =>
    obtain ⟨k, rfl, hk, hI, hD⟩ := hrel
    by_cases hlt : k < s.size
    · have hg := Tx.get_of s k hlt
      obtain ⟨c, hc⟩ : ∃ c, s[k] = c := ⟨_, rfl⟩
      rw [hc] at hg
      have hA := hI.out
      rw [Hd.drop_any hg] at hA
      obtain ⟨b, hb⟩ : ∃ b, (s.data.toList.drop (k + 1)).any l.data.toList.contains = b := ⟨_, rfl⟩
      rw [hb] at hA
      have HA := Lib.hid hA
      have HB := Lib.hid hb
      have HD0 := Lib.hid hD.out
      clear hA hb hg hI hD
      go_wp2
      go_loopw [6] (fun i wi => ∃ j : Nat, i = .int .i64 j ∧ j ≤ l.size ∧ Hid (((l.data.toList.drop j).any (fun d => d == c) || b) = R) ∧ Hid (Drew w wi)) (fun i _ => l.size - (intOf i).toNat)
      case atStart => exact ⟨0, rfl, Nat.zero_le _, by rw [← HA.out, Hd.contains_any]; rfl, HD0.out⟩
      case round =>
        obtain ⟨j, rfl, hj, hI, hD⟩ := hrel
        by_cases hltj : j < l.size
        · have hg := Tx.get_of l j hltj
          obtain ⟨d, hd⟩ : ∃ d, l[j] = d := ⟨_, rfl⟩
          rw [hd] at hg
          have hA := hI.out
          rw [Hd.drop_any hg] at hA
          by_cases he : d = c
          · subst he
            have HF : Hid (true = R) := Lib.hid (by rw [← hA]; simp)
            clear hA hg hI
            go_wp2
            go_region
            go_wp2
            go_ret
            exact ⟨retB HF.out, drews_more hD.out 1⟩
          · have q1 : ¬ ((c.toNat : Int) = (d.toNat : Int)) := fun h => he (UInt8.toNat_inj.1 (by omega))
            have q2 : ((c.toNat : Int) == (d.toNat : Int)) = false := beq_eq_false_iff_ne.2 q1
            rw [show (d == c) = false from beq_eq_false_iff_ne.2 he, Bool.false_or] at hA
            have HN := Lib.hid hA
            clear hA hg hI he
            go_wp2
            go_region
            go_wp2
            go_roundw
            case rel => exact ⟨j + 1, by go_num, by omega, HN.out, drews_more hD.out 1⟩
            case measure => simp [intOf]; omega
        · obtain rfl : j = l.size := by omega
          have hI2 := hI.out
          rw [Lib.size_eq, List.drop_length, List.any_nil, Bool.false_or] at hI2
          have HN := Lib.hid hI2
          clear hI hI2
          go_wp2
          go_roundw
          case rel => exact ⟨k + 1, by go_num, by omega, by rw [HB.out]; exact HN.out, hD.out⟩
          case measure => simp [intOf]; omega
    · obtain rfl : k = s.size := by omega
      have hI2 := hI.out
      rw [Lib.size_eq, List.drop_length] at hI2
      have HN := Lib.hid hI2
      clear hI hI2
      go_wp2
      go_ret
      exact ⟨retB HN.out, hD.out⟩
set_option maxHeartbeats 2000000 in
set_option maxRecDepth 100000 in
theorem tokenR_any (s : ByteArray) (w : World) (hs : s.size ≤ 1000000) :
    Calls Tryd.prog 12 #[.string s] w fun e w' => e = .returned (.bool (Hd.token s.data.toList)) ∧ Drew w w' := by
  have hv : Hd.token s.data.toList = (!s.data.toList.isEmpty && s.data.toList.all Hd.inR && !Hd.hasB Hd.specials s.data.toList) := Hd.vis_parts _ _
  have HPr := Lib.hid (fun W => printable_any s W hs)
  have HHs := Lib.hid (fun W => has_any s ⟨#[40, 41, 60, 62, 64, 44, 59, 58, 92, 34, 47, 91, 93, 63, 61]⟩ W hs (by decide))
  rw [show (⟨#[40, 41, 60, 62, 64, 44, 59, 58, 92, 34, 47, 91, 93, 63, 61]⟩ : ByteArray).data.toList = Hd.specials from rfl] at HHs
  rw [hv]
  have hq := Lib.toList_data s
  obtain ⟨a, ha⟩ : ∃ a, s.data.toList.isEmpty = a := ⟨_, rfl⟩
  obtain ⟨b, hb⟩ : ∃ b, s.data.toList.all Hd.inR = b := ⟨_, rfl⟩
  obtain ⟨c, hc⟩ : ∃ c, Hd.hasB Hd.specials s.data.toList = c := ⟨_, rfl⟩
  have q1 : s.toList.isEmpty = a := by rw [hq, ha]
  rw [ha, hb, hc]
  rw [hb] at HPr
  rw [hc] at HHs
  clear hq ha hb hc hv
  cases a <;> cases b <;> cases c
  all_goals
    go_enter Tryd.func12, Tryd.ntmps12
    go_wp2_with (first
      | (go_at_call 37; with_reducible refine (HPr.out _).mono ?_; rintro e w1 ⟨rfl, rfl⟩)
      | (go_at_call 38; with_reducible refine (HHs.out _).mono ?_; rintro e w2 ⟨rfl, hd2⟩))
    go_ret
    exact ⟨rfl, by first | assumption | exact ⟨0, rfl⟩⟩
end Go.Proofs.YtliadekcbkedmaaDoor
