/-
  missivelaw09.few.
-/
import Derived.Test.YtliadekcbkedmaaDoorFNm
namespace Go.Proofs.YtliadekcbkedmaaDoor
open Go Go.RowKit Go.Shelf
theorem region_calmW {P : Program} {id : Nat} {ops : Array Oper} {Q : Exit → Act → World → Prop} {a : Act} {w : World} (S : World → Prop) (hm : P.follows .mixedOrders = true) (hS : S w.drew)
    (h : S w.drew → wpAnyH P .any ops (Calm Q) S ops.size (Array.replicate ops.size false) a w.drew) : (Code.region id ops true).wp P Q a w :=
  wp_mono (wp_region_held hm (h hS)) Calm.imp
namespace Hd
def sumF (X : List Fd) (k : Nat) : Nat := ((X.take k).map fun f => f.1.length + f.2.length).sum
theorem sumF_succ {X : List Fd} {k : Nat} {p : Fd} (h : X[k]? = some p) : sumF X (k + 1) = sumF X k + p.1.length + p.2.length := by
  unfold sumF
  rw [List.take_add_one, h, List.map_append, List.sum_append]
  simp
  omega
/-- The first k fields are small. -/
def FOk (X : List Fd) (k : Nat) : Prop := ∀ j p, j < k → X[j]? = some p → p.1.length ≤ 6000 ∧ p.2.length ≤ 6000
theorem FOk.succ {X : List Fd} {k : Nat} {p : Fd} (h : FOk X k) (hp : X[k]? = some p) (h1 : p.1.length ≤ 6000) (h2 : p.2.length ≤ 6000) : FOk X (k + 1) := fun j q hj hq => by
  by_cases hk : j = k
  · subst hk; rw [hp] at hq; cases hq; exact ⟨h1, h2⟩
  · exact h j q (by omega) hq
end Hd
/-- The fields are few. -/
def FewP (X : List Hd.Fd) : Prop := X.length ≤ 420 ∧ Hd.sumF X X.length ≤ 6000 ∧ Hd.FOk X X.length
/-- What few answers. -/
def FewIs (X : List Hd.Fd) (e : Ending) : Prop := ∃ b : Bool, e = .returned (.bool b) ∧ (b = true ↔ FewP X)
theorem FewIs.no {X : List Hd.Fd} (h : ¬ FewP X) : FewIs X (.returned (.bool false)) := ⟨false, rfl, fun e => (by cases e), fun e => absurd e h⟩
set_option maxHeartbeats 4000000 in
set_option maxRecDepth 100000 in
theorem few_any (X : List Hd.Fd) (n cap : Nat) (xa : Option Addr) (xb xo : Nat) (w : World) (hX : PL w xa xb xo X) (hn : X.length = n) (hn2 : n ≤ 9223372036854775807) :
    Calls Tryd.prog 17 #[.slice xa n cap] w fun e w' => FewIs X e ∧ Drew w w' := by
  have HX := Lib.hid hX
  have HN := Lib.hid hn
  clear hX hn
  by_cases h4 : n ≤ 420
  · go_enter Tryd.func17, Tryd.ntmps17
    go_wp2
    go_loopw [3, 4] (fun z i wr => ∃ k q : Nat, i = .int .i64 k ∧ z = .int .i64 q ∧ k ≤ n ∧ q ≤ 12000 * k ∧ Hid (Hd.sumF X k = q ∧ Hd.FOk X k) ∧ Hid (Drew w wr)) (fun _ i _ => n - (intOf i).toNat)
    case atStart => exact ⟨0, 0, rfl, rfl, Nat.zero_le _, Nat.le_refl _, ⟨rfl, fun _ _ h => absurd h (Nat.not_lt_zero _)⟩, ⟨0, rfl⟩⟩
    case round =>
      obtain ⟨k, q, rfl, rfl, hk, hq, hI, hD⟩ := hrel
      by_cases hlt : k < n
      · skip
        obtain ⟨⟨N, V⟩, hp⟩ : ∃ p, X[k]? = some p := ⟨_, List.getElem?_eq_getElem (by rw [HN.out]; exact hlt)⟩
        have hXr := HX.out.new hD.out.below
        obtain rfl := hXr.at_ (by rw [HN.out]; omega)
        obtain ⟨d0, d1⟩ := hXr.c k _ hp
        simp only at d0 d1
        have HP := Lib.hid hp
        clear hp hXr
        by_cases g1 : 6000 < N.length
        · have q5 : (6000 : Int) < (N.length : Int) := by omega
          have qd5 : decide ((6000 : Int) < (N.length : Int)) = true := decide_eq_true q5
          have HF := Lib.hid (show ¬ FewP X from fun h => by have := (h.2.2 k _ (by rw [HN.out]; exact hlt) HP.out).1; simp only at this; omega)
          go_wp2
          go_ret
          exact ⟨FewIs.no HF.out, hD.out⟩
        have q5 : ¬ ((6000 : Int) < (N.length : Int)) := by omega
        have qd5 : decide ((6000 : Int) < (N.length : Int)) = false := decide_eq_false q5
        by_cases g2 : 6000 < V.length
        · have q6 : (6000 : Int) < (V.length : Int) := by omega
          have qd6 : decide ((6000 : Int) < (V.length : Int)) = true := decide_eq_true q6
          have HF := Lib.hid (show ¬ FewP X from fun h => by have := (h.2.2 k _ (by rw [HN.out]; exact hlt) HP.out).2; simp only at this; omega)
          go_wp2
          go_ret
          exact ⟨FewIs.no HF.out, hD.out⟩
        have q6 : ¬ ((6000 : Int) < (V.length : Int)) := by omega
        have qd6 : decide ((6000 : Int) < (V.length : Int)) = false := decide_eq_false q6
        have HS := Lib.hid (show Hd.sumF X (k + 1) = q + N.length + V.length ∧ Hd.FOk X (k + 1) from ⟨by rw [Hd.sumF_succ HP.out, hI.out.1], hI.out.2.succ HP.out (by simp only; omega) (by simp only; omega)⟩)
        have hw1 : IntKind.i64.wrap ((q : Int) + (N.length : Int)) = (q : Int) + (N.length : Int) := IntWalk.i64_in _ (by omega)
        have hw2 : IntKind.i64.wrap ((q : Int) + (N.length : Int) + (V.length : Int)) = (q : Int) + (N.length : Int) + (V.length : Int) := IntWalk.i64_in _ (by omega)
        go_wp2
        refine region_calmW (fun U => U.cell? ⟨xb, xo + k * 2, none⟩ = some (.string ⟨N.toArray⟩) ∧ U.cell? ⟨xb, xo + k * 2 + 1, none⟩ = some (.string ⟨V.toArray⟩)) (by kernel_rfl) ⟨d0, d1⟩ (fun hHeld => ?_)
        show wpAnyH _ _ _ _ _ 16 (Array.replicate 16 false) _ _
        refine takeH 0 27 (v := ?_) rfl rfl (by kernel_rfl) (by kernel_rfl) (by kernel_rfl) (Or.inl ⟨by rfl, ?_⟩) (by assumption) ?_
        rotate_left
        · intro U hSU
          obtain ⟨s1, s2⟩ := hSU
          go_simp
          try with_reducible rfl
        simp only [List.setIfInBounds_toArray, List.set_cons_zero, List.set_cons_succ]
        refine takeH 1 28 (v := ?_) rfl rfl (by kernel_rfl) (by kernel_rfl) (by kernel_rfl) (Or.inl ⟨by rfl, ?_⟩) (by assumption) ?_
        rotate_left
        · intro U hSU
          obtain ⟨s1, s2⟩ := hSU
          go_simp
          try with_reducible rfl
        simp only [List.setIfInBounds_toArray, List.set_cons_zero, List.set_cons_succ]
        refine takeH 2 29 (v := ?_) rfl rfl (by kernel_rfl) (by kernel_rfl) (by kernel_rfl) (Or.inl ⟨by rfl, ?_⟩) (by assumption) ?_
        rotate_left
        · intro U hSU
          obtain ⟨s1, s2⟩ := hSU
          go_simp
          try with_reducible rfl
        simp only [List.setIfInBounds_toArray, List.set_cons_zero, List.set_cons_succ]
        refine takeH 3 30 (v := ?_) rfl rfl (by kernel_rfl) (by kernel_rfl) (by kernel_rfl) (Or.inl ⟨by rfl, ?_⟩) (by assumption) ?_
        rotate_left
        · intro U hSU
          obtain ⟨s1, s2⟩ := hSU
          go_simp
          try with_reducible rfl
        simp only [List.setIfInBounds_toArray, List.set_cons_zero, List.set_cons_succ]
        refine takeH 4 31 (v := ?_) rfl rfl (by kernel_rfl) (by kernel_rfl) (by kernel_rfl) (Or.inl ⟨by rfl, ?_⟩) (by assumption) ?_
        rotate_left
        · intro U hSU
          obtain ⟨s1, s2⟩ := hSU
          go_simp
          try with_reducible rfl
        simp only [List.setIfInBounds_toArray, List.set_cons_zero, List.set_cons_succ]
        refine takeH 5 32 (v := ?_) rfl rfl (by kernel_rfl) (by kernel_rfl) (by kernel_rfl) (Or.inl ⟨by rfl, ?_⟩) (by assumption) ?_
        rotate_left
        · intro U hSU
          obtain ⟨s1, s2⟩ := hSU
          go_simp
          try with_reducible rfl
        simp only [List.setIfInBounds_toArray, List.set_cons_zero, List.set_cons_succ]
        refine takeH 6 33 (v := ?_) rfl rfl (by kernel_rfl) (by kernel_rfl) (by kernel_rfl) (Or.inl ⟨by rfl, ?_⟩) (by assumption) ?_
        rotate_left
        · intro U hSU
          obtain ⟨s1, s2⟩ := hSU
          go_simp
          try with_reducible rfl
        simp only [List.setIfInBounds_toArray, List.set_cons_zero, List.set_cons_succ]
        refine takeH 7 34 (v := ?_) rfl rfl (by kernel_rfl) (by kernel_rfl) (by kernel_rfl) (Or.inl ⟨by rfl, ?_⟩) (by assumption) ?_
        rotate_left
        · intro U hSU
          obtain ⟨s1, s2⟩ := hSU
          go_simp
          try with_reducible rfl
        simp only [List.setIfInBounds_toArray, List.set_cons_zero, List.set_cons_succ]
        refine takeH 8 35 (v := ?_) rfl rfl (by kernel_rfl) (by kernel_rfl) (by kernel_rfl) (Or.inl ⟨by rfl, ?_⟩) (by assumption) ?_
        rotate_left
        · intro U hSU
          obtain ⟨s1, s2⟩ := hSU
          go_simp
          try with_reducible rfl
        simp only [List.setIfInBounds_toArray, List.set_cons_zero, List.set_cons_succ]
        refine takeH 9 36 (v := ?_) rfl rfl (by kernel_rfl) (by kernel_rfl) (by kernel_rfl) (Or.inl ⟨by rfl, ?_⟩) (by assumption) ?_
        rotate_left
        · intro U hSU
          obtain ⟨s1, s2⟩ := hSU
          go_simp
          try with_reducible rfl
        simp only [List.setIfInBounds_toArray, List.set_cons_zero, List.set_cons_succ]
        refine takeH 10 37 (v := ?_) rfl rfl (by kernel_rfl) (by kernel_rfl) (by kernel_rfl) (Or.inl ⟨by rfl, ?_⟩) (by assumption) ?_
        rotate_left
        · intro U hSU
          obtain ⟨s1, s2⟩ := hSU
          go_simp
          try with_reducible rfl
        simp only [List.setIfInBounds_toArray, List.set_cons_zero, List.set_cons_succ]
        refine takeH 11 38 (v := ?_) rfl rfl (by kernel_rfl) (by kernel_rfl) (by kernel_rfl) (Or.inl ⟨by rfl, ?_⟩) (by assumption) ?_
        rotate_left
        · intro U hSU
          obtain ⟨s1, s2⟩ := hSU
          go_simp
          try with_reducible rfl
        simp only [List.setIfInBounds_toArray, List.set_cons_zero, List.set_cons_succ]
        refine takeH 12 39 (v := ?_) rfl rfl (by kernel_rfl) (by kernel_rfl) (by kernel_rfl) (Or.inl ⟨by rfl, ?_⟩) (by assumption) ?_
        rotate_left
        · intro U hSU
          obtain ⟨s1, s2⟩ := hSU
          go_simp
          try with_reducible rfl
        simp only [List.setIfInBounds_toArray, List.set_cons_zero, List.set_cons_succ]
        refine takeH 13 40 (v := ?_) rfl rfl (by kernel_rfl) (by kernel_rfl) (by kernel_rfl) (Or.inl ⟨by rfl, ?_⟩) (by assumption) ?_
        rotate_left
        · intro U hSU
          obtain ⟨s1, s2⟩ := hSU
          go_simp
          try with_reducible rfl
        simp only [List.setIfInBounds_toArray, List.set_cons_zero, List.set_cons_succ]
        refine takeH 14 41 (v := ?_) rfl rfl (by kernel_rfl) (by kernel_rfl) (by kernel_rfl) (Or.inl ⟨by rfl, ?_⟩) (by assumption) ?_
        rotate_left
        · intro U hSU
          obtain ⟨s1, s2⟩ := hSU
          go_simp
          try with_reducible rfl
        simp only [List.setIfInBounds_toArray, List.set_cons_zero, List.set_cons_succ]
        refine takeH 15 3 (v := ?_) rfl rfl (by kernel_rfl) (by kernel_rfl) (by kernel_rfl) (Or.inl ⟨by rfl, ?_⟩) (by assumption) ?_
        rotate_left
        · intro U hSU
          obtain ⟨s1, s2⟩ := hSU
          go_simp
          try with_reducible rfl
        simp only [List.setIfInBounds_toArray, List.set_cons_zero, List.set_cons_succ]
        refine wpAnyH_done (by kernel_rfl) ?_ _
        refine Calm.normal ?_
        go_wp2
        go_roundw
        case rel => exact ⟨k + 1, q + N.length + V.length, by go_num, by go_num, by omega, by omega, HS.out, drews_more hD.out 1⟩
        case measure => simp [intOf]; omega
      · obtain rfl : k = n := by omega
        have q4 : (k : Int) ≤ 420 := by omega
        by_cases h6 : q ≤ 6000
        · have q6 : (q : Int) ≤ 6000 := by omega
          have HF := Lib.hid (show FewIs X (.returned (.bool true)) from ⟨true, rfl, fun _ => (by unfold FewP; rw [HN.out]; exact ⟨h4, by rw [hI.out.1]; exact h6, hI.out.2⟩), fun _ => rfl⟩)
          go_wp2
          go_ret
          exact ⟨HF.out, hD.out⟩
        · have q6 : ¬ ((q : Int) ≤ 6000) := by omega
          have qd6 : decide ((q : Int) ≤ 6000) = false := decide_eq_false q6
          have HF := Lib.hid (show ¬ FewP X from fun h => by have := h.2.1; rw [HN.out, hI.out.1] at this; omega)
          go_wp2
          go_ret
          exact ⟨FewIs.no HF.out, hD.out⟩
  · go_enter Tryd.func17, Tryd.ntmps17
    go_wp2
    go_loopw [3, 4] (fun z i wr => ∃ (k : Nat) (q : Int), i = .int .i64 k ∧ z = .int .i64 q ∧ k ≤ n ∧ Hid (Drew w wr)) (fun _ i _ => n - (intOf i).toNat)
    case atStart => exact ⟨0, 0, rfl, rfl, Nat.zero_le _, ⟨0, rfl⟩⟩
    case round =>
      obtain ⟨k, q, rfl, rfl, hk, hD⟩ := hrel
      by_cases hlt : k < n
      · skip
        obtain ⟨⟨N, V⟩, hp⟩ : ∃ p, X[k]? = some p := ⟨_, List.getElem?_eq_getElem (by rw [HN.out]; exact hlt)⟩
        have hXr := HX.out.new hD.out.below
        obtain rfl := hXr.at_ (by rw [HN.out]; omega)
        obtain ⟨d0, d1⟩ := hXr.c k _ hp
        simp only at d0 d1
        have HP := Lib.hid hp
        clear hp hXr
        by_cases g1 : 6000 < N.length
        · have q5 : (6000 : Int) < (N.length : Int) := by omega
          have qd5 : decide ((6000 : Int) < (N.length : Int)) = true := decide_eq_true q5
          have HF := Lib.hid (show ¬ FewP X from fun h => by have := (h.2.2 k _ (by rw [HN.out]; exact hlt) HP.out).1; simp only at this; omega)
          go_wp2
          go_ret
          exact ⟨FewIs.no HF.out, hD.out⟩
        have q5 : ¬ ((6000 : Int) < (N.length : Int)) := by omega
        have qd5 : decide ((6000 : Int) < (N.length : Int)) = false := decide_eq_false q5
        by_cases g2 : 6000 < V.length
        · have q6 : (6000 : Int) < (V.length : Int) := by omega
          have qd6 : decide ((6000 : Int) < (V.length : Int)) = true := decide_eq_true q6
          have HF := Lib.hid (show ¬ FewP X from fun h => by have := (h.2.2 k _ (by rw [HN.out]; exact hlt) HP.out).2; simp only at this; omega)
          go_wp2
          go_ret
          exact ⟨FewIs.no HF.out, hD.out⟩
        have q6 : ¬ ((6000 : Int) < (V.length : Int)) := by omega
        have qd6 : decide ((6000 : Int) < (V.length : Int)) = false := decide_eq_false q6
        go_wp2
        refine region_calmW (fun U => U.cell? ⟨xb, xo + k * 2, none⟩ = some (.string ⟨N.toArray⟩) ∧ U.cell? ⟨xb, xo + k * 2 + 1, none⟩ = some (.string ⟨V.toArray⟩)) (by kernel_rfl) ⟨d0, d1⟩ (fun hHeld => ?_)
        show wpAnyH _ _ _ _ _ 16 (Array.replicate 16 false) _ _
        refine takeH 0 27 (v := ?_) rfl rfl (by kernel_rfl) (by kernel_rfl) (by kernel_rfl) (Or.inl ⟨by rfl, ?_⟩) (by assumption) ?_
        rotate_left
        · intro U hSU
          obtain ⟨s1, s2⟩ := hSU
          go_simp
          try with_reducible rfl
        simp only [List.setIfInBounds_toArray, List.set_cons_zero, List.set_cons_succ]
        refine takeH 1 28 (v := ?_) rfl rfl (by kernel_rfl) (by kernel_rfl) (by kernel_rfl) (Or.inl ⟨by rfl, ?_⟩) (by assumption) ?_
        rotate_left
        · intro U hSU
          obtain ⟨s1, s2⟩ := hSU
          go_simp
          try with_reducible rfl
        simp only [List.setIfInBounds_toArray, List.set_cons_zero, List.set_cons_succ]
        refine takeH 2 29 (v := ?_) rfl rfl (by kernel_rfl) (by kernel_rfl) (by kernel_rfl) (Or.inl ⟨by rfl, ?_⟩) (by assumption) ?_
        rotate_left
        · intro U hSU
          obtain ⟨s1, s2⟩ := hSU
          go_simp
          try with_reducible rfl
        simp only [List.setIfInBounds_toArray, List.set_cons_zero, List.set_cons_succ]
        refine takeH 3 30 (v := ?_) rfl rfl (by kernel_rfl) (by kernel_rfl) (by kernel_rfl) (Or.inl ⟨by rfl, ?_⟩) (by assumption) ?_
        rotate_left
        · intro U hSU
          obtain ⟨s1, s2⟩ := hSU
          go_simp
          try with_reducible rfl
        simp only [List.setIfInBounds_toArray, List.set_cons_zero, List.set_cons_succ]
        refine takeH 4 31 (v := ?_) rfl rfl (by kernel_rfl) (by kernel_rfl) (by kernel_rfl) (Or.inl ⟨by rfl, ?_⟩) (by assumption) ?_
        rotate_left
        · intro U hSU
          obtain ⟨s1, s2⟩ := hSU
          go_simp
          try with_reducible rfl
        simp only [List.setIfInBounds_toArray, List.set_cons_zero, List.set_cons_succ]
        refine takeH 5 32 (v := ?_) rfl rfl (by kernel_rfl) (by kernel_rfl) (by kernel_rfl) (Or.inl ⟨by rfl, ?_⟩) (by assumption) ?_
        rotate_left
        · intro U hSU
          obtain ⟨s1, s2⟩ := hSU
          go_simp
          try with_reducible rfl
        simp only [List.setIfInBounds_toArray, List.set_cons_zero, List.set_cons_succ]
        refine takeH 6 33 (v := ?_) rfl rfl (by kernel_rfl) (by kernel_rfl) (by kernel_rfl) (Or.inl ⟨by rfl, ?_⟩) (by assumption) ?_
        rotate_left
        · intro U hSU
          obtain ⟨s1, s2⟩ := hSU
          go_simp
          try with_reducible rfl
        simp only [List.setIfInBounds_toArray, List.set_cons_zero, List.set_cons_succ]
        refine takeH 7 34 (v := ?_) rfl rfl (by kernel_rfl) (by kernel_rfl) (by kernel_rfl) (Or.inl ⟨by rfl, ?_⟩) (by assumption) ?_
        rotate_left
        · intro U hSU
          obtain ⟨s1, s2⟩ := hSU
          go_simp
          try with_reducible rfl
        simp only [List.setIfInBounds_toArray, List.set_cons_zero, List.set_cons_succ]
        refine takeH 8 35 (v := ?_) rfl rfl (by kernel_rfl) (by kernel_rfl) (by kernel_rfl) (Or.inl ⟨by rfl, ?_⟩) (by assumption) ?_
        rotate_left
        · intro U hSU
          obtain ⟨s1, s2⟩ := hSU
          go_simp
          try with_reducible rfl
        simp only [List.setIfInBounds_toArray, List.set_cons_zero, List.set_cons_succ]
        refine takeH 9 36 (v := ?_) rfl rfl (by kernel_rfl) (by kernel_rfl) (by kernel_rfl) (Or.inl ⟨by rfl, ?_⟩) (by assumption) ?_
        rotate_left
        · intro U hSU
          obtain ⟨s1, s2⟩ := hSU
          go_simp
          try with_reducible rfl
        simp only [List.setIfInBounds_toArray, List.set_cons_zero, List.set_cons_succ]
        refine takeH 10 37 (v := ?_) rfl rfl (by kernel_rfl) (by kernel_rfl) (by kernel_rfl) (Or.inl ⟨by rfl, ?_⟩) (by assumption) ?_
        rotate_left
        · intro U hSU
          obtain ⟨s1, s2⟩ := hSU
          go_simp
          try with_reducible rfl
        simp only [List.setIfInBounds_toArray, List.set_cons_zero, List.set_cons_succ]
        refine takeH 11 38 (v := ?_) rfl rfl (by kernel_rfl) (by kernel_rfl) (by kernel_rfl) (Or.inl ⟨by rfl, ?_⟩) (by assumption) ?_
        rotate_left
        · intro U hSU
          obtain ⟨s1, s2⟩ := hSU
          go_simp
          try with_reducible rfl
        simp only [List.setIfInBounds_toArray, List.set_cons_zero, List.set_cons_succ]
        refine takeH 12 39 (v := ?_) rfl rfl (by kernel_rfl) (by kernel_rfl) (by kernel_rfl) (Or.inl ⟨by rfl, ?_⟩) (by assumption) ?_
        rotate_left
        · intro U hSU
          obtain ⟨s1, s2⟩ := hSU
          go_simp
          try with_reducible rfl
        simp only [List.setIfInBounds_toArray, List.set_cons_zero, List.set_cons_succ]
        refine takeH 13 40 (v := ?_) rfl rfl (by kernel_rfl) (by kernel_rfl) (by kernel_rfl) (Or.inl ⟨by rfl, ?_⟩) (by assumption) ?_
        rotate_left
        · intro U hSU
          obtain ⟨s1, s2⟩ := hSU
          go_simp
          try with_reducible rfl
        simp only [List.setIfInBounds_toArray, List.set_cons_zero, List.set_cons_succ]
        refine takeH 14 41 (v := ?_) rfl rfl (by kernel_rfl) (by kernel_rfl) (by kernel_rfl) (Or.inl ⟨by rfl, ?_⟩) (by assumption) ?_
        rotate_left
        · intro U hSU
          obtain ⟨s1, s2⟩ := hSU
          go_simp
          try with_reducible rfl
        simp only [List.setIfInBounds_toArray, List.set_cons_zero, List.set_cons_succ]
        refine takeH 15 3 (v := ?_) rfl rfl (by kernel_rfl) (by kernel_rfl) (by kernel_rfl) (Or.inl ⟨by rfl, ?_⟩) (by assumption) ?_
        rotate_left
        · intro U hSU
          obtain ⟨s1, s2⟩ := hSU
          go_simp
          try with_reducible rfl
        simp only [List.setIfInBounds_toArray, List.set_cons_zero, List.set_cons_succ]
        refine wpAnyH_done (by kernel_rfl) ?_ _
        refine Calm.normal ?_
        go_wp2
        go_roundw
        case rel => exact ⟨k + 1, _, by go_num, rfl, by omega, drews_more hD.out 1⟩
        case measure => simp [intOf]; omega
      · obtain rfl : k = n := by omega
        have q4 : ¬ ((k : Int) ≤ 420) := by omega
        have qd4 : decide ((k : Int) ≤ 420) = false := decide_eq_false q4
        have HF := Lib.hid (show ¬ FewP X from fun h => by have := h.1; rw [HN.out] at this; omega)
        go_wp2
        go_ret
        exact ⟨FewIs.no HF.out, hD.out⟩
end Go.Proofs.YtliadekcbkedmaaDoor
