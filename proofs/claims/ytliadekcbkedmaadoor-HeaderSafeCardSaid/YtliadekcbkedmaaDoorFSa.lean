/-
  missiveref09.Same, SameParams.
-/
import Derived.Test.YtliadekcbkedmaaDoorFPs
namespace Go.Proofs.YtliadekcbkedmaaDoor
open Go Go.RowKit Go.Shelf
/-- The first k of these are the same. -/
def FstEq (X Y : List Hd.Fd) (k : Nat) : Prop := ∀ i, i < k → X[i]? = Y[i]?
theorem FstEq.zero (X Y : List Hd.Fd) : FstEq X Y 0 := fun _ h => absurd h (Nat.not_lt_zero _)
theorem FstEq.succ {X Y : List Hd.Fd} {k : Nat} (h : FstEq X Y k) (he : X[k]? = Y[k]?) : FstEq X Y (k + 1) := fun i hi => by
  by_cases hk : i = k
  · rw [hk]; exact he
  · exact h i (by omega)
theorem FstEq.all {X Y : List Hd.Fd} {n : Nat} (h : FstEq X Y n) (hx : X.length = n) (hy : Y.length = n) : X = Y := by
  apply List.ext_getElem?
  intro i
  by_cases hi : i < n
  · exact h i hi
  · rw [List.getElem?_eq_none (by omega), List.getElem?_eq_none (by omega)]
/-- What Same answers. -/
def SameIs (X Y : List Hd.Fd) (e : Ending) : Prop := e = .returned (.bool (decide (X = Y)))
theorem SameIs.yes {X Y : List Hd.Fd} (h : X = Y) : SameIs X Y (.returned (.bool true)) := by unfold SameIs; rw [decide_eq_true h]
theorem SameIs.no {X Y : List Hd.Fd} (h : X ≠ Y) : SameIs X Y (.returned (.bool false)) := by unfold SameIs; rw [decide_eq_false h]
theorem enc_eq {a b : List UInt8} : ((⟨a.toArray⟩ : ByteArray) = ⟨b.toArray⟩) ↔ a = b := by
  constructor
  · intro h
    injection h with h
    exact List.toArray_inj h
  · rintro rfl; rfl
set_option maxHeartbeats 2000000 in
set_option maxRecDepth 100000 in
theorem sameF_any (X Y : List Hd.Fd) (n m cx cy : Nat) (xa ya : Option Addr) (xb yb xo yo : Nat) (w : World) (hX : PL w xa xb xo X) (hY : PL w ya yb yo Y) (hn : X.length = n) (hm : Y.length = m) (hn2 : n ≤ 1000000) :
    Calls Tryd.prog 22 #[.slice xa n cx, .slice ya m cy] w fun e w' => SameIs X Y e ∧ Drew w w' := by
  have HX := Lib.hid hX
  have HY := Lib.hid hY
  have HN := Lib.hid hn
  have HM := Lib.hid hm
  by_cases hnm : n = m
  · subst hnm
    clear hX hY hn hm
    go_enter Tryd.func22, Tryd.ntmps22
    go_wp2
    go_loopw [5] (fun i wr => ∃ k : Nat, i = .int .i64 k ∧ k ≤ n ∧ Hid (FstEq X Y k) ∧ Hid (Drew w wr)) (fun i _ => n - (intOf i).toNat)
    case atStart => exact ⟨0, rfl, Nat.zero_le _, FstEq.zero _ _, ⟨0, rfl⟩⟩
    case round =>
      obtain ⟨k, rfl, hk, hF, hD⟩ := hrel
      by_cases hlt : k < n
      · obtain ⟨⟨N, V⟩, hp⟩ : ∃ p, X[k]? = some p := ⟨_, List.getElem?_eq_getElem (by rw [HN.out]; exact hlt)⟩
        obtain ⟨⟨N2, V2⟩, hq⟩ : ∃ p, Y[k]? = some p := ⟨_, List.getElem?_eq_getElem (by rw [HM.out]; exact hlt)⟩
        have hXr := HX.out.new hD.out.below
        have hYr := HY.out.new hD.out.below
        obtain rfl := hXr.at_ (by rw [HN.out]; omega)
        obtain rfl := hYr.at_ (by rw [HM.out]; omega)
        obtain ⟨d0, d1⟩ := hXr.c k _ hp
        obtain ⟨g0, g1⟩ := hYr.c k _ hq
        simp only at d0 d1 g0 g1
        have HP := Lib.hid hp
        have HQ := Lib.hid hq
        clear hp hq hXr hYr
        by_cases h1 : N = N2
        · subst h1
          by_cases h2 : V = V2
          · subst h2
            have HS := Lib.hid (hF.out.succ (HP.out.trans HQ.out.symm))
            go_wp2
            go_region_held3 (fun W => W.cell? ⟨xb, xo + k * 2, none⟩ = some (.string ⟨N.toArray⟩) ∧ W.cell? ⟨xb, xo + k * 2 + 1, none⟩ = some (.string ⟨V.toArray⟩) ∧ W.cell? ⟨yb, yo + k * 2, none⟩ = some (.string ⟨N.toArray⟩) ∧ W.cell? ⟨yb, yo + k * 2 + 1, none⟩ = some (.string ⟨V.toArray⟩)) (exact ⟨by assumption, by assumption, by assumption, by assumption⟩) (fail)
            go_wp2
            go_round
            case rel => exact ⟨k + 1, by go_num, by omega, HS.out, drews_more hD.out 1⟩
            case measure => simp [intOf]; omega
          · have HNE := Lib.hid (show X ≠ Y from fun h => by have e := HP.out; rw [h, HQ.out] at e; cases e; exact h2 rfl)
            go_wp2
            go_region_held3 (fun W => W.cell? ⟨xb, xo + k * 2, none⟩ = some (.string ⟨N.toArray⟩) ∧ W.cell? ⟨xb, xo + k * 2 + 1, none⟩ = some (.string ⟨V.toArray⟩) ∧ W.cell? ⟨yb, yo + k * 2, none⟩ = some (.string ⟨N.toArray⟩) ∧ W.cell? ⟨yb, yo + k * 2 + 1, none⟩ = some (.string ⟨V2.toArray⟩)) (exact ⟨by assumption, by assumption, by assumption, by assumption⟩) (fail)
            go_wp2
            go_ret
            exact ⟨SameIs.no HNE.out, drews_more hD.out 1⟩
        · have HNE := Lib.hid (show X ≠ Y from fun h => by have e := HP.out; rw [h, HQ.out] at e; cases e; exact h1 rfl)
          go_wp2
          go_region_held3 (fun W => W.cell? ⟨xb, xo + k * 2, none⟩ = some (.string ⟨N.toArray⟩) ∧ W.cell? ⟨xb, xo + k * 2 + 1, none⟩ = some (.string ⟨V.toArray⟩) ∧ W.cell? ⟨yb, yo + k * 2, none⟩ = some (.string ⟨N2.toArray⟩) ∧ W.cell? ⟨yb, yo + k * 2 + 1, none⟩ = some (.string ⟨V2.toArray⟩)) (exact ⟨by assumption, by assumption, by assumption, by assumption⟩) (fail)
          go_wp2
          go_ret
          exact ⟨SameIs.no HNE.out, drews_more hD.out 1⟩
      · obtain rfl : k = n := by omega
        go_wp2
        go_ret
        exact ⟨SameIs.yes (hF.out.all HN.out HM.out), hD.out⟩
  · have hne : X ≠ Y := fun h => hnm (by rw [← HN.out, ← HM.out, h])
    have HE := Lib.hid hne
    have q : ¬ ((n : Int) = (m : Int)) := by omega
    clear hX hY hn hm hnm hne
    go_enter Tryd.func22, Tryd.ntmps22
    go_wp2
    go_ret
    exact ⟨SameIs.no HE.out, ⟨0, rfl⟩⟩
set_option maxHeartbeats 2000000 in
set_option maxRecDepth 100000 in
theorem sameP_any (X Y : List Hd.Fd) (n m cx cy : Nat) (xa ya : Option Addr) (xb yb xo yo : Nat) (w : World) (hX : PL w xa xb xo X) (hY : PL w ya yb yo Y) (hn : X.length = n) (hm : Y.length = m) (hn2 : n ≤ 1000000) :
    Calls Tryd.prog 14 #[.slice xa n cx, .slice ya m cy] w fun e w' => SameIs X Y e ∧ Drew w w' := by
  have HX := Lib.hid hX
  have HY := Lib.hid hY
  have HN := Lib.hid hn
  have HM := Lib.hid hm
  by_cases hnm : n = m
  · subst hnm
    clear hX hY hn hm
    go_enter Tryd.func14, Tryd.ntmps14
    go_wp2
    go_loopw [5] (fun i wr => ∃ k : Nat, i = .int .i64 k ∧ k ≤ n ∧ Hid (FstEq X Y k) ∧ Hid (Drew w wr)) (fun i _ => n - (intOf i).toNat)
    case atStart => exact ⟨0, rfl, Nat.zero_le _, FstEq.zero _ _, ⟨0, rfl⟩⟩
    case round =>
      obtain ⟨k, rfl, hk, hF, hD⟩ := hrel
      by_cases hlt : k < n
      · obtain ⟨⟨N, V⟩, hp⟩ : ∃ p, X[k]? = some p := ⟨_, List.getElem?_eq_getElem (by rw [HN.out]; exact hlt)⟩
        obtain ⟨⟨N2, V2⟩, hq⟩ : ∃ p, Y[k]? = some p := ⟨_, List.getElem?_eq_getElem (by rw [HM.out]; exact hlt)⟩
        have hXr := HX.out.new hD.out.below
        have hYr := HY.out.new hD.out.below
        obtain rfl := hXr.at_ (by rw [HN.out]; omega)
        obtain rfl := hYr.at_ (by rw [HM.out]; omega)
        obtain ⟨d0, d1⟩ := hXr.c k _ hp
        obtain ⟨g0, g1⟩ := hYr.c k _ hq
        simp only at d0 d1 g0 g1
        have HP := Lib.hid hp
        have HQ := Lib.hid hq
        clear hp hq hXr hYr
        by_cases h1 : N = N2
        · subst h1
          by_cases h2 : V = V2
          · subst h2
            have HS := Lib.hid (hF.out.succ (HP.out.trans HQ.out.symm))
            go_wp2
            go_region_held3 (fun W => W.cell? ⟨xb, xo + k * 2, none⟩ = some (.string ⟨N.toArray⟩) ∧ W.cell? ⟨xb, xo + k * 2 + 1, none⟩ = some (.string ⟨V.toArray⟩) ∧ W.cell? ⟨yb, yo + k * 2, none⟩ = some (.string ⟨N.toArray⟩) ∧ W.cell? ⟨yb, yo + k * 2 + 1, none⟩ = some (.string ⟨V.toArray⟩)) (exact ⟨by assumption, by assumption, by assumption, by assumption⟩) (fail)
            go_wp2
            go_round
            case rel => exact ⟨k + 1, by go_num, by omega, HS.out, drews_more hD.out 1⟩
            case measure => simp [intOf]; omega
          · have HNE := Lib.hid (show X ≠ Y from fun h => by have e := HP.out; rw [h, HQ.out] at e; cases e; exact h2 rfl)
            go_wp2
            go_region_held3 (fun W => W.cell? ⟨xb, xo + k * 2, none⟩ = some (.string ⟨N.toArray⟩) ∧ W.cell? ⟨xb, xo + k * 2 + 1, none⟩ = some (.string ⟨V.toArray⟩) ∧ W.cell? ⟨yb, yo + k * 2, none⟩ = some (.string ⟨N.toArray⟩) ∧ W.cell? ⟨yb, yo + k * 2 + 1, none⟩ = some (.string ⟨V2.toArray⟩)) (exact ⟨by assumption, by assumption, by assumption, by assumption⟩) (fail)
            go_wp2
            go_ret
            exact ⟨SameIs.no HNE.out, drews_more hD.out 1⟩
        · have HNE := Lib.hid (show X ≠ Y from fun h => by have e := HP.out; rw [h, HQ.out] at e; cases e; exact h1 rfl)
          go_wp2
          go_region_held3 (fun W => W.cell? ⟨xb, xo + k * 2, none⟩ = some (.string ⟨N.toArray⟩) ∧ W.cell? ⟨xb, xo + k * 2 + 1, none⟩ = some (.string ⟨V.toArray⟩) ∧ W.cell? ⟨yb, yo + k * 2, none⟩ = some (.string ⟨N2.toArray⟩) ∧ W.cell? ⟨yb, yo + k * 2 + 1, none⟩ = some (.string ⟨V2.toArray⟩)) (exact ⟨by assumption, by assumption, by assumption, by assumption⟩) (fail)
          go_wp2
          go_ret
          exact ⟨SameIs.no HNE.out, drews_more hD.out 1⟩
      · obtain rfl : k = n := by omega
        go_wp2
        go_ret
        exact ⟨SameIs.yes (hF.out.all HN.out HM.out), hD.out⟩
  · have hne : X ≠ Y := fun h => hnm (by rw [← HN.out, ← HM.out, h])
    have HE := Lib.hid hne
    have q : ¬ ((n : Int) = (m : Int)) := by omega
    clear hX hY hn hm hnm hne
    go_enter Tryd.func14, Tryd.ntmps14
    go_wp2
    go_ret
    exact ⟨SameIs.no HE.out, ⟨0, rfl⟩⟩
end Go.Proofs.YtliadekcbkedmaaDoor
