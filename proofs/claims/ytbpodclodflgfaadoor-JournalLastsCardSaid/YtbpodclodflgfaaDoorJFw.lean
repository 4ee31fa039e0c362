/-
  A list of the law's deeds in memory; few of the law's text.
-/
import Derived.Test.YtbpodclodflgfaaDoorJGf
namespace Go.Proofs.YtbpodclodflgfaaDoor
open Go Go.RowKit
namespace Jn
structure Deed where
  do_ : Int
  row : B
  rows : List B
  keep : List Int
  n : Int
def okDeed (a : Deed) : Bool := decide (a.row.length ≤ 200) && (decide (a.rows.length ≤ 6) && (decide (a.keep.length ≤ 60) && a.rows.all fun r => decide (r.length ≤ 200)))
def few (X : List Deed) : Bool := decide (X.length ≤ 30) && X.all okDeed
theorem few_long {X : List Deed} (h : 30 < X.length) : few X = false := by
  unfold few
  rw [show decide (X.length ≤ 30) = false by simpa using h]
  rfl
theorem few_bad {X : List Deed} {k : Nat} {a : Deed} (h : X[k]? = some a) (hb : okDeed a = false) : few X = false := by
  unfold few
  have : X.all okDeed = false := by
    rw [Bool.eq_false_iff]
    intro hall
    have := List.all_eq_true.1 hall a (List.mem_of_getElem? h)
    rw [hb] at this
    cases this
  rw [this, Bool.and_false]
theorem few_good {X : List Deed} (h : X.length ≤ 30) (hall : ∀ a ∈ X, okDeed a = true) : few X = true := by
  unfold few
  rw [show decide (X.length ≤ 30) = true by simpa using h, List.all_eq_true.2 hall]
  rfl
theorem few_true {X : List Deed} (h : few X = true) : X.length ≤ 30 ∧ ∀ a ∈ X, a.row.length ≤ 200 ∧ a.rows.length ≤ 6 ∧ a.keep.length ≤ 60 ∧ ∀ r ∈ a.rows, r.length ≤ 200 := by
  unfold few at h
  simp only [Bool.and_eq_true, decide_eq_true_eq, List.all_eq_true, okDeed] at h
  exact ⟨h.1, fun a ha => by
    obtain ⟨h1, h2, h3, h4⟩ := h.2 a ha
    exact ⟨h1, h2, h3, fun r hr => h4 r hr⟩⟩
theorem bad_row {a : Deed} (h : 200 < a.row.length) : okDeed a = false := by
  unfold okDeed
  rw [show decide (a.row.length ≤ 200) = false by simpa using h]
  rfl
theorem bad_rows {a : Deed} (h : 6 < a.rows.length) : okDeed a = false := by
  unfold okDeed
  rw [show decide (a.rows.length ≤ 6) = false by simpa using h]
  simp
theorem bad_keep {a : Deed} (h : 60 < a.keep.length) : okDeed a = false := by
  unfold okDeed
  rw [show decide (a.keep.length ≤ 60) = false by simpa using h]
  simp
theorem bad_one {a : Deed} {k : Nat} {r : B} (hr : a.rows[k]? = some r) (h : 200 < r.length) : okDeed a = false := by
  unfold okDeed
  have : (a.rows.all fun r => decide (r.length ≤ 200)) = false := by
    rw [Bool.eq_false_iff]
    intro hall
    have := List.all_eq_true.1 hall r (List.mem_of_getElem? hr)
    simp at this
    omega
  rw [this]
  simp
theorem good_deed {a : Deed} (h1 : a.row.length ≤ 200) (h2 : a.rows.length ≤ 6) (h3 : a.keep.length ≤ 60) (h4 : ∀ j, j < a.rows.length → (a.rows.getD j []).length ≤ 200) : okDeed a = true := by
  unfold okDeed
  simp only [Bool.and_eq_true, decide_eq_true_eq, List.all_eq_true]
  refine ⟨h1, h2, h3, fun r hr => ?_⟩
  obtain ⟨j, hj, rfl⟩ := List.getElem_of_mem hr
  have := h4 j hj
  simpa [List.getD_eq_getElem?_getD, hj] using this
end Jn
/-- A deed in memory. -/
structure DC (w : World) (a : Jn.Deed) (xa : Option Addr) (xb xoff xn xcap : Nat) (ka : Option Addr) (kb koff kn kcap : Nat) : Prop where
  lv : Lv w xa xb xoff xcap a.rows
  xl : a.rows.length = xn
  xnil : xa = none → xcap = 0
  ir : IR w ka kb koff a.keep
  len : a.keep.length = kn
  nil : ka = none → kcap = 0
  n0 : -9223372036854775808 ≤ a.n
  n1 : a.n ≤ 9223372036854775807
  d0 : -9223372036854775808 ≤ a.do_
  d1 : a.do_ ≤ 9223372036854775807
theorem DC.below {w w' : World} {a : Jn.Deed} {xa : Option Addr} {xb xoff xn xcap : Nat} {ka : Option Addr} {kb koff kn kcap : Nat} (h : DC w a xa xb xoff xn xcap ka kb koff kn kcap) (hb : Below w.heap.size w w') : DC w' a xa xb xoff xn xcap ka kb koff kn kcap :=
  ⟨h.lv.below hb, h.xl, h.xnil, h.ir.below hb, h.len, h.nil, h.n0, h.n1, h.d0, h.d1⟩
def dlcells (a : Jn.Deed) (xa : Option Addr) (xn xcap : Nat) (ka : Option Addr) (kn kcap : Nat) : List Value := [.int .i64 a.do_, .string (enc a.row), .slice xa xn xcap, .slice ka kn kcap, .int .i64 a.n]
/-- A slice of deeds that reads as a list. -/
structure LD (w : World) (ya : Option Addr) (b off : Nat) (X : List Jn.Deed) : Prop where
  at_ : 0 < X.length → ya = some ⟨b, off, none⟩
  cell : ∀ j a, X[j]? = some a → ∃ (xa : Option Addr) (xb xoff xn xcap : Nat) (ka : Option Addr) (kb koff kn kcap : Nat), DC w a xa xb xoff xn xcap ka kb koff kn kcap ∧ ∀ i v, (dlcells a xa xn xcap ka kn kcap)[i]? = some v → w.cell? ⟨b, off + j * 5 + i, none⟩ = some v
  lt : 0 < X.length → b < w.heap.size
theorem LD.below {w w' : World} {ya : Option Addr} {b off : Nat} {X : List Jn.Deed} (h : LD w ya b off X) (hb : Below w.heap.size w w') : LD w' ya b off X :=
  ⟨h.at_, fun j a ha => by
    obtain ⟨xa, xb, xoff, xn, xcap, ka, kb, koff, kn, kcap, h1, h2⟩ := h.cell j a ha
    exact ⟨xa, xb, xoff, xn, xcap, ka, kb, koff, kn, kcap, h1.below hb, fun i v hv => (hb.cell (p := ⟨b, off + j * 5 + i, none⟩) (h.lt (by have := (List.getElem?_eq_some_iff.1 ha).1; omega))).trans (h2 i v hv)⟩,
   fun hp => Nat.lt_of_lt_of_le (h.lt hp) hb.size⟩
theorem dlcells_at {w : World} {b o : Nat} {a : Jn.Deed} {xa : Option Addr} {xn xcap : Nat} {ka : Option Addr} {kn kcap : Nat} (h : ∀ i v, (dlcells a xa xn xcap ka kn kcap)[i]? = some v → w.cell? ⟨b, o + i, none⟩ = some v) :
    w.cell? ⟨b, o, none⟩ = some (.int .i64 a.do_) ∧ w.cell? ⟨b, o + 1, none⟩ = some (.string (enc a.row)) ∧ w.cell? ⟨b, o + 2, none⟩ = some (.slice xa xn xcap) ∧ w.cell? ⟨b, o + 3, none⟩ = some (.slice ka kn kcap) ∧ w.cell? ⟨b, o + 4, none⟩ = some (.int .i64 a.n) :=
  ⟨h 0 _ rfl, h 1 _ rfl, h 2 _ rfl, h 3 _ rfl, h 4 _ rfl⟩
/-- The first rows are short. -/
def Short (a : Jn.Deed) (k : Nat) : Prop := ∀ j, j < k → (a.rows.getD j []).length ≤ 200
set_option maxHeartbeats 2000000 in
set_option maxRecDepth 100000 in
theorem few_any (X : List Jn.Deed) (n : Nat) (hn : X.length = n) (ya : Option Addr) (b off cap : Nat) (w : World) (hl : LD w ya b off X) :
    Calls Tryd.prog 10 #[.slice ya n cap] w fun e w' => e = .returned (.bool (Jn.few X)) ∧ Below w.heap.size w w' := by
  by_cases hbig : n ≤ 30
  · have HL := Lib.hid hl
    have HN := Lib.hid hn
    clear hl hn
    go_enter Tryd.func10, Tryd.ntmps10
    go_wp2
    go_loopw [3, 4] (fun i _ wr => ∃ k : Nat, i = .int .i64 k ∧ k ≤ n ∧ Hid (∀ a ∈ X.take k, Jn.okDeed a = true) ∧ Hid (∃ q, wr = w.drewN q)) (fun i _ _ => n - (intOf i).toNat)
    case atStart => exact ⟨0, rfl, Nat.zero_le _, (fun a ha => by simp at ha), ⟨0, rfl⟩⟩
    case round =>
      obtain ⟨k, rfl, hk, hB, hW⟩ := hrel
      have HBW := Lib.hid (show Below w.heap.size w wr from by obtain ⟨q, rfl⟩ := hW.out; exact below_drewN (Below.refl _ _) q)
      by_cases hlt : k < n
      · obtain ⟨a, ha⟩ : ∃ a, X[k]? = some a := ⟨_, List.getElem?_eq_getElem (by rw [HN.out]; exact hlt)⟩
        obtain rfl := HL.out.at_ (by rw [HN.out]; omega)
        obtain ⟨xa, xb, xoff, xn, xcap, ka, kb, koff, kn, kcap, hac, hcs⟩ := HL.out.cell k a ha
        have HDC := Lib.hid hac
        have HTK := Lib.hid (show X.take (k + 1) = X.take k ++ [a] from by rw [List.take_add_one, ha]; rfl)
        have HA := Lib.hid ha
        obtain ⟨c0, c1, c2, c3, c4⟩ := dlcells_at hcs
        have hS : ∀ (p : Addr) (v : Value), w.cell? p = some v → wr.cell? p = some v := fun p v h => by obtain ⟨q, rfl⟩ := hW.out; exact h
        have HC2 := Lib.hid c2
        replace c1 := hS _ _ c1
        replace c2 := hS _ _ c2
        replace c3 := hS _ _ c3
        obtain ⟨t, ht⟩ : ∃ t, enc a.row = t := ⟨_, rfl⟩
        have hts : t.size = a.row.length := by rw [← ht, Lib.size_eq]; rfl
        have HTS := Lib.hid hts
        rw [ht] at c1
        clear ha hac hcs ht hts c0 c4 hS
        by_cases b1 : t.size ≤ 200
        · have b1f : decide (200 < t.size) = false := by simpa using b1
          have b1g : ¬ ((200 : Int) < (t.size : Int)) := by omega
          by_cases b2 : xn ≤ 6
          · have b2f : decide (6 < xn) = false := by simpa using b2
            have b2g : ¬ ((6 : Int) < (xn : Int)) := by omega
            by_cases b3 : kn ≤ 60
            · have b3f : decide (60 < kn) = false := by simpa using b3
              have b3g : ¬ ((60 : Int) < (kn : Int)) := by omega
              go_wp2
              go_loopw [4] (fun i2 wr2 => ∃ j : Nat, i2 = .int .i64 j ∧ j ≤ xn ∧ Hid (Short a j) ∧ Hid (∃ q, wr2 = w.drewN q)) (fun i2 _ => xn - (intOf i2).toNat)
              case atStart => exact ⟨0, rfl, Nat.zero_le _, (fun j hj => absurd hj (Nat.not_lt_zero _)), hW.out⟩
              case round =>
                obtain ⟨j, rfl, hj, hSh, hW2⟩ := hrel
                have c2 : wr.cell? ⟨b, off + k * 5 + 2, none⟩ = some (.slice xa xn xcap) := by obtain ⟨q2, rfl⟩ := hW2.out; exact HC2.out
                by_cases hjl : j < xn
                · have hrl := HDC.out.xl
                  obtain rfl := HDC.out.lv.at_ (by omega)
                  have c5 : wr.cell? ⟨xb, xoff + j, none⟩ = some (encStr (a.rows.getD j [])) := by obtain ⟨q2, rfl⟩ := hW2.out; exact HDC.out.lv.cell j (by omega)
                  obtain ⟨u, hu⟩ : ∃ u, encStr (a.rows.getD j []) = .string u := ⟨_, rfl⟩
                  rw [hu] at c5
                  have HU := Lib.hid (encStr_size hu).2
                  clear hu hrl
                  by_cases b4 : u.size ≤ 200
                  · have b4f : decide (200 < u.size) = false := by simpa using b4
                    have b4g : ¬ ((200 : Int) < (u.size : Int)) := by omega
                    go_wp2
                    go_roundw
                    case rel => exact ⟨j + 1, by go_num, by omega, (fun i hi => by
                      rcases Nat.lt_succ_iff_lt_or_eq.1 hi with h1 | rfl
                      · exact hSh.out i h1
                      · rw [← HU.out]; exact b4), hW2.out⟩
                    case measure => simp [intOf]; omega
                  · have b4g : (200 : Int) < (u.size : Int) := by omega
                    have HF := Lib.hid (Jn.few_bad HA.out (Jn.bad_one (k := j) (r := a.rows.getD j []) (by have := HDC.out.xl; rw [List.getD_eq_getElem?_getD, List.getElem?_eq_getElem (by omega)]; rfl) (by rw [← HU.out]; omega)))
                    go_wp2
                    go_ret
                    exact ⟨retB HF.out, by obtain ⟨q, rfl⟩ := hW2.out; exact below_drewN (Below.refl _ _) _⟩
                · obtain rfl : j = xn := by omega
                  have HG := Lib.hid (Jn.good_deed (a := a) (by rw [← HTS.out]; exact b1) (by rw [HDC.out.xl]; exact b2) (by rw [HDC.out.len]; exact b3) (by rw [HDC.out.xl]; exact hSh.out))
                  go_wp2
                  go_roundw
                  case rel => exact ⟨k + 1, by go_num, by omega, (fun x hx => by
                    rw [HTK.out] at hx
                    rcases List.mem_append.1 hx with h | h
                    · exact hB.out x h
                    · simp at h; subst h; exact HG.out), hW2.out⟩
                  case measure => simp [intOf]; omega
            · have b3g : (60 : Int) < (kn : Int) := by omega
              have HF := Lib.hid (Jn.few_bad HA.out (Jn.bad_keep (by rw [HDC.out.len]; omega)))
              go_wp2
              go_ret
              exact ⟨retB HF.out, by obtain ⟨q, rfl⟩ := hW.out; exact below_drewN (Below.refl _ _) _⟩
          · have b2g : (6 : Int) < (xn : Int) := by omega
            have HF := Lib.hid (Jn.few_bad HA.out (Jn.bad_rows (by rw [HDC.out.xl]; omega)))
            go_wp2
            go_ret
            exact ⟨retB HF.out, by obtain ⟨q, rfl⟩ := hW.out; exact below_drewN (Below.refl _ _) _⟩
        · have b1g : (200 : Int) < (t.size : Int) := by omega
          have HF := Lib.hid (Jn.few_bad HA.out (Jn.bad_row (by rw [← HTS.out]; omega)))
          go_wp2
          go_ret
          exact ⟨retB HF.out, by obtain ⟨q, rfl⟩ := hW.out; exact below_drewN (Below.refl _ _) _⟩
      · obtain rfl : k = n := by omega
        have HF := Lib.hid (Jn.few_good (X := X) (by rw [HN.out]; exact hbig) (by have := hB.out; rwa [List.take_of_length_le (by rw [HN.out]; exact Nat.le_refl _)] at this))
        go_wp2
        go_ret
        exact ⟨retB HF.out, HBW.out⟩
  · have HF := Lib.hid (Jn.few_long (X := X) (by omega))
    have h1 : (30 : Int) < (n : Int) := by omega
    clear hl hn
    go_enter Tryd.func10, Tryd.ntmps10
    go_wp2
    go_ret
    exact ⟨retB HF.out, Below.refl _ _⟩
end Go.Proofs.YtbpodclodflgfaaDoor
