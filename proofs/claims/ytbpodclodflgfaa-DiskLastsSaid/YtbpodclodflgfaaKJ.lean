/-
  Rows copied: Clone of bytes, ints, pieces.
-/
import Derived.Test.YtbpodclodflgfaaKB
namespace Go.Proofs.Ytbpodclodflgfaa
open Go Go.RowKit
theorem zero_row (w : World) (t : TypeId) (size : Nat) : (w.alloc (.cells #[] t)).ownsRow w.heap.size t size (.slice (some ⟨w.heap.size, 0, none⟩) 0 0) 0 [] :=
  World.ownsRow_made w #[] 0 (Nat.le_refl _) (by unfold maxLen; omega) (by simp)
theorem below_grown0 {w a b : World} {k : Nat} (h : Below w.heap.size w a) (hg : a.grownBy b (some k)) (hk : w.heap.size ≤ k) : Below w.heap.size w b :=
  h.trans ⟨hg.os, hg.tape, hg.output, hg.size, fun i hi => hg.block i (Nat.lt_of_lt_of_le hi h.size) (fun e => by injection e; omega)⟩
set_option maxHeartbeats 2000000 in
set_option maxRecDepth 100000 in
theorem cloneB_at (cap n : Nat) (a : Addr) (l : List UInt8) (hn : l.length = n) (w : World) (hc : ∀ j u, (bv l)[j]? = some u → w.cell? (a.add j) = some u) (hg : 0 < n → a.block < w.heap.size) (hl : n ≤ 100000000) :
    Calls Try.prog 33 #[.slice (some a) n cap] w fun e w' => ∃ v', e = .returned v' ∧ w'.ownsRow w.heap.size 5 1 v' l.length (bv l) ∧ Below w.heap.size w w' ∧ ∃ x, v'.ownBlock = some x := by
  have hnil := fun w' : World => Lib.run_eql_slice_nil (P := Try.prog) w' 46 5 (some a) n cap 0 0 Try.underlying46
  have HC := Lib.hid (fun o : Obj => show ∀ j u, (bv l)[j]? = some u → (w.alloc o).cell? (a.add j) = some u from fun j u hj => by
    have hp : 0 < n := by
      have := (List.getElem?_eq_some_iff.1 hj).1
      rw [bv_length] at this
      omega
    have hb : (a.add j).block = a.block := by unfold Addr.add; split <;> rfl
    exact (World.cell?_of_block (heap_alloc_old w o (by rw [hb]; exact hg hp))).trans (hc j u hj))
  have HN := Lib.hid hn
  clear hc hn
  obtain ⟨i0, hi, hz0, hz1, hz2⟩ := info_parts infoU
  go_enter Try.func33, Try.ntmps33
  go_wp2_with (at_builtin; refine wpList_append_own _ rfl (.tmp 5) (.tmp 6) 46 rfl w.heap.size 5 i0 (.int .u8 0) 1 1 Try.underlying46 hi hz0 hz1 hz2 rfl (by decide) _ 0 [] rfl (zero_row w _ _) a n cap (bv l) rfl (by rw [bv_length, HN.out, Nat.mul_one]) (HC.out _) (bv_cells _) (by unfold maxLen; omega) (by omega) (by rw [alloc_size]; omega) ?_; intro v1 w1 hown hgrow hv1; have HV1 := Lib.hid hv1; have HO1 := Lib.hid hown; have HG1 := Lib.hid hgrow; clear hown hgrow hv1)
  go_ret
  refine ⟨_, rfl, ?_, below_grown0 (Below.alloc (Below.refl _ _) (Nat.le_refl _) _) HG1.out (Nat.le_refl _), ?_⟩
  rotate_left
  · rcases HO1.out.2 with ⟨h, _⟩ | ⟨g, cap, cur, h, _⟩
    · have := (HV1.out.1 h).1
      cases this
    · exact ⟨g, by show v1.ownBlock = some g; rw [h]; rfl⟩
  have h := HO1.out
  rw [Nat.zero_add, List.nil_append, ← HN.out] at h
  exact h
set_option maxHeartbeats 1000000 in
set_option maxRecDepth 100000 in
theorem cloneB_nil (w : World) :
    Calls Try.prog 33 #[.slice none 0 0] w fun e w' => ∃ v', e = .returned v' ∧ w'.ownsRow w.heap.size 5 1 v' 0 (bv []) ∧ Below w.heap.size w w' := by
  have hnil := fun w' : World => Lib.run_eql_slice_nil (P := Try.prog) w' 46 5 none 0 0 0 0 Try.underlying46
  go_enter Try.func33, Try.ntmps33
  go_wp2
  go_ret
  exact ⟨_, rfl, World.ownsRow_nil _ _ _ _, Below.refl _ _⟩
theorem cloneB_any (v : Value) (l : List UInt8) (w : World) (h : w.ownsRow 0 5 1 v l.length (bv l)) (hl : l.length ≤ 100000000) :
    Calls Try.prog 33 #[v] w fun e w' => ∃ v', e = .returned v' ∧ w'.ownsRow w.heap.size 5 1 v' l.length (bv l) ∧ Below w.heap.size w w' := by
  rcases h.2 with ⟨rfl, h0⟩ | ⟨g, cap, cur, rfl, _, hg, _⟩
  · have : l = [] := List.eq_nil_of_length_eq_zero h0
    subst this
    exact cloneB_nil w
  · refine (cloneB_at cap l.length ⟨g, 0, none⟩ l rfl w (fun j u hj => h.cells (g := g) rfl j u hj) (fun _ => lt_of_block hg) hl).mono ?_
    rintro e w' ⟨v', h1, h2, h3, _⟩
    exact ⟨v', h1, h2, h3⟩
theorem cloneB_sf (v : Value) (l : List UInt8) (w : World) (h : w.ownsRow 0 5 1 v l.length (bv l)) (hl : l.length ≤ 100000000) :
    Calls Try.prog 33 #[v] w fun e w' => ∃ v', e = .returned v' ∧ w'.ownsRow w.heap.size 5 1 v' l.length (bv l) ∧ Below w.heap.size w w' ∧ SF w v v' := by
  rcases h.2 with ⟨rfl, h0⟩ | ⟨g, cap, cur, rfl, _, hg, _⟩
  · have : l = [] := List.eq_nil_of_length_eq_zero h0
    subst this
    refine (cloneB_nil w).mono ?_
    rintro e w' ⟨v', h1, h2, h3⟩
    refine ⟨v', h1, h2, h3, ?_⟩
    cases hv : v'.ownBlock with
    | none => exact .inl hv
    | some x => exact .inr ⟨x, hv, (World.ownsRow.lt h2 x hv).1⟩
  · refine (cloneB_at cap l.length ⟨g, 0, none⟩ l rfl w (fun j u hj => h.cells (g := g) rfl j u hj) (fun _ => lt_of_block hg) hl).mono ?_
    rintro e w' ⟨v', h1, h2, h3, x, hx⟩
    exact ⟨v', h1, h2, h3, .inr ⟨x, hx, (World.ownsRow.lt h2 x hx).1⟩⟩
set_option maxHeartbeats 2000000 in
set_option maxRecDepth 100000 in
theorem cloneI_at (cap n : Nat) (a : Addr) (l : List Int) (hn : l.length = n) (w : World) (hc : ∀ j u, (iv l)[j]? = some u → w.cell? (a.add j) = some u) (hg : 0 < n → a.block < w.heap.size) (hl : n ≤ 100000000) :
    Calls Try.prog 50 #[.slice (some a) n cap] w fun e w' => ∃ v', e = .returned v' ∧ w'.ownsRow w.heap.size 3 1 v' l.length (iv l) ∧ Below w.heap.size w w' ∧ ∃ x, v'.ownBlock = some x := by
  have hnil := fun w' : World => Lib.run_eql_slice_nil (P := Try.prog) w' 30 3 (some a) n cap 0 0 Try.underlying30
  have HC := Lib.hid (fun o : Obj => show ∀ j u, (iv l)[j]? = some u → (w.alloc o).cell? (a.add j) = some u from fun j u hj => by
    have hp : 0 < n := by
      have := (List.getElem?_eq_some_iff.1 hj).1
      rw [iv_length] at this
      omega
    have hb : (a.add j).block = a.block := by unfold Addr.add; split <;> rfl
    exact (World.cell?_of_block (heap_alloc_old w o (by rw [hb]; exact hg hp))).trans (hc j u hj))
  have HN := Lib.hid hn
  clear hc hn
  obtain ⟨i0, hi, hz0, hz1, hz2⟩ := info_parts infoI
  go_enter Try.func50, Try.ntmps50
  go_wp2_with (at_builtin; refine wpList_append_own _ rfl (.tmp 5) (.tmp 6) 30 rfl w.heap.size 3 i0 (.int .i64 0) 1 8 Try.underlying30 hi hz0 hz1 hz2 rfl (by decide) _ 0 [] rfl (zero_row w _ _) a n cap (iv l) rfl (by rw [iv_length, HN.out, Nat.mul_one]) (HC.out _) (iv_cells _) (by unfold maxLen; omega) (by omega) (by rw [alloc_size]; omega) ?_; intro v1 w1 hown hgrow hv1; have HV1 := Lib.hid hv1; have HO1 := Lib.hid hown; have HG1 := Lib.hid hgrow; clear hown hgrow hv1)
  go_ret
  refine ⟨_, rfl, ?_, below_grown0 (Below.alloc (Below.refl _ _) (Nat.le_refl _) _) HG1.out (Nat.le_refl _), ?_⟩
  rotate_left
  · rcases HO1.out.2 with ⟨h, _⟩ | ⟨g, cap, cur, h, _⟩
    · have := (HV1.out.1 h).1
      cases this
    · exact ⟨g, by show v1.ownBlock = some g; rw [h]; rfl⟩
  have h := HO1.out
  rw [Nat.zero_add, List.nil_append, ← HN.out] at h
  exact h
set_option maxHeartbeats 1000000 in
set_option maxRecDepth 100000 in
theorem cloneI_nil (w : World) :
    Calls Try.prog 50 #[.slice none 0 0] w fun e w' => ∃ v', e = .returned v' ∧ w'.ownsRow w.heap.size 3 1 v' 0 (iv []) ∧ Below w.heap.size w w' := by
  have hnil := fun w' : World => Lib.run_eql_slice_nil (P := Try.prog) w' 30 3 none 0 0 0 0 Try.underlying30
  go_enter Try.func50, Try.ntmps50
  go_wp2
  go_ret
  exact ⟨_, rfl, World.ownsRow_nil _ _ _ _, Below.refl _ _⟩
theorem cloneI_any (v : Value) (l : List Int) (w : World) (h : w.ownsRow 0 3 1 v l.length (iv l)) (hl : l.length ≤ 100000000) :
    Calls Try.prog 50 #[v] w fun e w' => ∃ v', e = .returned v' ∧ w'.ownsRow w.heap.size 3 1 v' l.length (iv l) ∧ Below w.heap.size w w' := by
  rcases h.2 with ⟨rfl, h0⟩ | ⟨g, cap, cur, rfl, _, hg, _⟩
  · have : l = [] := List.eq_nil_of_length_eq_zero h0
    subst this
    exact cloneI_nil w
  · refine (cloneI_at cap l.length ⟨g, 0, none⟩ l rfl w (fun j u hj => h.cells (g := g) rfl j u hj) (fun _ => lt_of_block hg) hl).mono ?_
    rintro e w' ⟨v', h1, h2, h3, _⟩
    exact ⟨v', h1, h2, h3⟩
theorem cloneI_sf (v : Value) (l : List Int) (w : World) (h : w.ownsRow 0 3 1 v l.length (iv l)) (hl : l.length ≤ 100000000) :
    Calls Try.prog 50 #[v] w fun e w' => ∃ v', e = .returned v' ∧ w'.ownsRow w.heap.size 3 1 v' l.length (iv l) ∧ Below w.heap.size w w' ∧ SF w v v' := by
  rcases h.2 with ⟨rfl, h0⟩ | ⟨g, cap, cur, rfl, _, hg, _⟩
  · have : l = [] := List.eq_nil_of_length_eq_zero h0
    subst this
    refine (cloneI_nil w).mono ?_
    rintro e w' ⟨v', h1, h2, h3⟩
    refine ⟨v', h1, h2, h3, ?_⟩
    cases hv : v'.ownBlock with
    | none => exact .inl hv
    | some x => exact .inr ⟨x, hv, (World.ownsRow.lt h2 x hv).1⟩
  · refine (cloneI_at cap l.length ⟨g, 0, none⟩ l rfl w (fun j u hj => h.cells (g := g) rfl j u hj) (fun _ => lt_of_block hg) hl).mono ?_
    rintro e w' ⟨v', h1, h2, h3, x, hx⟩
    exact ⟨v', h1, h2, h3, .inr ⟨x, hx, (World.ownsRow.lt h2 x hx).1⟩⟩
set_option maxHeartbeats 2000000 in
set_option maxRecDepth 100000 in
theorem cloneP_at (cap n : Nat) (a : Addr) (l : List Dk.Piece) (hn : l.length = n) (w : World) (hc : ∀ j u, (pv l)[j]? = some u → w.cell? (a.add j) = some u) (hg : 0 < n → a.block < w.heap.size) (hl : n ≤ 100000000) :
    Calls Try.prog 34 #[.slice (some a) n cap] w fun e w' => ∃ v', e = .returned v' ∧ w'.ownsRow w.heap.size 63 3 v' l.length (pv l) ∧ Below w.heap.size w w' ∧ ∃ x, v'.ownBlock = some x := by
  have hnil := fun w' : World => Lib.run_eql_slice_nil (P := Try.prog) w' 54 63 (some a) n cap 0 0 Try.underlying54
  have HC := Lib.hid (fun o : Obj => show ∀ j u, (pv l)[j]? = some u → (w.alloc o).cell? (a.add j) = some u from fun j u hj => by
    have hp : 0 < n := by
      have := (List.getElem?_eq_some_iff.1 hj).1
      rw [pv_length] at this
      omega
    have hb : (a.add j).block = a.block := by unfold Addr.add; split <;> rfl
    exact (World.cell?_of_block (heap_alloc_old w o (by rw [hb]; exact hg hp))).trans (hc j u hj))
  have HN := Lib.hid hn
  clear hc hn
  obtain ⟨i0, hi, hz0, hz1, hz2⟩ := info_parts infoP
  go_enter Try.func34, Try.ntmps34
  go_wp2_with (at_builtin; refine wpList_append_own _ rfl (.tmp 5) (.tmp 6) 54 rfl w.heap.size 63 i0 (.agg #[.int .i64 0, .int .i64 0, .string ⟨#[]⟩]) 3 32 Try.underlying54 hi hz0 hz1 hz2 rfl (by decide) _ 0 [] rfl (zero_row w _ _) a n cap (pv l) rfl (by rw [pv_length, HN.out]) (HC.out _) (pv_cells _) (by unfold maxLen; omega) (by omega) (by rw [alloc_size]; omega) ?_; intro v1 w1 hown hgrow hv1; have HV1 := Lib.hid hv1; have HO1 := Lib.hid hown; have HG1 := Lib.hid hgrow; clear hown hgrow hv1)
  go_ret
  refine ⟨_, rfl, ?_, below_grown0 (Below.alloc (Below.refl _ _) (Nat.le_refl _) _) HG1.out (Nat.le_refl _), ?_⟩
  rotate_left
  · rcases HO1.out.2 with ⟨h, _⟩ | ⟨g, cap, cur, h, _⟩
    · have := (HV1.out.1 h).1
      cases this
    · exact ⟨g, by show v1.ownBlock = some g; rw [h]; rfl⟩
  have h := HO1.out
  rw [Nat.zero_add, List.nil_append, ← HN.out] at h
  exact h
set_option maxHeartbeats 1000000 in
set_option maxRecDepth 100000 in
theorem cloneP_nil (w : World) :
    Calls Try.prog 34 #[.slice none 0 0] w fun e w' => ∃ v', e = .returned v' ∧ w'.ownsRow w.heap.size 63 3 v' 0 (pv []) ∧ Below w.heap.size w w' := by
  have hnil := fun w' : World => Lib.run_eql_slice_nil (P := Try.prog) w' 54 63 none 0 0 0 0 Try.underlying54
  go_enter Try.func34, Try.ntmps34
  go_wp2
  go_ret
  exact ⟨_, rfl, World.ownsRow_nil _ _ _ _, Below.refl _ _⟩
theorem cloneP_any (v : Value) (l : List Dk.Piece) (w : World) (h : w.ownsRow 0 63 3 v l.length (pv l)) (hl : l.length ≤ 100000000) :
    Calls Try.prog 34 #[v] w fun e w' => ∃ v', e = .returned v' ∧ w'.ownsRow w.heap.size 63 3 v' l.length (pv l) ∧ Below w.heap.size w w' := by
  rcases h.2 with ⟨rfl, h0⟩ | ⟨g, cap, cur, rfl, _, hg, _⟩
  · have : l = [] := List.eq_nil_of_length_eq_zero h0
    subst this
    exact cloneP_nil w
  · refine (cloneP_at cap l.length ⟨g, 0, none⟩ l rfl w (fun j u hj => h.cells (g := g) rfl j u hj) (fun _ => lt_of_block hg) hl).mono ?_
    rintro e w' ⟨v', h1, h2, h3, _⟩
    exact ⟨v', h1, h2, h3⟩
theorem cloneP_sf (v : Value) (l : List Dk.Piece) (w : World) (h : w.ownsRow 0 63 3 v l.length (pv l)) (hl : l.length ≤ 100000000) :
    Calls Try.prog 34 #[v] w fun e w' => ∃ v', e = .returned v' ∧ w'.ownsRow w.heap.size 63 3 v' l.length (pv l) ∧ Below w.heap.size w w' ∧ SF w v v' := by
  rcases h.2 with ⟨rfl, h0⟩ | ⟨g, cap, cur, rfl, _, hg, _⟩
  · have : l = [] := List.eq_nil_of_length_eq_zero h0
    subst this
    refine (cloneP_nil w).mono ?_
    rintro e w' ⟨v', h1, h2, h3⟩
    refine ⟨v', h1, h2, h3, ?_⟩
    cases hv : v'.ownBlock with
    | none => exact .inl hv
    | some x => exact .inr ⟨x, hv, (World.ownsRow.lt h2 x hv).1⟩
  · refine (cloneP_at cap l.length ⟨g, 0, none⟩ l rfl w (fun j u hj => h.cells (g := g) rfl j u hj) (fun _ => lt_of_block hg) hl).mono ?_
    rintro e w' ⟨v', h1, h2, h3, x, hx⟩
    exact ⟨v', h1, h2, h3, .inr ⟨x, hx, (World.ownsRow.lt h2 x hx).1⟩⟩
/-- A []int as it came in. -/
theorem cloneI_arg (a : Option Addr) (b off n cap : Nat) (ks : List Int) (w : World) (h : IR w a b off ks) (hn : ks.length = n) (hnil : a = none → cap = 0) (hl : n ≤ 100000000) :
    Calls Try.prog 50 #[.slice a n cap] w fun e w' => ∃ v', e = .returned v' ∧ w'.ownsRow w.heap.size 3 1 v' ks.length (iv ks) ∧ Below w.heap.size w w' := by
  cases a with
  | none =>
    have h0 : ks = [] := by
      cases ks with
      | nil => rfl
      | cons x l => have := h.addr (by simp); cases this
    subst h0
    obtain rfl := hnil rfl
    subst hn
    exact cloneI_nil w
  | some ad =>
    refine (cloneI_at cap n ad ks hn w (fun j u hj => ?_) (fun hp => ?_) hl).mono (fun e w' ⟨v', h1, h2, h3, _⟩ => ⟨v', h1, h2, h3⟩)
    · have hj1 : j < ks.length := by have := (List.getElem?_eq_some_iff.1 hj).1; rw [iv_length] at this; exact this
      have e := h.addr (by omega)
      injection e with e
      subst e
      have h2 : (⟨b, off, none⟩ : Addr).add j = ⟨b, off + j, none⟩ := by unfold Addr.add; split <;> simp_all
      rw [h2, h.cell j hj1, ← hj]
      simp [iv, hj1]
    · have e := h.addr (by omega)
      injection e with e
      subst e
      exact h.lt (by omega)
end Go.Proofs.Ytbpodclodflgfaa
