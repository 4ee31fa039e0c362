/-
  Rows copied: Clone of bytes, ints, pieces.
  The clone of a queue.
  fails; Arm; New.
  Write.
-/
import Derived.Test.YtbelmadbjiiodaaKGc
import Derived.Test.YtbelmadbjiiodaaKGd
namespace Go.Proofs.Ytbelmadbjiiodaa
open Go Go.RowKit
theorem zero_row (w : World) (t : TypeId) (size : Nat) : (w.alloc (.cells #[] t)).ownsRow w.heap.size t size (.slice (some ⟨w.heap.size, 0, none⟩) 0 0) 0 [] :=
  World.ownsRow_made w #[] 0 (Nat.le_refl _) (by unfold maxLen; omega) (by simp)
theorem below_grown0 {w a b : World} {k : Nat} (h : Below w.heap.size w a) (hg : a.grownBy b (some k)) (hk : w.heap.size ≤ k) : Below w.heap.size w b :=
  h.trans ⟨hg.os, hg.tape, hg.output, hg.size, fun i hi => hg.block i (Nat.lt_of_lt_of_le hi h.size) (fun e => by injection e; omega)⟩
set_option maxHeartbeats 2000000 in
set_option maxRecDepth 100000 in
theorem cloneB_at (cap n : Nat) (a : Addr) (l : List UInt8) (hn : l.length = n) (w : World) (hc : ∀ j u, (bv l)[j]? = some u → w.cell? (a.add j) = some u) (hg : 0 < n → a.block < w.heap.size) (hl : n ≤ 100000000) :
    Calls Try.prog 27 #[.slice (some a) n cap] w fun e w' => ∃ v', e = .returned v' ∧ w'.ownsRow w.heap.size 5 1 v' l.length (bv l) ∧ Below w.heap.size w w' ∧ ∃ x, v'.ownBlock = some x := by
  have hnil := fun w' : World => Lib.run_eql_slice_nil (P := Try.prog) w' 43 5 (some a) n cap 0 0 Try.underlying43
  have HC := Lib.hid (fun o : Obj => show ∀ j u, (bv l)[j]? = some u → (w.alloc o).cell? (a.add j) = some u from fun j u hj => by
    have hp : 0 < n := by
      have := (List.getElem?_eq_some_iff.1 hj).1
      rw [bv_length] at this
      omega
    have hb : (a.add j).block = a.block := by unfold Addr.add; split <;> rfl
    exact (World.cell?_of_block (heap_alloc_old w o (by rw [hb]; exact hg hp))).trans (hc j u hj))
  have HN := Lib.hid hn
  clear hc hn
  obtain ⟨i0, hi, hz0, hz1, hz2⟩ := info_parts infoU
  go_enter Try.func27, Try.ntmps27
  go_wp2_with (at_builtin; refine wpList_append_own _ rfl (.tmp 5) (.tmp 6) 43 rfl w.heap.size 5 i0 (.int .u8 0) 1 1 Try.underlying43 hi hz0 hz1 hz2 rfl (by decide) _ 0 [] rfl (zero_row w _ _) a n cap (bv l) rfl (by rw [bv_length, HN.out, Nat.mul_one]) (HC.out _) (bv_cells _) (by unfold maxLen; omega) (by omega) (by rw [alloc_size]; omega) ?_; intro v1 w1 hown hgrow hv1; have HV1 := Lib.hid hv1; have HO1 := Lib.hid hown; have HG1 := Lib.hid hgrow; clear hown hgrow hv1)
  go_ret
  refine ⟨_, rfl, ?_, below_grown0 (Below.alloc (Below.refl _ _) (Nat.le_refl _) _) HG1.out (Nat.le_refl _), ?_⟩
  rotate_left
  · rcases HO1.out.2 with ⟨h, _⟩ | ⟨g, cap, cur, h, _⟩
    · have := (HV1.out.1 h).1
      cases this
    · exact ⟨g, by show v1.ownBlock = some g; rw [h]; rfl⟩
  have h := HO1.out
  rw [Nat.zero_add, List.nil_append, ← HN.out] at h
  exact h
set_option maxHeartbeats 1000000 in
set_option maxRecDepth 100000 in
theorem cloneB_nil (w : World) :
    Calls Try.prog 27 #[.slice none 0 0] w fun e w' => ∃ v', e = .returned v' ∧ w'.ownsRow w.heap.size 5 1 v' 0 (bv []) ∧ Below w.heap.size w w' := by
  have hnil := fun w' : World => Lib.run_eql_slice_nil (P := Try.prog) w' 43 5 none 0 0 0 0 Try.underlying43
  go_enter Try.func27, Try.ntmps27
  go_wp2
  go_ret
  exact ⟨_, rfl, World.ownsRow_nil _ _ _ _, Below.refl _ _⟩
theorem cloneB_any (v : Value) (l : List UInt8) (w : World) (h : w.ownsRow 0 5 1 v l.length (bv l)) (hl : l.length ≤ 100000000) :
    Calls Try.prog 27 #[v] w fun e w' => ∃ v', e = .returned v' ∧ w'.ownsRow w.heap.size 5 1 v' l.length (bv l) ∧ Below w.heap.size w w' := by
  rcases h.2 with ⟨rfl, h0⟩ | ⟨g, cap, cur, rfl, _, hg, _⟩
  · have : l = [] := List.eq_nil_of_length_eq_zero h0
    subst this
    exact cloneB_nil w
  · refine (cloneB_at cap l.length ⟨g, 0, none⟩ l rfl w (fun j u hj => h.cells (g := g) rfl j u hj) (fun _ => lt_of_block hg) hl).mono ?_
    rintro e w' ⟨v', h1, h2, h3, _⟩
    exact ⟨v', h1, h2, h3⟩
theorem cloneB_sf (v : Value) (l : List UInt8) (w : World) (h : w.ownsRow 0 5 1 v l.length (bv l)) (hl : l.length ≤ 100000000) :
    Calls Try.prog 27 #[v] w fun e w' => ∃ v', e = .returned v' ∧ w'.ownsRow w.heap.size 5 1 v' l.length (bv l) ∧ Below w.heap.size w w' ∧ SF w v v' := by
  rcases h.2 with ⟨rfl, h0⟩ | ⟨g, cap, cur, rfl, _, hg, _⟩
  · have : l = [] := List.eq_nil_of_length_eq_zero h0
    subst this
    refine (cloneB_nil w).mono ?_
    rintro e w' ⟨v', h1, h2, h3⟩
    refine ⟨v', h1, h2, h3, ?_⟩
    cases hv : v'.ownBlock with
    | none => exact .inl hv
    | some x => exact .inr ⟨x, hv, (World.ownsRow.lt h2 x hv).1⟩
  · refine (cloneB_at cap l.length ⟨g, 0, none⟩ l rfl w (fun j u hj => h.cells (g := g) rfl j u hj) (fun _ => lt_of_block hg) hl).mono ?_
    rintro e w' ⟨v', h1, h2, h3, x, hx⟩
    exact ⟨v', h1, h2, h3, .inr ⟨x, hx, (World.ownsRow.lt h2 x hx).1⟩⟩
set_option maxHeartbeats 2000000 in
set_option maxRecDepth 100000 in
theorem cloneI_at (cap n : Nat) (a : Addr) (l : List Int) (hn : l.length = n) (w : World) (hc : ∀ j u, (iv l)[j]? = some u → w.cell? (a.add j) = some u) (hg : 0 < n → a.block < w.heap.size) (hl : n ≤ 100000000) :
    Calls Try.prog 50 #[.slice (some a) n cap] w fun e w' => ∃ v', e = .returned v' ∧ w'.ownsRow w.heap.size 3 1 v' l.length (iv l) ∧ Below w.heap.size w w' ∧ ∃ x, v'.ownBlock = some x := by
  have hnil := fun w' : World => Lib.run_eql_slice_nil (P := Try.prog) w' 30 3 (some a) n cap 0 0 Try.underlying30
  have HC := Lib.hid (fun o : Obj => show ∀ j u, (iv l)[j]? = some u → (w.alloc o).cell? (a.add j) = some u from fun j u hj => by
    have hp : 0 < n := by
      have := (List.getElem?_eq_some_iff.1 hj).1
      rw [iv_length] at this
      omega
    have hb : (a.add j).block = a.block := by unfold Addr.add; split <;> rfl
    exact (World.cell?_of_block (heap_alloc_old w o (by rw [hb]; exact hg hp))).trans (hc j u hj))
  have HN := Lib.hid hn
  clear hc hn
  obtain ⟨i0, hi, hz0, hz1, hz2⟩ := info_parts infoI
  go_enter Try.func50, Try.ntmps50
  go_wp2_with (at_builtin; refine wpList_append_own _ rfl (.tmp 5) (.tmp 6) 30 rfl w.heap.size 3 i0 (.int .i64 0) 1 8 Try.underlying30 hi hz0 hz1 hz2 rfl (by decide) _ 0 [] rfl (zero_row w _ _) a n cap (iv l) rfl (by rw [iv_length, HN.out, Nat.mul_one]) (HC.out _) (iv_cells _) (by unfold maxLen; omega) (by omega) (by rw [alloc_size]; omega) ?_; intro v1 w1 hown hgrow hv1; have HV1 := Lib.hid hv1; have HO1 := Lib.hid hown; have HG1 := Lib.hid hgrow; clear hown hgrow hv1)
  go_ret
  refine ⟨_, rfl, ?_, below_grown0 (Below.alloc (Below.refl _ _) (Nat.le_refl _) _) HG1.out (Nat.le_refl _), ?_⟩
  rotate_left
  · rcases HO1.out.2 with ⟨h, _⟩ | ⟨g, cap, cur, h, _⟩
    · have := (HV1.out.1 h).1
      cases this
    · exact ⟨g, by show v1.ownBlock = some g; rw [h]; rfl⟩
  have h := HO1.out
  rw [Nat.zero_add, List.nil_append, ← HN.out] at h
  exact h
set_option maxHeartbeats 1000000 in
set_option maxRecDepth 100000 in
theorem cloneI_nil (w : World) :
    Calls Try.prog 50 #[.slice none 0 0] w fun e w' => ∃ v', e = .returned v' ∧ w'.ownsRow w.heap.size 3 1 v' 0 (iv []) ∧ Below w.heap.size w w' := by
  have hnil := fun w' : World => Lib.run_eql_slice_nil (P := Try.prog) w' 30 3 none 0 0 0 0 Try.underlying30
  go_enter Try.func50, Try.ntmps50
  go_wp2
  go_ret
  exact ⟨_, rfl, World.ownsRow_nil _ _ _ _, Below.refl _ _⟩
theorem cloneI_any (v : Value) (l : List Int) (w : World) (h : w.ownsRow 0 3 1 v l.length (iv l)) (hl : l.length ≤ 100000000) :
    Calls Try.prog 50 #[v] w fun e w' => ∃ v', e = .returned v' ∧ w'.ownsRow w.heap.size 3 1 v' l.length (iv l) ∧ Below w.heap.size w w' := by
  rcases h.2 with ⟨rfl, h0⟩ | ⟨g, cap, cur, rfl, _, hg, _⟩
  · have : l = [] := List.eq_nil_of_length_eq_zero h0
    subst this
    exact cloneI_nil w
  · refine (cloneI_at cap l.length ⟨g, 0, none⟩ l rfl w (fun j u hj => h.cells (g := g) rfl j u hj) (fun _ => lt_of_block hg) hl).mono ?_
    rintro e w' ⟨v', h1, h2, h3, _⟩
    exact ⟨v', h1, h2, h3⟩
theorem cloneI_sf (v : Value) (l : List Int) (w : World) (h : w.ownsRow 0 3 1 v l.length (iv l)) (hl : l.length ≤ 100000000) :
    Calls Try.prog 50 #[v] w fun e w' => ∃ v', e = .returned v' ∧ w'.ownsRow w.heap.size 3 1 v' l.length (iv l) ∧ Below w.heap.size w w' ∧ SF w v v' := by
  rcases h.2 with ⟨rfl, h0⟩ | ⟨g, cap, cur, rfl, _, hg, _⟩
  · have : l = [] := List.eq_nil_of_length_eq_zero h0
    subst this
    refine (cloneI_nil w).mono ?_
    rintro e w' ⟨v', h1, h2, h3⟩
    refine ⟨v', h1, h2, h3, ?_⟩
    cases hv : v'.ownBlock with
    | none => exact .inl hv
    | some x => exact .inr ⟨x, hv, (World.ownsRow.lt h2 x hv).1⟩
  · refine (cloneI_at cap l.length ⟨g, 0, none⟩ l rfl w (fun j u hj => h.cells (g := g) rfl j u hj) (fun _ => lt_of_block hg) hl).mono ?_
    rintro e w' ⟨v', h1, h2, h3, x, hx⟩
    exact ⟨v', h1, h2, h3, .inr ⟨x, hx, (World.ownsRow.lt h2 x hx).1⟩⟩
theorem cloneI_arg (a : Option Addr) (b off n cap : Nat) (ks : List Int) (w : World) (h : IR w a b off ks) (hn : ks.length = n) (hnil : a = none → cap = 0) (hl : n ≤ 100000000) :
    Calls Try.prog 50 #[.slice a n cap] w fun e w' => ∃ v', e = .returned v' ∧ w'.ownsRow w.heap.size 3 1 v' ks.length (iv ks) ∧ Below w.heap.size w w' := by
  cases a with
  | none =>
    have h0 : ks = [] := by
      cases ks with
      | nil => rfl
      | cons x l => have := h.addr (by simp); cases this
    subst h0
    obtain rfl := hnil rfl
    subst hn
    exact cloneI_nil w
  | some ad =>
    refine (cloneI_at cap n ad ks hn w (fun j u hj => ?_) (fun hp => ?_) hl).mono (fun e w' ⟨v', h1, h2, h3, _⟩ => ⟨v', h1, h2, h3⟩)
    · have hj1 : j < ks.length := by have := (List.getElem?_eq_some_iff.1 hj).1; rw [iv_length] at this; exact this
      have e := h.addr (by omega)
      injection e with e
      subst e
      have h2 : (⟨b, off, none⟩ : Addr).add j = ⟨b, off + j, none⟩ := by unfold Addr.add; split <;> simp_all
      rw [h2, h.cell j hj1, ← hj]
      simp [iv, hj1]
    · have e := h.addr (by omega)
      injection e with e
      subst e
      exact h.lt (by omega)
end Go.Proofs.Ytbelmadbjiiodaa
namespace Go.Proofs.Ytbelmadbjiiodaa
open Go Go.RowKit
set_option maxHeartbeats 2000000 in
set_option maxRecDepth 100000 in
theorem cloneP_at (cap n : Nat) (a : Addr) (l : List Dk.Piece) (hn : l.length = n) (w : World) (hc : ∀ j u, (pv l)[j]? = some u → w.cell? (a.add j) = some u) (hg : 0 < n → a.block < w.heap.size) (hl : n ≤ 100000000) :
    Calls Try.prog 28 #[.slice (some a) n cap] w fun e w' => ∃ v', e = .returned v' ∧ w'.ownsRow w.heap.size 57 3 v' l.length (pv l) ∧ Below w.heap.size w w' ∧ ∃ x, v'.ownBlock = some x := by
  have hnil := fun w' : World => Lib.run_eql_slice_nil (P := Try.prog) w' 47 57 (some a) n cap 0 0 Try.underlying47
  have HC := Lib.hid (fun o : Obj => show ∀ j u, (pv l)[j]? = some u → (w.alloc o).cell? (a.add j) = some u from fun j u hj => by
    have hp : 0 < n := by
      have := (List.getElem?_eq_some_iff.1 hj).1
      rw [pv_length] at this
      omega
    have hb : (a.add j).block = a.block := by unfold Addr.add; split <;> rfl
    exact (World.cell?_of_block (heap_alloc_old w o (by rw [hb]; exact hg hp))).trans (hc j u hj))
  have HN := Lib.hid hn
  clear hc hn
  obtain ⟨i0, hi, hz0, hz1, hz2⟩ := info_parts infoP
  go_enter Try.func28, Try.ntmps28
  go_wp2_with (at_builtin; refine wpList_append_own _ rfl (.tmp 5) (.tmp 6) 47 rfl w.heap.size 57 i0 (.agg #[.int .i64 0, .int .i64 0, .string ⟨#[]⟩]) 3 32 Try.underlying47 hi hz0 hz1 hz2 rfl (by decide) _ 0 [] rfl (zero_row w _ _) a n cap (pv l) rfl (by rw [pv_length, HN.out]) (HC.out _) (pv_cells _) (by unfold maxLen; omega) (by omega) (by rw [alloc_size]; omega) ?_; intro v1 w1 hown hgrow hv1; have HV1 := Lib.hid hv1; have HO1 := Lib.hid hown; have HG1 := Lib.hid hgrow; clear hown hgrow hv1)
  go_ret
  refine ⟨_, rfl, ?_, below_grown0 (Below.alloc (Below.refl _ _) (Nat.le_refl _) _) HG1.out (Nat.le_refl _), ?_⟩
  rotate_left
  · rcases HO1.out.2 with ⟨h, _⟩ | ⟨g, cap, cur, h, _⟩
    · have := (HV1.out.1 h).1
      cases this
    · exact ⟨g, by show v1.ownBlock = some g; rw [h]; rfl⟩
  have h := HO1.out
  rw [Nat.zero_add, List.nil_append, ← HN.out] at h
  exact h
set_option maxHeartbeats 1000000 in
set_option maxRecDepth 100000 in
theorem cloneP_nil (w : World) :
    Calls Try.prog 28 #[.slice none 0 0] w fun e w' => ∃ v', e = .returned v' ∧ w'.ownsRow w.heap.size 57 3 v' 0 (pv []) ∧ Below w.heap.size w w' := by
  have hnil := fun w' : World => Lib.run_eql_slice_nil (P := Try.prog) w' 47 57 none 0 0 0 0 Try.underlying47
  go_enter Try.func28, Try.ntmps28
  go_wp2
  go_ret
  exact ⟨_, rfl, World.ownsRow_nil _ _ _ _, Below.refl _ _⟩
theorem cloneP_any (v : Value) (l : List Dk.Piece) (w : World) (h : w.ownsRow 0 57 3 v l.length (pv l)) (hl : l.length ≤ 100000000) :
    Calls Try.prog 28 #[v] w fun e w' => ∃ v', e = .returned v' ∧ w'.ownsRow w.heap.size 57 3 v' l.length (pv l) ∧ Below w.heap.size w w' := by
  rcases h.2 with ⟨rfl, h0⟩ | ⟨g, cap, cur, rfl, _, hg, _⟩
  · have : l = [] := List.eq_nil_of_length_eq_zero h0
    subst this
    exact cloneP_nil w
  · refine (cloneP_at cap l.length ⟨g, 0, none⟩ l rfl w (fun j u hj => h.cells (g := g) rfl j u hj) (fun _ => lt_of_block hg) hl).mono ?_
    rintro e w' ⟨v', h1, h2, h3, _⟩
    exact ⟨v', h1, h2, h3⟩
theorem cloneP_sf (v : Value) (l : List Dk.Piece) (w : World) (h : w.ownsRow 0 57 3 v l.length (pv l)) (hl : l.length ≤ 100000000) :
    Calls Try.prog 28 #[v] w fun e w' => ∃ v', e = .returned v' ∧ w'.ownsRow w.heap.size 57 3 v' l.length (pv l) ∧ Below w.heap.size w w' ∧ SF w v v' := by
  rcases h.2 with ⟨rfl, h0⟩ | ⟨g, cap, cur, rfl, _, hg, _⟩
  · have : l = [] := List.eq_nil_of_length_eq_zero h0
    subst this
    refine (cloneP_nil w).mono ?_
    rintro e w' ⟨v', h1, h2, h3⟩
    refine ⟨v', h1, h2, h3, ?_⟩
    cases hv : v'.ownBlock with
    | none => exact .inl hv
    | some x => exact .inr ⟨x, hv, (World.ownsRow.lt h2 x hv).1⟩
  · refine (cloneP_at cap l.length ⟨g, 0, none⟩ l rfl w (fun j u hj => h.cells (g := g) rfl j u hj) (fun _ => lt_of_block hg) hl).mono ?_
    rintro e w' ⟨v', h1, h2, h3, x, hx⟩
    exact ⟨v', h1, h2, h3, .inr ⟨x, hx, (World.ownsRow.lt h2 x hx).1⟩⟩
end Go.Proofs.Ytbelmadbjiiodaa
namespace Go.Proofs.Ytbelmadbjiiodaa
open Go Go.RowKit
namespace Dk
theorem comes_is (D : Disk) (h0 : 0 ≤ D.armed) : comes D none = if D.down = true then D else if D.armed = 1 then crash (tick D) D.keep else tick D := by
  unfold comes
  by_cases hd : D.down = true
  · rw [if_pos (.inl hd), if_pos hd]
  · rw [if_neg hd]
    by_cases ha : D.armed = 0
    · rw [if_pos (.inr ha), if_neg (by omega)]
      obtain ⟨l, q, lo, d, a, ke⟩ := D
      simp only at ha
      subst ha
      rfl
    · rw [if_neg (by simp [hd, ha])]
      by_cases h1 : D.armed = 1
      · rw [if_neg (by omega), if_pos h1]
        unfold tick
        rw [if_neg ha, h1]
        rfl
      · rw [if_pos (by omega), if_neg h1]
        unfold tick
        rw [if_neg ha]
theorem crash_down_ (D : Disk) (ks : List Int) : (crash D ks).down = true := by
  unfold crash
  by_cases h : D.down = true
  · rw [if_pos h]; exact h
  · rw [if_neg h]
end Dk
theorem IR.of_own {w : World} {base : Nat} {v : Value} {ks : List Int} (h : w.ownsRow base 3 1 v ks.length (iv ks)) : ∃ a b cap, v = .slice a ks.length cap ∧ IR w a b 0 ks ∧ (0 < ks.length → v.ownBlock = some b) := by
  rcases h.2 with ⟨rfl, h0⟩ | ⟨g, cap, cur, rfl, _, hg, h1, h2, _⟩
  · exact ⟨none, 0, 0, by rw [h0], ⟨fun hp => by omega, fun j hj => by omega, fun hp => by omega, by omega⟩, fun hp => by omega⟩
  · refine ⟨_, g, cap, rfl, ⟨fun _ => rfl, fun j hj => ?_, fun _ => lt_of_block hg, by unfold maxLen at h2; omega⟩, fun _ => rfl⟩
    have h3 := h.cells (g := g) rfl j (.int .i64 (ks.getD j 0)) (by simp [iv, hj])
    have h4 : (⟨g, 0, none⟩ : Addr).add j = ⟨g, j, none⟩ := by unfold Addr.add; split <;> simp_all
    rw [h4] at h3
    rw [Nat.zero_add]
    exact h3
set_option maxHeartbeats 2000000 in
set_option maxRecDepth 100000 in
theorem fails_any (g : Nat) (D : Dk.Disk) (w : World) (h : DiskAt w g D) :
    Calls Try.prog 45 #[.pointer (some ⟨g, 0, none⟩)] w fun e w' => e = .returned (.bool (Dk.comes D none).down) ∧ DiskAt w' g (Dk.comes D none) ∧ Mv g w w' := by
  obtain ⟨vs, q, k, h⟩ := h
  rw [Dk.comes_is D h.good.armed0]
  have c13 := h.cdown
  by_cases hd : D.down = true
  · rw [if_pos hd]
    rw [hd] at c13 ⊢
    have H := Lib.hid h
    clear h
    go_enter Try.func45, Try.ntmps45
    go_wp2
    go_ret
    exact ⟨rfl, ⟨_, _, _, H.out⟩, Mv.refl _ _⟩
  · rw [if_neg hd]
    have hd' : D.down = false := by simpa using hd
    rw [hd'] at c13
    have C1 := Lib.hid (strikes_any g vs q k D w h)
    by_cases h1 : D.armed = 1
    · rw [if_pos h1]
      have hk := h.keep (by omega)
      obtain ⟨ka, kb, kcap, hkv, hIR, hown⟩ := IR.of_own hk
      have hnf : 0 < D.keep.length → ¬ Foot w g kb := fun hp => h.not_keep (by omega) (hown hp)
      have hdec : decide (D.armed = 1) = true := by simpa using h1
      rw [hdec] at C1
      have HCD := Lib.hid (Dk.crash_down_ (Dk.tick D) D.keep)
      have KEY := Lib.hid (fun (w1 : World) (h1 : DiskV w1 g vs q k (Dk.tick D)) (hm : Mv g w w1) =>
        show Hid (DiskV w1 g vs q k (Dk.tick D)) ∧ Hid (IR w1 ka kb 0 D.keep) ∧ Hid (0 < D.keep.length → ¬ Foot w1 g kb) ∧ w1.cell? ⟨g, 16, none⟩ = some (.slice ka D.keep.length kcap) from
          ⟨h1, hIR.mv hm hnf, fun hp hf => by
            rcases hm.foot kb hf with h2 | h2
            · exact hnf hp h2
            · have := hIR.lt hp; omega, by rw [← hkv]; exact h1.ckeep⟩)
      obtain ⟨n, hn⟩ : ∃ n, D.keep.length = n := ⟨_, rfl⟩
      have HN := Lib.hid hn
      rw [hn] at KEY
      clear h hk hIR hown hnf hkv hn hdec h1 hd hd'
      go_enter Try.func45, Try.ntmps45
      go_wp2_with (first | (go_at_call 29; refine C1.out.mono ?_; rintro _ w1 ⟨rfl, hv1, hm1⟩; obtain ⟨HV1, HI1, HF1, cc16⟩ := KEY.out w1 hv1 hm1; have HM1 := Lib.hid hm1; clear hv1 hm1) | (go_at_call 11; refine (crash_any g (Dk.tick D) ka kb 0 n kcap D.keep w1 ⟨_, _, _, HV1.out⟩ HI1.out HN.out (fun hp => HF1.out (by rw [← HN.out]; exact hp))).mono ?_; rintro _ w2 ⟨⟨v2, rfl⟩, ⟨vs2, q2, k2, hv2⟩, hm2⟩; have cc13 := hv2.cdown; rw [HCD.out] at cc13; have HV2 := Lib.hid hv2; have HM2 := Lib.hid hm2; clear hv2 hm2))
      go_ret
      exact ⟨ret_bool HCD.out.symm, ⟨_, _, _, HV2.out⟩, HM1.out.trans HM2.out⟩
    · rw [if_neg h1]
      have hdec : decide (D.armed = 1) = false := by simpa using h1
      rw [hdec] at C1
      have HTD := Lib.hid (show (Dk.tick D).down = false from hd')
      clear h hdec h1 hd hd'
      go_enter Try.func45, Try.ntmps45
      go_wp2_with (go_at_call 29; refine C1.out.mono ?_; rintro _ w1 ⟨rfl, hv1, hm1⟩; have cc13 := hv1.cdown; rw [HTD.out] at cc13; have HV1 := Lib.hid hv1; have HM1 := Lib.hid hm1; clear hv1 hm1)
      go_ret
      exact ⟨ret_bool HTD.out.symm, ⟨_, _, _, HV1.out⟩, HM1.out⟩
theorem DiskV.foot_ge {w : World} {g base : Nat} {vs : Nat → Value} {q k : Value} {D : Dk.Disk} (h : DiskV w g vs q k D) (hg : base ≤ g) (hv : ∀ f, f < 12 → ∀ x, (vs f).ownBlock = some x → base ≤ x) (hq : ∀ x, q.ownBlock = some x → base ≤ x) : ∀ b, Foot w g b → base ≤ b := by
  rintro b (rfl | ⟨i, v, hi, hc, hb⟩)
  · exact hg
  · by_cases h12 : i = 12
    · subst h12
      rw [h.cq] at hc
      injection hc with hc
      subst hc
      exact hq b hb
    · rw [h.cfile i (by omega)] at hc
      injection hc with hc
      subst hc
      exact hv i (by omega) b hb
theorem new_good : Dk.Good Dk.new where
  len := fun _ _ => by show (0 : Nat) ≤ _; omega
  pcs := fun p hp => by simp [Dk.new] at hp
  q := by show (0 : Nat) ≤ _; omega
  lost0 := by decide
  lost1 := by decide
  armed0 := by decide
  armed1 := by decide
theorem new_disk (w : World) (g : Nat) (hb : Blk w g 49 (dcells (fun _ => .slice none 0 0) (.slice none 0 0) (.slice none 0 0) Dk.new)) : DiskV w g (fun _ => .slice none 0 0) (.slice none 0 0) (.slice none 0 0) Dk.new :=
  ⟨hb, fun _ _ => World.ownsRow_nil _ _ _ _, World.ownsRow_nil _ _ _ _, fun ha => absurd rfl ha, fun _ _ _ _ _ => .inl rfl, new_good, rfl⟩
set_option maxHeartbeats 1000000 in
set_option maxRecDepth 100000 in
theorem new_any (w : World) : Calls Try.prog 5 #[] w fun e w' => e = .returned (.pointer (some ⟨w.heap.size, 0, none⟩)) ∧ DiskAt w' w.heap.size Dk.new ∧ Below w.heap.size w w' ∧ (∀ b, Foot w' w.heap.size b → w.heap.size ≤ b) := by
  go_enter Try.func5, Try.ntmps5
  go_wp2
  go_ret
  have h := new_disk _ _ (Blk.made w #[Value.slice none 0 0, Value.slice none 0 0, Value.slice none 0 0, Value.slice none 0 0, Value.slice none 0 0, Value.slice none 0 0, Value.slice none 0 0, Value.slice none 0 0, Value.slice none 0 0, Value.slice none 0 0, Value.slice none 0 0, Value.slice none 0 0, Value.slice none 0 0, Value.bool false, Value.int IntKind.i64 0, Value.int IntKind.i64 0, Value.slice none 0 0] 49)
  exact ⟨rfl, ⟨_, _, _, h⟩, below_new _ _, h.foot_ge (Nat.le_refl _) (fun f _ x hx => by cases hx) (fun x hx => by cases hx)⟩
theorem DiskV.arm2 {w : World} {g : Nat} {vs : Nat → Value} {q k : Value} {D : Dk.Disk} (h : DiskV w g vs q k D) (a : Int) (h0 : 0 ≤ a) (h1 : a ≤ 9223372036854775807) (k' : Value) (ks : List Int) (ho : w.ownsRow 0 3 1 k' ks.length (iv ks)) :
    DiskV ((w.setCell ⟨g, 15, none⟩ (.int .i64 a)).setCell ⟨g, 16, none⟩ k') g vs q k' { D with armed := a, keep := ks } ∧ Mv g w ((w.setCell ⟨g, 15, none⟩ (.int .i64 a)).setCell ⟨g, 16, none⟩ k') := by
  have hs : ∀ b, b ≠ g → ((w.setCell ⟨g, 15, none⟩ (.int .i64 a)).setCell ⟨g, 16, none⟩ k').heap[b]? = w.heap[b]? := fun b hb => (set_other _ g 16 b k' hb).trans (set_other w g 15 b _ hb)
  refine ⟨⟨(h.blk.set 15 (.int .i64 a)).set 16 k', fun f hf => own_same (h.file f hf) fun b hb => hs b (h.ffile hf hb).2, own_same h.pend fun b hb => hs b (h.fq hb).2, fun _ => own_same ho fun b hb => hs b (fun e => own_ne ho h.blk (by decide) (by rw [← e]; exact hb)), h.apart, ⟨h.good.len, h.good.pcs, h.good.q, h.good.lost0, h.good.lost1, h0, h1⟩, by obtain ⟨_, _, _, e⟩ := own_slice ho; rw [e]; rfl⟩, ?_⟩
  exact (Mv.set h.blk 15 (.int .i64 a) (fun x hx => by cases hx)).trans (Mv.set (h.blk.set 15 (.int .i64 a)) 16 k' (fun x _ => .inl (by omega)))
set_option maxHeartbeats 1000000 in
set_option maxRecDepth 100000 in
theorem arm_any (g : Nat) (D : Dk.Disk) (n : Int) (hn : n ≤ 9223372036854775807) (a : Option Addr) (b off kn kcap : Nat) (ks : List Int) (w : World) (h : DiskAt w g D) (hk : IR w a b off ks) (hkn : ks.length = kn) (hnil : a = none → kcap = 0) (hl : kn ≤ 100000000) :
    Calls Try.prog 33 #[.pointer (some ⟨g, 0, none⟩), .int .i64 n, .slice a kn kcap] w fun e w' => (∃ v, e = .returned v) ∧ DiskAt w' g (Dk.arm D n ks) ∧ Mv g w w' := by
  obtain ⟨vs, q, k, h⟩ := h
  have C := Lib.hid (cloneI_arg a b off kn kcap ks w hk hkn hnil hl)
  have H := Lib.hid h
  have KEY := Lib.hid (fun (w1 : World) (v' : Value) (m : Int) (hm0 : 0 ≤ m) (hm1 : m ≤ 9223372036854775807) (ho : w1.ownsRow w.heap.size 3 1 v' ks.length (iv ks)) (hb : Below w.heap.size w w1) =>
    show Hid (DiskV ((w1.setCell ⟨g, 15, none⟩ (.int .i64 m)).setCell ⟨g, 16, none⟩ v') g vs q v' { D with armed := m, keep := ks } ∧ Mv g w ((w1.setCell ⟨g, 15, none⟩ (.int .i64 m)).setCell ⟨g, 16, none⟩ v')) from by
      have h1 := h.below hb
      obtain ⟨x, y⟩ := h1.arm2 m hm0 hm1 v' ks (own_base ho)
      exact ⟨x, (Mv.of_below hb h.lt).trans y⟩)
  have FACT := Lib.hid (fun (w1 : World) (hb : Below w.heap.size w w1) => show w1.frozen? ⟨g, 15, none⟩ = false ∧ w1.frozen? ⟨g, 16, none⟩ = false ∧ w1.cell? ⟨g, 15, none⟩ = some (.int .i64 D.armed) ∧ w1.cell? ⟨g, 16, none⟩ = some k from by
      have h1 := h.below hb
      exact ⟨h1.blk.free 15, h1.blk.free 16, h1.carmed, h1.ckeep⟩)
  clear h hk hkn
  by_cases h0 : 0 ≤ n
  · have HM := Lib.hid (show Dk.arm D n ks = { D with armed := n, keep := ks } from by unfold Dk.arm; rw [Int.max_eq_left h0])
    go_enter Try.func33, Try.ntmps33
    go_wp2_with (go_at_call 50; refine C.out.mono ?_; rintro _ w1 ⟨v1, rfl, ho, hb⟩; obtain ⟨fr15, fr16, cc15, cc16⟩ := FACT.out w1 hb; obtain ⟨pa, nn, cc, hv1⟩ := own_slice ho; subst hv1; have HK := Lib.hid (fun m h0 h1 => KEY.out w1 _ m h0 h1 ho hb); clear ho hb)
    all_goals go_end0
    all_goals rw [HM.out]
    all_goals first | (exfalso; omega) | exact ⟨⟨_, rfl⟩, ⟨_, _, _, (HK.out n h0 hn).out.1⟩, (HK.out n h0 hn).out.2⟩
  · have HM := Lib.hid (show Dk.arm D n ks = { D with armed := 0, keep := ks } from by unfold Dk.arm; rw [Int.max_eq_right (by omega)])
    go_enter Try.func33, Try.ntmps33
    go_wp2_with (go_at_call 50; refine C.out.mono ?_; rintro _ w1 ⟨v1, rfl, ho, hb⟩; obtain ⟨fr15, fr16, cc15, cc16⟩ := FACT.out w1 hb; obtain ⟨pa, nn, cc, hv1⟩ := own_slice ho; subst hv1; have HK := Lib.hid (fun m h0 h1 => KEY.out w1 _ m h0 h1 ho hb); clear ho hb)
    all_goals go_end0
    all_goals rw [HM.out]
    all_goals first | (exfalso; omega) | exact ⟨⟨_, rfl⟩, ⟨_, _, _, (HK.out 0 (by omega) (by omega)).out.1⟩, (HK.out 0 (by omega) (by omega)).out.2⟩
end Go.Proofs.Ytbelmadbjiiodaa
namespace Go.Proofs.Ytbelmadbjiiodaa
open Go Go.RowKit
namespace Dk
def ec : E → Int | .ok => 0 | .arg => 1 | .full => 6 | .down => 8 | .state => 7 | .lost => 9
theorem pieces_fuel (f : Nat) : ∀ (n at_ : Nat) (s : B), s.length ≤ n → pieces f n at_ s = pieces f s.length at_ s
  | n, at_, [], _ => by simp [pieces_nil]
  | 0, at_, c :: s, h => by simp at h
  | n + 1, at_, c :: s, h => by
    show pieces f (n + 1) at_ (c :: s) = pieces f (s.length + 1) at_ (c :: s)
    unfold pieces
    congr 1
    have hl : ((c :: s).drop (64 - at_ % 64)).length ≤ s.length := by rw [List.length_drop]; simp only [List.length_cons]; omega
    rw [pieces_fuel f n _ _ (by simp at h; omega), pieces_fuel f s.length _ _ hl]
theorem pieces_cons (f n at_ : Nat) (c : UInt8) (t : B) : pieces f (n + 1) at_ (c :: t) = ⟨f, at_, (c :: t).take (64 - at_ % 64)⟩ :: pieces f n (at_ + (64 - at_ % 64)) ((c :: t).drop (64 - at_ % 64)) := rfl
theorem pieces_step (f at_ : Nat) (s : B) (hs : s ≠ []) (n : Nat) (hn : n = min s.length (64 - at_ % 64)) : pieces f s.length at_ s = ⟨f, at_, s.take n⟩ :: pieces f (s.drop n).length (at_ + n) (s.drop n) := by
  obtain ⟨m, hm⟩ : ∃ m, 64 - at_ % 64 = m := ⟨_, rfl⟩
  match s, hs with
  | c :: t, _ =>
    have ht : (c :: t).take n = (c :: t).take m := by
      rw [hm] at hn
      by_cases hc : (c :: t).length ≤ m
      · rw [hn, Nat.min_eq_left hc, List.take_of_length_le (Nat.le_refl _), List.take_of_length_le hc]
      · rw [hn, Nat.min_eq_right (by omega)]
    have hd : (c :: t).drop n = (c :: t).drop m := by
      rw [hm] at hn
      by_cases hc : (c :: t).length ≤ m
      · rw [hn, Nat.min_eq_left hc, List.drop_of_length_le (Nat.le_refl _), List.drop_of_length_le hc]
      · rw [hn, Nat.min_eq_right (by omega)]
    show pieces f (t.length + 1) at_ (c :: t) = _
    rw [pieces_cons, hm, ht, hd]
    congr 1
    by_cases hc : (c :: t).length ≤ m
    · rw [List.drop_of_length_le hc, pieces_nil, pieces_nil]
    · have : n = m := by rw [hn, hm, Nat.min_eq_right (by omega)]
      rw [this, pieces_fuel f t.length _ _ (by rw [List.length_drop]; simp only [List.length_cons]; omega)]
theorem pieces_len (f : Nat) : ∀ (n at_ : Nat) (s : B), (pieces f n at_ s).length ≤ s.length
  | 0, at_, s => by simp [pieces]
  | n + 1, at_, [] => by simp [pieces]
  | n + 1, at_, c :: s => by
    unfold pieces
    have := pieces_len f n (at_ + (64 - at_ % 64)) ((c :: s).drop (64 - at_ % 64))
    rw [List.length_drop] at this
    simp only [List.length_cons] at this ⊢
    omega
theorem writeB_up (D : Disk) (hd : D.down = false) (f at_ : Int) (s : B) : writeB D f at_ s = if isFile f = true then (if at_ < 0 then (.arg, D) else if fits at_ s = true then (.ok, add D f.toNat at_.toNat s) else (.full, D)) else (.arg, D) := by
  unfold writeB may
  rw [hd]
  by_cases h : isFile f = true
  · simp [h]
  · simp [h]
end Dk
section
variable {w : World} {ops : Array Oper} {o : Oper} {a : Act} {Q : Exit → Act → World → Prop}
theorem step_app_piece {K : Act → World → Prop} {E : Prop} (hgd : o.guard = none) (s x : Operand) (ho : o.op = .call { callee := .builtin .append, args := #[s, x], argTypes := #[47, 47] })
    {v : Value} {L : List Dk.Piece} (hs : a.eval s = v) (hown : w.ownsRow 0 57 3 v L.length (pv L)) (ad : Addr) (c : Nat) (p : Dk.Piece) (hx : a.eval x = .slice (some ad) 1 c) (hnews : ∀ j u, (pc p)[j]? = some u → w.cell? (ad.add j) = some u) (hbig : L.length ≤ 1000000000)
    (h : ∀ v' w', w'.ownsRow 0 57 3 v' (L ++ [p]).length (pv (L ++ [p])) → w.grownBy w' v.ownBlock → SF w v v' → K (a.put o.dst v') w') : if Region.wanted o (yielded ops a.tmps) = true then Oper.wp Try.prog o a w K Q else E := by
  have hw : Region.wanted o (yielded ops a.tmps) = true := by simp [Region.wanted, hgd]
  rw [if_pos hw]
  obtain ⟨i0, hi, hz0, hz1, hz2⟩ := info_parts infoP
  obtain ⟨v', w', hr, h2, h3, h4⟩ := app_same w o.type i0 _ 32 Try.underlying47 hi hz0 hz1 hz2 rfl (by omega) hown ad 1 c (pc p) rfl hnews (by intro u hu; simp [pc] at hu; rcases hu with rfl | rfl | rfl <;> rfl) (by unfold maxLen; omega) (by omega) (Nat.zero_le _)
  unfold Oper.wp execOp
  simp only [ho, resolve, invoke, builtin, Sem.run_bind, Sem.run_pure, Result.andThen_ok, List.map_toArray, List.map_cons, List.map_nil, hs, hx, hr]
  refine h v' w' ?_ h3 h4
  have e : (L ++ [p]).length = L.length + 1 := by simp
  have e2 : pv (L ++ [p]) = pv L ++ pc p := by rw [pv_append]; simp [pv]
  rw [e, e2]
  exact h2
end
theorem new_piece (w : World) (p : Dk.Piece) (t : TypeId) : ∀ j u, (pc p)[j]? = some u → (w.alloc (.cells #[.int .i64 (p.f : Int), .int .i64 (p.at_ : Int), .string (enc p.s)] t)).cell? (Addr.add ⟨w.heap.size, 0, none⟩ j) = some u := fun j u hj => by
  have h2 : (⟨w.heap.size, 0, none⟩ : Addr).add j = ⟨w.heap.size, j, none⟩ := by unfold Addr.add; split <;> simp_all
  rw [h2]
  exact (Blk.made w #[.int .i64 (p.f : Int), .int .i64 (p.at_ : Int), .string (enc p.s)] t).cell hj
set_option maxHeartbeats 4000000 in
set_option maxRecDepth 100000 in
theorem write_loop (g : Nat) (vs : Nat → Value) (q k : Value) (D : Dk.Disk) (f at_ : Nat) (hf : f < 12) (s : ByteArray) (hat : at_ + s.size ≤ 16777216) (hq : D.queue.length + s.size ≤ 1000000) (w : World) (h : DiskV w g vs q k D) :
    Calls Try.prog 30 #[.pointer (some ⟨g, 0, none⟩), .int .i64 (f : Int), .int .i64 (at_ : Int), .string s] w fun e w' => e = .returned (.int .i64 0) ∧ (∃ q', DiskV w' g vs q' k (Dk.add D f at_ s.data.toList)) ∧ Mv g w w' := by
  have C := Lib.hid (isFile_any (f : Int) w)
  have hif : Dk.isFile (f : Int) = true := by unfold Dk.isFile; simp; omega
  rw [hif] at C
  have hsz := Lib.size_eq s
  have H := Lib.hid h
  have HSZ := Lib.hid hsz
  have hle : ¬ (16777216 - (s.size : Int) < (at_ : Int)) := by omega
  clear h hif hsz
  go_enter Try.func30, Try.ntmps30
  go_wp2_with (go_at_call 41; refine C.out.mono ?_; rintro _ w1 ⟨rfl, rfl⟩)
  go_loopw [2, 3, 9] (fun x2 x3 x9 wr => ∃ (b : Nat) (t : ByteArray) (q' : Value) (L : List Dk.Piece), x2 = .int .i64 b ∧ x3 = .string t ∧ b + t.size ≤ 16777216 ∧ L.length + t.size ≤ 1000000 ∧ Hid (L ++ Dk.pieces f t.size b t.data.toList = D.queue ++ Dk.pieces f s.size at_ s.data.toList) ∧ Hid (DiskV wr g vs q' k { D with queue := L }) ∧ Hid (Mv g w wr)) (fun _ x3 _ _ => match x3 with | .string t => t.size | _ => 0)
  case atStart => exact ⟨at_, s, q, D.queue, rfl, rfl, hat, hq, rfl, H.out, Mv.refl _ _⟩
  case round =>
    obtain ⟨b, t, q1, L, rfl, rfl, hb, hL, hP, hD, hMv⟩ := hrel
    by_cases ht : t.data.toList = []
    · have hte : t.toList.isEmpty = true := by rw [ByteArray.toList_eq, ht]; rfl
      have hte2 : (t.toList != []) = false := by rw [ByteArray.toList_eq, ht]; rfl
      have ht0 : t.size = 0 := by rw [Lib.size_eq, ht]; rfl
      have HF := Lib.hid (show L = D.queue ++ Dk.pieces f s.data.toList.length at_ s.data.toList from by
        have := hP.out
        rw [ht, Dk.pieces_nil, List.append_nil, Lib.size_eq s] at this
        exact this)
      clear ht
      go_wp2
      go_ret
      refine ⟨rfl, ⟨q1, ?_⟩, hMv.out⟩
      have := hD.out
      rw [HF.out] at this
      exact this
    · obtain ⟨m, hm⟩ : ∃ m, min t.data.toList.length (64 - b % 64) = m := ⟨_, rfl⟩
      have hST := Dk.pieces_step f b t.data.toList ht m hm.symm
      have htz := Lib.size_eq t
      have hte : t.toList.isEmpty = false := by
        rw [ByteArray.toList_eq]
        cases h : t.data.toList with
        | nil => exact absurd h ht
        | cons x l => rfl
      have hte2 : (t.toList != []) = true := by
        rw [ByteArray.toList_eq]
        cases h : t.data.toList with
        | nil => exact absurd h ht
        | cons x l => rfl
      have hm0 : 0 < m := by
        have : 0 < t.data.toList.length := List.length_pos_iff.2 ht
        rw [← hm]; omega
      have hm1 : m ≤ t.size := by rw [htz, ← hm]; exact Nat.min_le_left _ _
      have hm2 : m ≤ 64 := by rw [← hm]; omega
      obtain ⟨r, hr⟩ : ∃ r, b % 64 = r := ⟨_, rfl⟩
      rw [hr] at hm
      have hr64 : r < 64 := by omega
      have hrem : Int.tmod (b : Int) 64 = (r : Int) := by rw [Int.tmod_eq_emod_of_nonneg (by omega)]; omega
      have hsub : (64 : Int) - (r : Int) = ((64 - r : Nat) : Int) := by omega
      have hmin : min (t.size : Int) ((64 - r : Nat) : Int) = (m : Int) := by rw [htz]; omega
      have c12 := hD.out.cq
      have f12 := hD.out.blk.free 12
      have hgl : g < wr.heap.size := hD.out.lt
      have hn1 : g ≠ wr.heap.size := by omega
      have hn2 : wr.heap.size ≠ g := by omega
      have HST := Lib.hid hST
      have HM := Lib.hid hm
      have HTZ := Lib.hid htz
      clear hST hm htz ht
      obtain ⟨qa, gq, qc, hq1⟩ := own_slice hD.out.pend
      subst hq1
      have HOW := Lib.hid (fun o : Obj => show (wr.alloc o).ownsRow 0 57 3 (.slice qa gq qc) L.length (pv L) from (hD.out.alloc o).pend)
      have KEY := Lib.hid (fun (wx : World) (hDx : DiskV wx g vs (.slice qa gq qc) k { D with queue := L }) (hMx : Mv g w wx) (p : Dk.Piece) (hp : p.f < 12 ∧ p.s ≠ [] ∧ p.at_ + p.s.length ≤ 16777216) (w1 : World) (v1 : Value) (ho : w1.ownsRow 0 57 3 v1 (L ++ [p]).length (pv (L ++ [p]))) (hg : wx.grownBy w1 (Value.slice qa gq qc).ownBlock) (hs : SF wx (.slice qa gq qc) v1) =>
        show Hid (DiskV (w1.setCell ⟨g, 12, none⟩ v1) g vs v1 k { D with queue := L ++ [p] } ∧ Mv g w (w1.setCell ⟨g, 12, none⟩ v1)) ∧ w1.frozen? ⟨g, 12, none⟩ = false ∧ w1.cell? ⟨g, 12, none⟩ = some (.slice qa gq qc) ∧ ∃ pa n c, v1 = .slice pa n c from by
          have hbig : (L ++ [p]).length ≤ 1000000 := by simp; omega
          obtain ⟨x, y⟩ := hDx.setQ hg ho hs.sub (fun p' hp' => by
            rcases List.mem_append.1 hp' with h1 | h1
            · exact hD.out.good.pcs p' h1
            · simp at h1; subst h1; exact hp) hbig
          have hgg : Blk w1 g _ _ := (hg.block g hDx.lt (fun e => (hDx.fq e.symm).2 rfl)).trans hDx.blk
          exact ⟨⟨x, hMx.trans y⟩, hgg.free 12, hgg.cell rfl, own_slice ho⟩)
      by_cases hc : t.size ≤ 64 - r
      · obtain rfl : m = t.size := by omega
        have hT : enc t.data.toList = t := rfl
        have HPG := Lib.hid (show (⟨f, b, t.data.toList⟩ : Dk.Piece).f < 12 ∧ t.data.toList ≠ [] ∧ b + t.data.toList.length ≤ 16777216 from ⟨hf, fun e => by have h5 := Lib.size_eq t; rw [e, List.length_nil] at h5; omega, by rw [← HTZ.out]; exact hb⟩)
        go_wp2
        all_goals try (exfalso; omega)
        go_region_law (refine step_app_piece rfl (.tmp 34) (.tmp 41) rfl (by simp [Act.eval]) (HOW.out _) ⟨wr.heap.size, 0, none⟩ 1 ⟨f, b, t.data.toList⟩ (by simp [Act.eval]) (new_piece wr ⟨f, b, t.data.toList⟩ _) (by omega) ?_; intro v1 w1 ho1 hg1 hs1; obtain ⟨HK, fr1, cc1, pa, nn, cc, hv1⟩ := KEY.out _ (by first | exact (hD.out.alloc _).drew | exact hD.out.drew.alloc _) (by first | exact (hMv.out.alloc H.out.lt _).drew | exact hMv.out.drew.alloc H.out.lt _) _ HPG.out w1 v1 ho1 hg1 hs1; subst hv1; clear ho1 hg1 hs1)
        all_goals go_wp2
        all_goals go_quiet (fail)
        all_goals go_wp2
        all_goals
          go_roundw
          case rel =>
            refine ⟨b + t.size, ByteArray.empty, .slice pa nn cc, L ++ [⟨f, b, t.data.toList⟩], by first | rfl | go_num, rfl, by show b + t.size + 0 ≤ _; omega, by rw [List.length_append]; show L.length + 1 + 0 ≤ _; omega, ?_, Lib.hid (HK.out.1.drews _), Lib.hid (HK.out.2.drews _)⟩
            have h1 := hP.out
            rw [HTZ.out, HST.out, List.take_of_length_le (by rw [HTZ.out]; exact Nat.le_refl _), List.drop_of_length_le (by rw [HTZ.out]; exact Nat.le_refl _)] at h1
            show (L ++ [⟨f, b, t.data.toList⟩]) ++ Dk.pieces f 0 (b + t.size) [] = _
            rw [Dk.pieces_nil, List.append_nil]
            simpa [Dk.pieces_nil] using h1
          case measure => exact hm0
      · obtain rfl : m = 64 - r := by omega
        have hT : enc (t.data.toList.take (64 - r)) = t.extract 0 (64 - r) := by rw [← ext_take]; rfl
        have HPG := Lib.hid (show (⟨f, b, t.data.toList.take (64 - r)⟩ : Dk.Piece).f < 12 ∧ t.data.toList.take (64 - r) ≠ [] ∧ b + (t.data.toList.take (64 - r)).length ≤ 16777216 from ⟨hf, fun e => by have h5 := congrArg List.length e; rw [List.length_take, ← HTZ.out, List.length_nil] at h5; omega, by rw [List.length_take, ← HTZ.out]; omega⟩)
        have HNP := Lib.hid (fun t' => new_piece wr ⟨f, b, t.data.toList.take (64 - r)⟩ t')
        rw [show enc (t.data.toList.take (64 - r)) = t.extract 0 (64 - r) from hT] at HNP
        have HDR := Lib.hid (show (t.extract (64 - r) t.size).data.toList = t.data.toList.drop (64 - r) from Lib.extract_to_end t (64 - r))
        have hds : (t.extract (64 - r) t.size).size = t.size - (64 - r) := by rw [ByteArray.size_extract]; omega
        have HDS := Lib.hid hds
        clear hds
        go_wp2
        all_goals try (exfalso; omega)
        go_region_law (refine step_app_piece rfl (.tmp 34) (.tmp 41) rfl (by simp [Act.eval]) (HOW.out _) ⟨wr.heap.size, 0, none⟩ 1 ⟨f, b, t.data.toList.take (64 - r)⟩ (by simp [Act.eval]) (HNP.out _) (by omega) ?_; intro v1 w1 ho1 hg1 hs1; obtain ⟨HK, fr1, cc1, pa, nn, cc, hv1⟩ := KEY.out _ (by first | exact (hD.out.alloc _).drew | exact hD.out.drew.alloc _) (by first | exact (hMv.out.alloc H.out.lt _).drew | exact hMv.out.drew.alloc H.out.lt _) _ HPG.out w1 v1 ho1 hg1 hs1; subst hv1; clear ho1 hg1 hs1)
        all_goals go_wp2
        all_goals go_quiet (fail)
        all_goals go_wp2
        all_goals
          go_roundw
          case rel =>
            refine ⟨b + (64 - r), t.extract (64 - r) t.size, .slice pa nn cc, L ++ [⟨f, b, t.data.toList.take (64 - r)⟩], by first | rfl | go_num, rfl, by rw [HDS.out]; omega, by rw [List.length_append, HDS.out]; show L.length + 1 + _ ≤ _; omega, ?_, Lib.hid (HK.out.1.drews _), Lib.hid (HK.out.2.drews _)⟩
            have h1 := hP.out
            rw [HTZ.out, HST.out] at h1
            show _ = _
            rw [Lib.size_eq (t.extract (64 - r) t.size), HDR.out]
            simpa using h1
          case measure => show (t.extract (64 - r) t.size).size < t.size; rw [HDS.out]; omega
end Go.Proofs.Ytbelmadbjiiodaa
