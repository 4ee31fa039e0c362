/-
  missivelaw01.small: the documented examples have the documented results.
-/
import Derived.Test.YtpigplnnmhjbkaaDoorNum
import Derived.Test.YtpigplnnmhjbkaaDoorGlob
import Derived.Test.YtpigplnnmhjbkaaDoorSqueeze
namespace Go.Proofs.YtpigplnnmhjbkaaDoor
open Go Go.RowKit Go.Shelf

theorem row_shape {w : World} {base : Nat} {e : TypeId} {size : Nat} {v : Value} {n : Nat} {xs : List Value} (h : w.ownsRow base e size v n xs) : ∃ a cap, v = .slice a n cap := by
  rcases h.2 with ⟨rfl, rfl⟩ | ⟨g, cap, _, rfl, _⟩
  · exact ⟨_, _, rfl⟩
  · exact ⟨_, _, rfl⟩
theorem row_some {w : World} {base : Nat} {e : TypeId} {v : Value} {n : Nat} {xs : List Value} (h : w.ownsRow base e 1 v n xs) (hn : 0 < n) :
    ∃ g cap, v = .slice (some ⟨g, 0, none⟩) n cap ∧ base ≤ g ∧ g < w.heap.size ∧ ∀ (j : Nat) (u : Value), xs[j]? = some u → w.cell? ⟨g, j, none⟩ = some u := by
  have hx := h.1
  rcases h.2 with ⟨_, h0⟩ | ⟨g, cap, cur, rfl, hb, hg, _, _, _, ht⟩
  · omega
  · refine ⟨g, cap, rfl, hb, (Array.getElem?_eq_some_iff.1 hg).1, fun j u hu => ?_⟩
    have hj : j < xs.length := (List.getElem?_eq_some_iff.1 hu).1
    have : cur[j]? = some u := by
      rw [← ht, List.getElem?_take_of_lt (by omega)] at hu
      simpa using hu
    simp [World.cell?, hg, this]

theorem lines_c1 (w : World) (hm : MaxAt w) : Calls Tryd.prog 29 #[.string ⟨#[97, 13, 10, 10, 98]⟩] w fun e w' => ∃ g cap, e = .returned (.slice (some ⟨g, 0, none⟩) 3 cap) ∧ w.heap.size ≤ g ∧ g < w'.heap.size ∧
    w'.cell? ⟨g, 0, none⟩ = some (.string ⟨#[97]⟩) ∧ w'.cell? ⟨g, 1, none⟩ = some (.string ⟨#[]⟩) ∧ w'.cell? ⟨g, 2, none⟩ = some (.string ⟨#[98]⟩) ∧ Below w.heap.size w w' := by
  have e : Tx.lines [97, 13, 10, 10, 98] = [[97], [], [98]] := by decide
  refine (lines_any ⟨#[97, 13, 10, 10, 98]⟩ w (by decide) hm).mono ?_
  rintro e' w' ⟨v, rfl, hrow, hb⟩
  change w'.ownsRow _ _ _ _ (Tx.lines [97, 13, 10, 10, 98]).length ((Tx.lines [97, 13, 10, 10, 98]).map encStr) at hrow
  rw [e] at hrow
  obtain ⟨g, cap, rfl, h1, h2, h3⟩ := row_some hrow (by decide)
  exact ⟨g, cap, rfl, h1, h2, h3 0 _ rfl, h3 1 _ rfl, h3 2 _ rfl, hb⟩
theorem lines_c2 (w : World) (hm : MaxAt w) : Calls Tryd.prog 29 #[.string ⟨#[]⟩] w fun e w' => ∃ a cap, e = .returned (.slice a 0 cap) ∧ Below w.heap.size w w' := by
  refine (lines_any ⟨#[]⟩ w (by decide) hm).mono ?_
  rintro e' w' ⟨v, rfl, hrow, hb⟩
  obtain ⟨a, cap, rfl⟩ := row_shape hrow
  exact ⟨a, cap, rfl, hb⟩
theorem lines_c3 (w : World) (hm : MaxAt w) : Calls Tryd.prog 29 #[.string ⟨#[10]⟩] w fun e w' => ∃ a cap, e = .returned (.slice a 1 cap) ∧ Below w.heap.size w w' := by
  refine (lines_any ⟨#[10]⟩ w (by decide) hm).mono ?_
  rintro e' w' ⟨v, rfl, hrow, hb⟩
  obtain ⟨a, cap, rfl⟩ := row_shape hrow
  exact ⟨a, cap, rfl, hb⟩
theorem number_c1 (w : World) : Calls Tryd.prog 10 #[.string ⟨#[48, 48, 55]⟩] w fun e w' => e = .returned (.tuple #[.int .i64 7, .bool true]) ∧ w = w' :=
  (number_any ⟨#[48, 48, 55]⟩ w (by decide)).mono fun _ _ ⟨h1, h2⟩ => ⟨h1.trans (by rfl), h2⟩
theorem number_c2 (w : World) : Calls Tryd.prog 10 #[.string ⟨#[45, 49]⟩] w fun e w' => e = .returned (.tuple #[.int .i64 0, .bool false]) ∧ w = w' :=
  (number_any ⟨#[45, 49]⟩ w (by decide)).mono fun _ _ ⟨h1, h2⟩ => ⟨h1.trans (by rfl), h2⟩
theorem squeeze_c (w : World) : Calls Tryd.prog 20 #[.string ⟨#[32, 97, 32, 9, 32, 98, 13, 10]⟩] w fun e w' => e = .returned (.string ⟨#[97, 32, 98]⟩) ∧ Below w.heap.size w w' :=
  (squeeze_any ⟨#[32, 97, 32, 9, 32, 98, 13, 10]⟩ w (by decide)).mono fun _ _ ⟨h1, h2⟩ => ⟨h1.trans (by rfl), h2⟩
theorem glob_c1 (w : World) : Calls Tryd.prog 31 #[.string ⟨#[42, 64, 42, 46, 69, 120, 97, 109, 112, 108, 101]⟩, .string ⟨#[120, 64, 108, 105, 115, 116, 115, 46, 101, 120, 97, 109, 112, 108, 101]⟩] w fun e w' => e = .returned (.bool true) ∧ ∃ n, w' = w.drewN n := by
  have h : Tx.glob [42, 64, 42, 46, 69, 120, 97, 109, 112, 108, 101] [120, 64, 108, 105, 115, 116, 115, 46, 101, 120, 97, 109, 112, 108, 101] = true := by decide +kernel
  exact (glob_any _ _ w (by decide) (by decide)).mono fun _ _ ⟨h1, h2⟩ => ⟨h1.trans (ret_bool h), h2⟩
theorem glob_c2 (w : World) : Calls Tryd.prog 31 #[.string ⟨#[97, 63]⟩, .string ⟨#[97]⟩] w fun e w' => e = .returned (.bool false) ∧ ∃ n, w' = w.drewN n := by
  have h : Tx.glob [97, 63] [97] = false := by decide +kernel
  exact (glob_any _ _ w (by decide) (by decide)).mono fun _ _ ⟨h1, h2⟩ => ⟨h1.trans (ret_bool h), h2⟩

set_option maxHeartbeats 2000000 in
set_option maxRecDepth 100000 in
theorem small_any (w : World) (hm : MaxAt w) : Calls Tryd.prog 9 #[] w fun e w' => e = .returned (.bool true) ∧ Below w.heap.size w w' := by
  have h0 := hm.pos
  have HM := Lib.hid hm
  clear hm
  go_enter Tryd.func9, Tryd.ntmps9
  go_wp2_with fail
  refine (lines_c1 w HM.out).mono ?_
  rintro e w1 ⟨g, cap, rfl, hg, hg1, c0, c1, c2, hB1⟩
  go_wp2_with fail
  refine (number_c1 _).mono ?_
  rintro e w' ⟨rfl, rfl⟩
  go_wp2_with fail
  refine (number_c2 _).mono ?_
  rintro e w' ⟨rfl, rfl⟩
  go_wp2_with fail
  have hm1 := HM.out.below hB1 h0
  have h01 := hm1.pos
  refine (lines_c2 _ hm1).mono ?_
  rintro e w2 ⟨a2, cap2, rfl, hB2⟩
  have hm2 := hm1.below hB2 h01
  have h02 := hm2.pos
  have hs1 := hB1.size
  have hs2 := hB2.size
  go_wp2_with fail
  refine (lines_c3 _ hm2).mono ?_
  rintro e w3 ⟨a3, cap3, rfl, hB3⟩
  have hs3 := hB3.size
  go_wp2_with fail
  refine (squeeze_c _).mono ?_
  rintro e w4 ⟨rfl, hB4⟩
  go_wp2_with fail
  refine (glob_c1 _).mono ?_
  rintro e w5 ⟨rfl, n5, rfl⟩
  go_wp2_with fail
  refine (glob_c2 _).mono ?_
  rintro e w6 ⟨rfl, n6, rfl⟩
  go_wp2
  go_ret
  exact ⟨rfl, below_drews (((hB1.trans (hB2.mono (by omega))).trans (hB3.mono (by omega))).trans (hB4.mono (by omega))) _⟩
end Go.Proofs.YtpigplnnmhjbkaaDoor
