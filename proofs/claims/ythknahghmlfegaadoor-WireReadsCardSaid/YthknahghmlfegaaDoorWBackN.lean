/-
  The reference's Back: what is no canonical numeral.
-/
import Derived.Test.YthknahghmlfegaaDoorWBackR
namespace Go.Proofs.YthknahghmlfegaaDoor
open Go Go.RowKit Go.Shelf

set_option maxHeartbeats 2000000 in
set_option maxRecDepth 100000 in
theorem back_no0 (s : ByteArray) (hs : s.size ≤ 21) (h0 : 0 < s.size) (hp : s[0] ≠ 45) (hn : ∀ z : Int, Wr.i64 z → Wr.encInt z ≠ s.data.toList ++ [59]) (w : World) :
    Calls Tryd.prog 63 #[.string s] w (BackNo w) := by
  have HI : Hid (∀ (z : Int) (W : World), Wr.i64 z → Calls Tryd.prog 14 #[.int .i64 z] W fun e w' => ∃ E : ByteArray, e = .returned (.string E) ∧ (E.toList == (s ++ ⟨#[59]⟩ : ByteArray).toList) = false ∧ Below W.heap.size W w') := fun z W hz => by
    refine (rint_any z hz W).mono fun e w' ⟨h1, h2⟩ => ⟨_, h1, ?_, h2⟩
    have := hn z hz
    rw [Lib.toList_data, Lib.toList_data]
    simpa using this
  clear hn
  have h45 : ((s[0].toNat : Int) == 45) = false := by
    rw [beq_eq_false_iff_ne]
    intro e
    apply hp
    apply UInt8.toNat_inj.1
    have : (45 : UInt8).toNat = 45 := rfl
    omega
  clear hp
  go_enter Tryd.func63, Tryd.ntmps63
  go_wp2
  go_loop [5, 6] (fun n i => ∃ (j : Nat) (a : Int), i = .int .i64 j ∧ 0 ≤ j ∧ j ≤ s.size ∧ n = .int .i64 a ∧ Hid (Wr.i64 a)) (fun _ i => s.size - (intOf i).toNat)
  case atStart => exact ⟨0, 0, rfl, Nat.le_refl _, by omega, rfl, (show Wr.i64 0 by unfold Wr.i64; omega)⟩
  case round =>
    obtain ⟨j, a, rfl, hfj, hj, rfl, ha⟩ := hrel
    by_cases hlt : j < s.size
    · have hj20 : j ≤ 20 := by omega
      by_cases hd1 : 48 ≤ (s[j].toNat : Int)
      · by_cases hd2 : (s[j].toNat : Int) ≤ 57
        · go_wp2
          go_round
          case rel => exact ⟨j + 1, wrap64 (wrap64 (10 * a) - ((s[j].toNat : Int) - 48)), by go_num, by omega, by omega, rfl, wrap64_i64 _⟩
          case measure => simp [intOf]; omega
        · go_wp2
          go_ret2
          exact ⟨0, rfl, Below.refl _ _⟩
      · go_wp2
        go_ret2
        exact ⟨0, rfl, Below.refl _ _⟩
    · obtain rfl : j = s.size := by omega
      go_wp2_with fail
      refine (HI.out _ _ ?_).mono ?_
      · first | exact wrap_i64 _ | (have h1 := ha.out; unfold Wr.i64 at *; first | omega | (unfold wrap64; omega))
      rintro e w1 ⟨E, rfl, hE, hB⟩
      go_wp2
      go_ret2
      exact ⟨_, rfl, hB⟩

set_option maxHeartbeats 2000000 in
set_option maxRecDepth 100000 in
theorem back_no1 (s : ByteArray) (hs : s.size ≤ 21) (h0 : 0 < s.size) (hp : s[0] = 45) (hn : ∀ z : Int, Wr.i64 z → Wr.encInt z ≠ s.data.toList ++ [59]) (w : World) :
    Calls Tryd.prog 63 #[.string s] w (BackNo w) := by
  have HI : Hid (∀ (z : Int) (W : World), Wr.i64 z → Calls Tryd.prog 14 #[.int .i64 z] W fun e w' => ∃ E : ByteArray, e = .returned (.string E) ∧ (E.toList == (s ++ ⟨#[59]⟩ : ByteArray).toList) = false ∧ Below W.heap.size W w') := fun z W hz => by
    refine (rint_any z hz W).mono fun e w' ⟨h1, h2⟩ => ⟨_, h1, ?_, h2⟩
    have := hn z hz
    rw [Lib.toList_data, Lib.toList_data]
    simpa using this
  clear hn
  have h45 : ((s[0].toNat : Int) == 45) = true := by rw [hp]; rfl
  clear hp
  go_enter Tryd.func63, Tryd.ntmps63
  go_wp2
  go_loop [5, 6] (fun n i => ∃ (j : Nat) (a : Int), i = .int .i64 j ∧ 1 ≤ j ∧ j ≤ s.size ∧ n = .int .i64 a ∧ Hid (Wr.i64 a)) (fun _ i => s.size - (intOf i).toNat)
  case atStart => exact ⟨1, 0, rfl, Nat.le_refl _, by omega, rfl, (show Wr.i64 0 by unfold Wr.i64; omega)⟩
  case round =>
    obtain ⟨j, a, rfl, hfj, hj, rfl, ha⟩ := hrel
    by_cases hlt : j < s.size
    · have hj20 : j ≤ 20 := by omega
      by_cases hd1 : 48 ≤ (s[j].toNat : Int)
      · by_cases hd2 : (s[j].toNat : Int) ≤ 57
        · go_wp2
          go_round
          case rel => exact ⟨j + 1, wrap64 (wrap64 (10 * a) - ((s[j].toNat : Int) - 48)), by go_num, by omega, by omega, rfl, wrap64_i64 _⟩
          case measure => simp [intOf]; omega
        · go_wp2
          go_ret2
          exact ⟨0, rfl, Below.refl _ _⟩
      · go_wp2
        go_ret2
        exact ⟨0, rfl, Below.refl _ _⟩
    · obtain rfl : j = s.size := by omega
      go_wp2_with fail
      refine (HI.out _ _ ?_).mono ?_
      · exact ha.out
      rintro e w1 ⟨E, rfl, hE, hB⟩
      go_wp2
      go_ret2
      exact ⟨_, rfl, hB⟩

/-- Back: whether a string is the canonical numeral of an int, and of which one. -/
theorem backR_any (s : ByteArray) (hs : s.size ≤ 21) (w : World) :
    Calls Tryd.prog 63 #[.string s] w fun e w' => ∃ z, e = .returned (.tuple #[.int .i64 z, .bool (Wr.unItoa s.data.toList).isSome]) ∧ (∀ n, Wr.unItoa s.data.toList = some n → z = n) ∧ Below w.heap.size w w' := by
  cases hx : Wr.unItoa s.data.toList with
  | some m =>
    obtain ⟨hd, hi⟩ := Wr.unItoa_some hx
    obtain ⟨h1, h2⟩ := hi
    by_cases h0 : m < 0
    · have hm : -((m.natAbs : Nat) : Int) = m := by omega
      have := back_neg s m.natAbs (by omega) (by omega) (by rw [hd]; unfold Lib.itoa; rw [if_pos h0]) w
      rw [hm] at this
      exact this.mono fun _ _ ⟨a, b⟩ => ⟨m, a, (fun n hn => by injection hn), b⟩
    · have hm : ((m.toNat : Nat) : Int) = m := by omega
      have := back_pos s m.toNat (by omega) (by rw [hd]; unfold Lib.itoa; rw [if_neg h0]) w
      rw [hm] at this
      exact this.mono fun _ _ ⟨a, b⟩ => ⟨m, a, (fun n hn => by injection hn), b⟩
  | none =>
    have hn : ∀ z : Int, Wr.i64 z → Wr.encInt z ≠ s.data.toList ++ [59] := fun z hz e => by
      unfold Wr.encInt at e
      have h1 := List.append_cancel_right e
      rw [← h1, Wr.unItoa_itoa hz] at hx
      cases hx
    have key : Calls Tryd.prog 63 #[.string s] w (BackNo w) := by
      by_cases h0 : s.size = 0
      · exact back_noE s h0 hn w
      · by_cases h45 : s[0] = 45
        · exact back_no1 s hs (by omega) h45 hn w
        · exact back_no0 s hs (by omega) h45 hn w
    exact key.mono fun _ _ ⟨z, a, b⟩ => ⟨z, a, (fun n hn => by cases hn), b⟩
end Go.Proofs.YthknahghmlfegaaDoor
