/-
  The contract of text.Same.
-/
import Derived.Test.YtpigplnnmhjbkaaDoorSmall
namespace Go.Proofs.YtpigplnnmhjbkaaDoor
open Go Go.RowKit Go.Shelf
namespace Tx
/-- Equal but for the case of letters. -/
def same (a b : List UInt8) : Bool := lowL a == lowL b
theorem same_len (a b : List UInt8) (h : a.length ≠ b.length) : same a b = false := by
  unfold same lowL
  rw [beq_eq_false_iff_ne]
  intro e
  apply h
  have := congrArg List.length e
  simpa using this
/-- The first k bytes are equal but for the case of letters. -/
def sameTo (a b : List UInt8) (k : Nat) : Prop := ∀ (j : Nat) (x y : UInt8), j < k → a[j]? = some x → b[j]? = some y → lowB x = lowB y
theorem sameTo.zero (a b : List UInt8) : sameTo a b 0 := fun _ _ _ h => absurd h (Nat.not_lt_zero _)
theorem sameTo.succ {a b : List UInt8} {k : Nat} {x y : UInt8} (h : sameTo a b k) (hx : a[k]? = some x) (hy : b[k]? = some y) (he : lowB x = lowB y) : sameTo a b (k + 1) := by
  intro j x' y' hj h1 h2
  by_cases hjk : j = k
  · subst hjk
    rw [hx] at h1; rw [hy] at h2
    cases h1; cases h2; exact he
  · exact h j x' y' (by omega) h1 h2
theorem sameTo.all {a b : List UInt8} (hl : a.length = b.length) (h : sameTo a b a.length) : same a b = true := by
  unfold same lowL
  rw [beq_iff_eq]
  apply List.ext_getElem?
  intro j
  rw [List.getElem?_map, List.getElem?_map]
  by_cases hj : j < a.length
  · have h1 : a[j]? = some a[j] := List.getElem?_eq_getElem hj
    have h2 : b[j]? = some (b[j]'(by omega)) := List.getElem?_eq_getElem (by omega)
    rw [h1, h2, Option.map_some, Option.map_some, h j _ _ hj h1 h2]
  · rw [List.getElem?_eq_none (by omega), List.getElem?_eq_none (by omega)]
theorem same_no {a b : List UInt8} {k : Nat} {x y : UInt8} (hx : a[k]? = some x) (hy : b[k]? = some y) (he : lowB x ≠ lowB y) : same a b = false := by
  unfold same lowL
  rw [beq_eq_false_iff_ne]
  intro e
  have := congrArg (fun l => l[k]?) e
  simp only [List.getElem?_map, hx, hy, Option.map_some, Option.some.injEq] at this
  exact he this
end Tx

set_option maxHeartbeats 1000000 in
set_option maxRecDepth 100000 in
theorem same_any (a b : ByteArray) (w : World) (ha : a.size ≤ 9223372036854775807) :
    Calls Tryd.prog 16 #[.string a, .string b] w fun e w' => e = .returned (.bool (Tx.same a.data.toList b.data.toList)) ∧ ∃ n, w' = w.drewN n := by
  have hal := Lib.size_eq a
  have hbl := Lib.size_eq b
  by_cases hne : a.size = b.size
  · have hd : ((a.size : Int) != (b.size : Int)) = false := by rw [hne]; simp
    have HL := Lib.hid hne
    have HA := Lib.hid hal
    have HB := Lib.hid hbl
    clear hne hal hbl
    go_enter Tryd.func16, Tryd.ntmps16
    go_wp2
    go_loopw [13] (fun i wr => ∃ k : Nat, i = .int .i64 k ∧ k ≤ a.size ∧ Hid (Tx.sameTo a.data.toList b.data.toList k) ∧ Hid (∃ n, wr = w.drewN n)) (fun i _ => a.size - (intOf i).toNat)
    case atStart => exact ⟨0, rfl, Nat.zero_le _, Tx.sameTo.zero _ _, ⟨0, rfl⟩⟩
    case round =>
      obtain ⟨k, rfl, hk, hto, hwr⟩ := hrel
      by_cases hlt : k < a.size
      · have hltb : k < b.size := by rw [← HL.out]; exact hlt
        have gA := Tx.get_of a k hlt
        have gB := Tx.get_of b k hltb
        obtain ⟨x, hx⟩ : ∃ x, a[k] = x := ⟨_, rfl⟩
        obtain ⟨y, hy⟩ : ∃ y, b[k] = y := ⟨_, rfl⟩
        rw [hx] at gA
        rw [hy] at gB
        by_cases he : Tx.lowB x = Tx.lowB y
        · have hq : (((Tx.lowB x).toNat : Int) != ((Tx.lowB y).toNat : Int)) = false := by rw [he]; simp
          have HN := Lib.hid (hto.out.succ gA gB he)
          clear gA gB he
          go_wp2
          go_quiet ((go_at_call 35; exact Calls.quiet_of_same (lower_any _ _)))
          go_wp2
          go_roundw
          case rel => exact ⟨k + 1, by go_num, by omega, HN.out, drews_more hwr.out _⟩
          case measure => simp [intOf]; omega
        · have hq : (((Tx.lowB x).toNat : Int) != ((Tx.lowB y).toNat : Int)) = true := by
            rw [bne_iff_ne]; intro e; exact he (by rw [← UInt8.toNat_inj]; omega)
          have HN := Lib.hid (Tx.same_no gA gB he)
          clear gA gB he
          go_wp2
          go_quiet ((go_at_call 35; exact Calls.quiet_of_same (lower_any _ _)))
          go_wp2
          go_ret
          exact ⟨by rw [HN.out]; rfl, drews_more hwr.out _⟩
      · have hN : Tx.same a.data.toList b.data.toList = true := by
          obtain rfl : k = a.size := by omega
          refine Tx.sameTo.all (by rw [← HA.out, ← HB.out]; exact HL.out) ?_
          rw [← HA.out]; exact hto.out
        have HN := Lib.hid hN
        clear hN
        go_wp2
        go_ret
        exact ⟨by rw [HN.out]; rfl, hwr.out⟩
  · have hd : ((a.size : Int) != (b.size : Int)) = true := by rw [bne_iff_ne]; omega
    have HN := Lib.hid (Tx.same_len a.data.toList b.data.toList (by rw [← hal, ← hbl]; exact hne))
    clear hne hal hbl
    go_enter Tryd.func16, Tryd.ntmps16
    go_wp2
    go_ret
    exact ⟨by rw [HN.out]; rfl, 0, rfl⟩
end Go.Proofs.YtpigplnnmhjbkaaDoor
