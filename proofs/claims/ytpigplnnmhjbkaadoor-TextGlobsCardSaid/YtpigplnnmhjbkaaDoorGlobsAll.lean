/-
  The law on patterns: all of its ways together.
-/
import Derived.Test.YtpigplnnmhjbkaaDoorGlobs
namespace Go.Proofs.YtpigplnnmhjbkaaDoor
open Go Go.RowKit Go.Shelf
namespace Tx
theorem tail_of (P : ByteArray) : (P.extract 1 P.size).data.toList = P.data.toList.tail := by
  rw [Lib.extract_from, List.drop_one]
theorem cons_of (P : ByteArray) (h : 0 < P.size) : P.data.toList = P[0] :: (P.extract 1 P.size).data.toList := by
  have h1 := get_of P 0 h
  have h2 := drop_at P.data.toList 0 _ h1
  rw [List.drop_zero] at h2
  rw [tail_of, h2]
  simp
theorem head_of (P : ByteArray) (h : 0 < P.size) : (P.extract 0 1).data.toList = [P[0]] := by
  have h1 := cons_of P h
  rw [Lib.extract_upto]
  show List.take 1 P.data.toList = _
  rw [h1]; rfl
theorem nil_of (P : ByteArray) (h : P.size = 0) : P.data.toList = [] := List.eq_nil_of_length_eq_zero (by rw [← Lib.size_eq]; exact h)
end Tx

set_option maxHeartbeats 1000000 in
set_option maxRecDepth 100000 in
theorem globs_long (P s : ByteArray) (w : World) (hm : MaxAt w) (hP : P.size ≤ 9223372036854775807) (hs : s.size ≤ 9223372036854775807) (hl : 60 < P.size ∨ 60 < s.size) :
    Calls Tryd.prog 8 #[.string P, .string s] w fun e w' => e = .returned (.bool true) ∧ Below w.heap.size w w' := by
  have HM := Lib.hid hm
  clear hm
  by_cases h1 : 60 < P.size
  · clear hl
    go_enter Tryd.func8, Tryd.ntmps8
    go_wp2_with fail
    refine (small_any _ HM.out).mono ?_
    rintro e w1 ⟨rfl, hB1⟩
    go_wp2
    go_ret
    exact ⟨rfl, hB1⟩
  · have h2 : 60 < s.size := by omega
    clear hl
    go_enter Tryd.func8, Tryd.ntmps8
    go_wp2_with fail
    refine (small_any _ HM.out).mono ?_
    rintro e w1 ⟨rfl, hB1⟩
    go_wp2
    go_ret
    exact ⟨rfl, hB1⟩

set_option maxHeartbeats 1000000 in
set_option maxRecDepth 100000 in
theorem globs_empty (P s : ByteArray) (w : World) (hm : MaxAt w) (hP : P.size = 0) (hs : s.size ≤ 60) :
    Calls Tryd.prog 8 #[.string P, .string s] w fun e w' => e = .returned (.bool true) ∧ Below w.heap.size w w' := by
  have hemp := Tx.is_empty P hP
  have HM := Lib.hid hm
  have hP2 : P.size ≤ 60 := by omega
  have hnil := Tx.nil_of P hP
  by_cases h0 : s.size = 0
  · have hse := Tx.is_empty s h0
    have HG := Lib.hid (fun W => globG (P := P) (s := s) (g := true) (by rw [hnil, Tx.nil_of s h0]; rfl) (by omega) (by omega) W)
    clear hm hP hnil h0
    go_enter Tryd.func8, Tryd.ntmps8
    go_wp2_with fail
    refine (small_any _ HM.out).mono ?_
    rintro e w1 ⟨rfl, hB1⟩
    go_wp2_with fail
    refine (HG.out _).mono ?_
    rintro e w2 ⟨rfl, n2, rfl⟩
    go_wp2
    go_ret
    exact ⟨rfl, below_drews hB1 _⟩
  · have hse := Tx.not_empty s (by omega)
    have HG := Lib.hid (fun W => globG (P := P) (s := s) (g := false) (by rw [hnil, Tx.cons_of s (by omega)]; rfl) (by omega) (by omega) W)
    clear hm hP hnil h0
    go_enter Tryd.func8, Tryd.ntmps8
    go_wp2_with fail
    refine (small_any _ HM.out).mono ?_
    rintro e w1 ⟨rfl, hB1⟩
    go_wp2_with fail
    refine (HG.out _).mono ?_
    rintro e w2 ⟨rfl, n2, rfl⟩
    go_wp2
    go_ret
    exact ⟨rfl, below_drews hB1 _⟩

theorem globs_any (P s : ByteArray) (w : World) (hm : MaxAt w) (hP : P.size ≤ 9223372036854775807) (hs : s.size ≤ 9223372036854775807) :
    Calls Tryd.prog 8 #[.string P, .string s] w fun e w' => e = .returned (.bool true) ∧ Below w.heap.size w w' := by
  by_cases hl : 60 < P.size ∨ 60 < s.size
  · exact globs_long P s w hm hP hs hl
  have hP6 : P.size ≤ 60 := by omega
  have hs6 : s.size ≤ 60 := by omega
  by_cases hP0 : P.size = 0
  · exact globs_empty P s w hm hP0 hs6
  have hpos : 0 < P.size := by omega
  have hcons := Tx.cons_of P hpos
  by_cases hc : P[0] = 42
  · rw [hc] at hcons
    cases hr : Tx.glob (P.extract 1 P.size).data.toList s.data.toList with
    | true => exact globs_1 P s w hm hpos hP6 hs6 hc hr (by rw [hcons, Tx.glob_star_eq, hr]; rfl)
    | false =>
      by_cases hs0 : s.size = 0
      · exact globs_3 P s w hm hpos hP6 hs6 hc hr hs0 (by rw [hcons, Tx.glob_star_eq, hr, Tx.nil_of s hs0]; rfl)
      · have hsp : 0 < s.size := by omega
        have hcs := Tx.cons_of s hsp
        have e : Tx.glob P.data.toList s.data.toList = Tx.glob P.data.toList (s.extract 1 s.size).data.toList := by
          rw [Tx.tail_of]
          rw [hcons, Tx.glob_star_eq, hr, Bool.false_or]
          have : s.data.toList ≠ [] := by rw [hcs]; simp
          simp [this]
        cases hg : Tx.glob P.data.toList (s.extract 1 s.size).data.toList with
        | true => exact globs_2t P s w hm hpos hP6 hs6 hc hr hsp hg (e.trans hg)
        | false => exact globs_2f P s w hm hpos hP6 hs6 hc hr hsp hg (e.trans hg)
  · by_cases hs0 : s.size = 0
    · exact globs_4 P s w hm hpos hP6 hs6 hc hs0 (by rw [hcons, Tx.nil_of s hs0, Tx.glob_char_nil _ _ hc])
    · have hsp : 0 < s.size := by omega
      have hcs := Tx.cons_of s hsp
      have e : Tx.glob P.data.toList s.data.toList = ((decide (P[0] = 63) || decide (Tx.lowB P[0] = Tx.lowB s[0])) && Tx.glob (P.extract 1 P.size).data.toList (s.extract 1 s.size).data.toList) := by
        conv => lhs; rw [hcons, hcs]
        rw [Tx.glob_char _ _ _ _ hc]
      by_cases h63 : P[0] = 63
      · have e2 : Tx.glob P.data.toList s.data.toList = Tx.glob (P.extract 1 P.size).data.toList (s.extract 1 s.size).data.toList := by rw [e]; simp [h63]
        cases hg : Tx.glob (P.extract 1 P.size).data.toList (s.extract 1 s.size).data.toList with
        | true => exact globs_5t P s w hm hpos hP6 hs6 hc h63 hsp hg (e2.trans hg)
        | false => exact globs_5f P s w hm hpos hP6 hs6 hc h63 hsp hg (e2.trans hg)
      · have hsm : Tx.same (P.extract 0 1).data.toList (s.extract 0 1).data.toList = decide (Tx.lowB P[0] = Tx.lowB s[0]) := by
          rw [Tx.head_of P hpos, Tx.head_of s hsp, Tx.same_one]
        by_cases hlo : Tx.lowB P[0] = Tx.lowB s[0]
        · have e2 : Tx.glob P.data.toList s.data.toList = Tx.glob (P.extract 1 P.size).data.toList (s.extract 1 s.size).data.toList := by rw [e]; simp [hlo]
          have hsm2 : Tx.same (P.extract 0 1).data.toList (s.extract 0 1).data.toList = true := by rw [hsm]; simp [hlo]
          cases hg : Tx.glob (P.extract 1 P.size).data.toList (s.extract 1 s.size).data.toList with
          | true => exact globs_6t P s w hm hpos hP6 hs6 hc h63 hsp hsm2 hg (e2.trans hg)
          | false => exact globs_6f P s w hm hpos hP6 hs6 hc h63 hsp hsm2 hg (e2.trans hg)
        · have hsm2 : Tx.same (P.extract 0 1).data.toList (s.extract 0 1).data.toList = false := by rw [hsm]; simp [hlo]
          exact globs_7 P s w hm hpos hP6 hs6 hc h63 hsp hsm2 (by rw [e]; simp [h63, hlo])
end Go.Proofs.YtpigplnnmhjbkaaDoor
