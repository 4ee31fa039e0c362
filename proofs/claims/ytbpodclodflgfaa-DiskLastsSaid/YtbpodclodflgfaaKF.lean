/-
  The queue's search and its deletion (slices.IndexFunc, ContainsFunc, DeleteFunc at the disk's pieces).
-/
import Derived.Test.YtbpodclodflgfaaKC
namespace Go.Proofs.Ytbpodclodflgfaa
open Go Go.RowKit
/-- Where the first piece of file f lies. -/
def IsIdx (Q : List Dk.Piece) (f : Nat) (r : Int) : Prop :=
  (r = -1 ∧ ∀ p ∈ Q, p.f ≠ f) ∨ ∃ j p, r = ((j : Nat) : Int) ∧ Q[j]? = some p ∧ p.f = f ∧ ∀ p' ∈ Q.take j, p'.f ≠ f
/-- A slice of pieces that reads as a list. -/
structure PR (w : World) (qa : Option Addr) (gq : Nat) (Q : List Dk.Piece) : Prop where
  addr : 0 < Q.length → qa = some ⟨gq, 0, none⟩
  c : ∀ j p, Q[j]? = some p → w.cell? ⟨gq, j * 3, none⟩ = some (.int .i64 (p.f : Int)) ∧ w.cell? ⟨gq, j * 3 + 1, none⟩ = some (.int .i64 (p.at_ : Int)) ∧ w.cell? ⟨gq, j * 3 + 2, none⟩ = some (.string (enc p.s))
  lt : 0 < Q.length → gq < w.heap.size
theorem PR.below {w w' : World} {qa : Option Addr} {gq : Nat} {Q : List Dk.Piece} (h : PR w qa gq Q) (hb : Below w.heap.size w w') : PR w' qa gq Q :=
  ⟨h.addr, fun j p hp => by
    have hl : gq < w.heap.size := h.lt (by have := (List.getElem?_eq_some_iff.1 hp).1; omega)
    obtain ⟨a, b, c⟩ := h.c j p hp
    exact ⟨(hb.cell (p := ⟨gq, j * 3, none⟩) hl).trans a, (hb.cell (p := ⟨gq, j * 3 + 1, none⟩) hl).trans b, (hb.cell (p := ⟨gq, j * 3 + 2, none⟩) hl).trans c⟩,
    fun hp => Nat.lt_of_lt_of_le (h.lt hp) hb.size⟩
theorem PR.of_own {w : World} {base : Nat} {v : Value} {L : List Dk.Piece} (h : w.ownsRow base 63 3 v L.length (pv L)) : ∃ qa gq cap, v = .slice qa L.length cap ∧ PR w qa gq L ∧ L.length ≤ cap ∧ cap ≤ 9223372036854775807 ∧ (qa = none ∨ qa = some ⟨gq, 0, none⟩) := by
  rcases h.2 with ⟨rfl, h0⟩ | ⟨gq, cap, cur, rfl, _, hg, h1, h2, _⟩
  · refine ⟨none, 0, 0, by rw [h0], ⟨fun hp => by omega, fun j p hp => ?_, fun hp => by omega⟩, by omega, by omega, .inl rfl⟩
    rw [List.eq_nil_of_length_eq_zero h0] at hp
    simp at hp
  · refine ⟨_, gq, cap, rfl, ⟨fun _ => rfl, fun j p hp => ?_, fun _ => lt_of_block hg⟩, h1, by unfold maxLen at h2; omega, .inr rfl⟩
    have key : ∀ (i : Nat) (v : Value), (pc p)[i]? = some v → w.cell? ⟨gq, j * 3 + i, none⟩ = some v := fun i v hv => by
      have h1 := h.cells (g := gq) rfl (j * 3 + i) v (pv_at L j i p v hp hv)
      have h2 : (⟨gq, 0, none⟩ : Addr).add (j * 3 + i) = ⟨gq, j * 3 + i, none⟩ := by unfold Addr.add; split <;> simp_all
      rw [h2] at h1
      exact h1
    exact ⟨key 0 _ rfl, key 1 _ rfl, key 2 _ rfl⟩
set_option maxHeartbeats 1000000 in
set_option maxRecDepth 100000 in
theorem del_del (p : Dk.Piece) (cb f : Nat) (w : World) (hc : w.cell? ⟨cb, 0, none⟩ = some (.int .i64 (f : Int))) (hb : cb < w.heap.size) :
    Calls Try.prog 64 #[.agg #[.int .i64 (p.f : Int), .int .i64 (p.at_ : Int), .string (enc p.s)], .pointer (some ⟨cb, 0, none⟩)] w fun e w' => e = .returned (.bool (decide (p.f = f))) ∧ Below w.heap.size w w' := by
  have hne : cb ≠ w.heap.size := by omega
  obtain ⟨s, hs⟩ : ∃ s, enc p.s = s := ⟨_, rfl⟩
  obtain ⟨a, ha⟩ : ∃ a, (p.at_ : Int) = a := ⟨_, rfl⟩
  obtain ⟨F, hF⟩ : ∃ a, p.f = a := ⟨_, rfl⟩
  rw [hs, ha, hF]
  clear hs ha hF
  by_cases h : F = f
  · subst h
    go_enter Try.func64, Try.ntmps64
    go_wp2
    go_ret
    exact ⟨by first | rfl | simp, Below.alloc (Below.refl _ _) (Nat.le_refl _) _⟩
  · have e : ((F : Int) == (f : Int)) = false := by rw [beq_eq_false_iff_ne]; omega
    have e2 : ¬ ((F : Int) = (f : Int)) := by omega
    go_enter Try.func64, Try.ntmps64
    go_wp2
    go_ret
    exact ⟨by first | rfl | simp [h], Below.alloc (Below.refl _ _) (Nat.le_refl _) _⟩
set_option maxHeartbeats 2000000 in
set_option maxRecDepth 100000 in
theorem idx_del (Q : List Dk.Piece) (f cb gq n cap : Nat) (qa : Option Addr) (w : World) (hQ : PR w qa gq Q) (hn : Q.length = n) (hN : n ≤ 1000000) (hc : w.cell? ⟨cb, 0, none⟩ = some (.int .i64 (f : Int))) (hb : cb < w.heap.size) :
    Calls Try.prog 62 #[.slice qa n cap, .func (.func 64) #[] #[.pointer (some ⟨cb, 0, none⟩)]] w fun e w' => ∃ r, e = .returned (.int .i64 r) ∧ IsIdx Q f r ∧ Below w.heap.size w w' := by
  have HQ := Lib.hid hQ
  have HN := Lib.hid hn
  have HC := Lib.hid hc
  clear hQ hn hc
  go_enter Try.func62, Try.ntmps62
  go_wp2
  go_loopw [5, 8] (fun x5 i wr => ∃ j : Nat, i = .int .i64 j ∧ j ≤ n ∧ Hid (∀ p' ∈ Q.take j, p'.f ≠ f) ∧ Hid (Below w.heap.size w wr)) (fun _ i _ => n - (intOf i).toNat)
  case atStart => exact ⟨0, rfl, Nat.zero_le _, (fun p hp => by simp at hp), Below.refl _ _⟩
  case round =>
    obtain ⟨j, rfl, hj, hP, hB⟩ := hrel
    by_cases hlt : j < n
    · obtain ⟨p, hp⟩ : ∃ p, Q[j]? = some p := ⟨_, List.getElem?_eq_getElem (by rw [HN.out]; exact hlt)⟩
      obtain rfl := HQ.out.addr (by rw [HN.out]; omega)
      obtain ⟨c0, c1, c2⟩ := (HQ.out.below hB.out).c j p hp
      have CL := Lib.hid (del_del p cb f wr ((hB.out.cell (p := ⟨cb, 0, none⟩) hb).trans HC.out) (Nat.lt_of_lt_of_le hb hB.out.size))
      have HP := Lib.hid hp
      have HT := Lib.hid (show Q.take (j + 1) = Q.take j ++ [p] from by rw [List.take_add_one, hp]; rfl)
      clear hp
      by_cases hpf : p.f = f
      · have HF := Lib.hid hpf
        have hd : decide (p.f = f) = true := by simpa using hpf
        rw [hd] at CL
        clear hpf hd
        go_wp2_with (go_at_call 64; refine CL.out.mono ?_; rintro _ w1 ⟨rfl, hb1⟩; have HB1 := Lib.hid hb1; clear hb1)
        go_ret
        exact ⟨_, rfl, .inr ⟨j, p, rfl, HP.out, HF.out, hP.out⟩, hB.out.trans (HB1.out.mono hB.out.size)⟩
      · have HF := Lib.hid hpf
        have hd : decide (p.f = f) = false := by simpa using hpf
        rw [hd] at CL
        clear hpf hd
        go_wp2_with (go_at_call 64; refine CL.out.mono ?_; rintro _ w1 ⟨rfl, hb1⟩; have HB1 := Lib.hid hb1; clear hb1)
        go_roundw
        case rel => exact ⟨j + 1, by go_num, by omega, (fun p' hp' => by
          rw [HT.out] at hp'
          rcases List.mem_append.1 hp' with h | h
          · exact hP.out p' h
          · simp at h; subst h; exact HF.out), hB.out.trans (HB1.out.mono hB.out.size)⟩
        case measure => simp [intOf]; omega
    · go_wp2
      go_ret
      exact ⟨_, rfl, .inl ⟨rfl, fun p hp => hP.out p (by rw [List.take_of_length_le (by rw [HN.out]; omega)]; exact hp)⟩, hB.out⟩
set_option maxHeartbeats 1000000 in
set_option maxRecDepth 100000 in
theorem del_turn (p : Dk.Piece) (cb f : Nat) (w : World) (hc : w.cell? ⟨cb, 0, none⟩ = some (.int .i64 (f : Int))) (hb : cb < w.heap.size) :
    Calls Try.prog 54 #[.agg #[.int .i64 (p.f : Int), .int .i64 (p.at_ : Int), .string (enc p.s)], .pointer (some ⟨cb, 0, none⟩)] w fun e w' => e = .returned (.bool (decide (p.f = f))) ∧ Below w.heap.size w w' := by
  have hne : cb ≠ w.heap.size := by omega
  obtain ⟨s, hs⟩ : ∃ s, enc p.s = s := ⟨_, rfl⟩
  obtain ⟨a, ha⟩ : ∃ a, (p.at_ : Int) = a := ⟨_, rfl⟩
  obtain ⟨F, hF⟩ : ∃ a, p.f = a := ⟨_, rfl⟩
  rw [hs, ha, hF]
  clear hs ha hF
  by_cases h : F = f
  · subst h
    go_enter Try.func54, Try.ntmps54
    go_wp2
    go_ret
    exact ⟨by first | rfl | simp, Below.alloc (Below.refl _ _) (Nat.le_refl _) _⟩
  · have e : ((F : Int) == (f : Int)) = false := by rw [beq_eq_false_iff_ne]; omega
    have e2 : ¬ ((F : Int) = (f : Int)) := by omega
    go_enter Try.func54, Try.ntmps54
    go_wp2
    go_ret
    exact ⟨by first | rfl | simp [h], Below.alloc (Below.refl _ _) (Nat.le_refl _) _⟩
set_option maxHeartbeats 2000000 in
set_option maxRecDepth 100000 in
theorem idx_turn (Q : List Dk.Piece) (f cb gq n cap : Nat) (qa : Option Addr) (w : World) (hQ : PR w qa gq Q) (hn : Q.length = n) (hN : n ≤ 1000000) (hc : w.cell? ⟨cb, 0, none⟩ = some (.int .i64 (f : Int))) (hb : cb < w.heap.size) :
    Calls Try.prog 62 #[.slice qa n cap, .func (.func 54) #[] #[.pointer (some ⟨cb, 0, none⟩)]] w fun e w' => ∃ r, e = .returned (.int .i64 r) ∧ IsIdx Q f r ∧ Below w.heap.size w w' := by
  have HQ := Lib.hid hQ
  have HN := Lib.hid hn
  have HC := Lib.hid hc
  clear hQ hn hc
  go_enter Try.func62, Try.ntmps62
  go_wp2
  go_loopw [5, 8] (fun x5 i wr => ∃ j : Nat, i = .int .i64 j ∧ j ≤ n ∧ Hid (∀ p' ∈ Q.take j, p'.f ≠ f) ∧ Hid (Below w.heap.size w wr)) (fun _ i _ => n - (intOf i).toNat)
  case atStart => exact ⟨0, rfl, Nat.zero_le _, (fun p hp => by simp at hp), Below.refl _ _⟩
  case round =>
    obtain ⟨j, rfl, hj, hP, hB⟩ := hrel
    by_cases hlt : j < n
    · obtain ⟨p, hp⟩ : ∃ p, Q[j]? = some p := ⟨_, List.getElem?_eq_getElem (by rw [HN.out]; exact hlt)⟩
      obtain rfl := HQ.out.addr (by rw [HN.out]; omega)
      obtain ⟨c0, c1, c2⟩ := (HQ.out.below hB.out).c j p hp
      have CL := Lib.hid (del_turn p cb f wr ((hB.out.cell (p := ⟨cb, 0, none⟩) hb).trans HC.out) (Nat.lt_of_lt_of_le hb hB.out.size))
      have HP := Lib.hid hp
      have HT := Lib.hid (show Q.take (j + 1) = Q.take j ++ [p] from by rw [List.take_add_one, hp]; rfl)
      clear hp
      by_cases hpf : p.f = f
      · have HF := Lib.hid hpf
        have hd : decide (p.f = f) = true := by simpa using hpf
        rw [hd] at CL
        clear hpf hd
        go_wp2_with (go_at_call 54; refine CL.out.mono ?_; rintro _ w1 ⟨rfl, hb1⟩; have HB1 := Lib.hid hb1; clear hb1)
        go_ret
        exact ⟨_, rfl, .inr ⟨j, p, rfl, HP.out, HF.out, hP.out⟩, hB.out.trans (HB1.out.mono hB.out.size)⟩
      · have HF := Lib.hid hpf
        have hd : decide (p.f = f) = false := by simpa using hpf
        rw [hd] at CL
        clear hpf hd
        go_wp2_with (go_at_call 54; refine CL.out.mono ?_; rintro _ w1 ⟨rfl, hb1⟩; have HB1 := Lib.hid hb1; clear hb1)
        go_roundw
        case rel => exact ⟨j + 1, by go_num, by omega, (fun p' hp' => by
          rw [HT.out] at hp'
          rcases List.mem_append.1 hp' with h | h
          · exact hP.out p' h
          · simp at h; subst h; exact HF.out), hB.out.trans (HB1.out.mono hB.out.size)⟩
        case measure => simp [intOf]; omega
    · go_wp2
      go_ret
      exact ⟨_, rfl, .inl ⟨rfl, fun p hp => hP.out p (by rw [List.take_of_length_le (by rw [HN.out]; omega)]; exact hp)⟩, hB.out⟩
end Go.Proofs.Ytbpodclodflgfaa
