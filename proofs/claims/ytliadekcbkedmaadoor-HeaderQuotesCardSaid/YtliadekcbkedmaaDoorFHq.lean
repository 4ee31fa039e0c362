/-
  HeaderQuotes.
-/
import Derived.Test.YtliadekcbkedmaaDoorFTk
namespace Go.Proofs.YtliadekcbkedmaaDoor
open Go Go.RowKit Go.Shelf
theorem ba_eq {S : ByteArray} {n m : List UInt8} (hS : (⟨n.toArray⟩ : ByteArray) = S) (h : n = m) : (S.toList == m) = true := by subst h hS; rw [Lib.toList_data]; simp
theorem ba_ne {S : ByteArray} {n m : List UInt8} (hS : (⟨n.toArray⟩ : ByteArray) = S) (h : n ≠ m) : (S.toList == m) = false := by
  subst hS
  rw [Lib.toList_data, beq_eq_false_iff_ne]
  simpa using h
theorem region_calm {P : Program} {id : Nat} {ops : Array Oper} {Q : Exit → Act → World → Prop} {a : Act} {w : World} (S : World → Prop) (hm : P.follows .mixedOrders = true) (hS : S w.drew)
    (h : S w.drew → wpAnyH P .any ops (Calm Q) S ops.size (Array.replicate ops.size false) a w.drew) : (Code.region id ops true).wp P Q a w :=
  wp_mono (wp_region_held hm (h hS)) Calm.imp
theorem SameIs.true {X : List Hd.Fd} {e : Ending} (h : SameIs X X e) : e = .returned (.bool true) := by unfold SameIs at h; rwa [decide_eq_true rfl] at h
theorem lt_cell {w : World} {b o : Nat} {v : Value} (h : w.cell? ⟨b, o, none⟩ = some v) : b < w.heap.size := World.block_lt_of_cell? w ⟨b, o, none⟩ h
namespace Hd
theorem quote_len {m : List UInt8} : ∀ {ps : List Fd}, (∀ p ∈ ps, p.1.length ≤ 300 ∧ p.2.length ≤ 300) → (quote m ps).length ≤ m.length + 905 * ps.length := by
  intro ps h
  unfold quote
  rw [List.length_append]
  have : ∀ ps : List Fd, (∀ p ∈ ps, p.1.length ≤ 300 ∧ p.2.length ≤ 300) → ((ps.map quote1).flatten).length ≤ 905 * ps.length := by
    intro ps
    induction ps with
    | nil => intro _; simp
    | cons p ps ih =>
      intro h
      have h1 := h p (by simp)
      have h2 := ih (fun q hq => h q (by simp [hq]))
      have h3 := quoted_len p.2
      rw [List.map_cons, List.flatten_cons, List.length_append, List.length_cons]
      have h4 : (quote1 p).length ≤ 905 := by
        unfold quote1
        split
        · simp; omega
        · simp
      omega
  have := this ps h
  omega
/-- The first k bytes are neither a quotation mark nor a semicolon. -/
def MOk (S : List UInt8) (k : Nat) : Prop := ∀ c ∈ S.take k, c ≠ 34 ∧ c ≠ 59
theorem MOk.succ {S : List UInt8} {k : Nat} {c : UInt8} (h : MOk S k) (hc : S[k]? = some c) (h1 : c ≠ 34) (h2 : c ≠ 59) : MOk S (k + 1) := fun d hd => by
  rw [List.take_add_one, hc] at hd
  rcases List.mem_append.1 hd with hd | hd
  · exact h d hd
  · simp at hd; subst hd; exact ⟨h1, h2⟩
/-- The first k parameters are as the law wants them. -/
def QOk (X : List Fd) (k : Nat) : Prop := ∀ j p, j < k → X[j]? = some p → p.1.length ≤ 300 ∧ p.2.length ≤ 300 ∧ token p.1 = true ∧ Tx.lowL p.1 = p.1 ∧ ∀ i q, i < j → X[i]? = some q → q.1 ≠ p.1
theorem QOk.zero (X : List Fd) : QOk X 0 := fun _ _ h => absurd h (Nat.not_lt_zero _)
theorem QOk.succ {X : List Fd} {k : Nat} {p : Fd} (h : QOk X k) (hp : X[k]? = some p) (h1 : p.1.length ≤ 300) (h2 : p.2.length ≤ 300) (h3 : token p.1 = true) (h4 : Tx.lowL p.1 = p.1) (h5 : ∀ i q, i < k → X[i]? = some q → q.1 ≠ p.1) : QOk X (k + 1) := fun j q hj hq => by
  by_cases hk : j = k
  · subst hk
    rw [hp] at hq
    cases hq
    exact ⟨h1, h2, h3, h4, h5⟩
  · exact h j q (by omega) hq
theorem QOk.each {X : List Fd} (h : QOk X X.length) : ∀ p ∈ X, p.1.length ≤ 300 ∧ p.2.length ≤ 300 ∧ token p.1 = true ∧ Tx.lowL p.1 = p.1 := fun p hp => by
  obtain ⟨j, hj⟩ := List.mem_iff_getElem?.1 hp
  obtain ⟨a, b, c, d, _⟩ := h j p (List.getElem?_eq_some_iff.1 hj).1 hj
  exact ⟨a, b, c, d⟩
theorem QOk.pair {X : List Fd} (h : QOk X X.length) : X.Pairwise (fun a b => a.1 ≠ b.1) := by
  rw [List.pairwise_iff_getElem]
  intro i j hi hj hij
  exact (h j _ hj (List.getElem?_eq_getElem hj)).2.2.2.2 i _ hij (List.getElem?_eq_getElem hi)
end Hd
set_option maxHeartbeats 8000000 in
set_option maxRecDepth 100000 in
theorem quotes_law (s : ByteArray) (X : List Hd.Fd) (n cap : Nat) (xa : Option Addr) (xb xo : Nat) (w : World) (hX : PL w xa xb xo X) (hn : X.length = n) (hs : s.size ≤ 9223372036854775807) (hn2 : n ≤ 9223372036854775807) (hM : MaxAt w) :
    Calls Tryd.prog 8 #[.string s, .slice xa n cap] w fun e w' => e = .returned (.bool true) ∧ Below w.heap.size w w' := by
  have HSm := Lib.hid (small_any w hM)
  have HX := Lib.hid hX
  have HN := Lib.hid hn
  have HM := Lib.hid hM
  have hpos := hM.pos
  by_cases h1 : 300 < s.size
  · have q1 : (300 : Int) < (s.size : Int) := by omega
    clear hX hn hM h1
    go_enter Tryd.func8, Tryd.ntmps8
    go_wp2_with (go_at_call 9; with_reducible refine HSm.out.mono ?_; rintro e ws ⟨rfl, hbs⟩; have HBs := Lib.hid hbs; clear hbs)
    go_ret
    exact ⟨rfl, HBs.out⟩
  have q1 : ¬ ((300 : Int) < (s.size : Int)) := by omega
  by_cases h2 : 40 < n
  · have q2 : (40 : Int) < (n : Int) := by omega
    clear hX hn hM
    go_enter Tryd.func8, Tryd.ntmps8
    go_wp2_with (go_at_call 9; with_reducible refine HSm.out.mono ?_; rintro e ws ⟨rfl, hbs⟩; have HBs := Lib.hid hbs; clear hbs)
    go_ret
    exact ⟨rfl, HBs.out⟩
  have q2 : ¬ ((40 : Int) < (n : Int)) := by omega
  obtain ⟨T, hT⟩ : ∃ T : ByteArray, (⟨(Tx.trim s.data.toList).toArray⟩ : ByteArray) = T := ⟨_, rfl⟩
  have HT := Lib.hid (fun W => trimT_any s hs W)
  rw [hT] at HT
  by_cases h3 : Tx.trim s.data.toList ≠ s.data.toList
  · have q3 : (T.toList == s.toList) = false := by rw [Lib.toList_data s]; exact ba_ne hT h3
    have q4 : ¬ (T = s) := fun e => h3 (by have := congrArg (fun b : ByteArray => b.data.toList) (hT.trans e); simpa using this)
    clear hX hn hM hT
    go_enter Tryd.func8, Tryd.ntmps8
    go_wp2_with (first
      | (go_at_call 9; with_reducible refine HSm.out.mono ?_; rintro e ws ⟨rfl, hbs⟩; have HBs := Lib.hid hbs; clear hbs)
      | (go_at_call 30; with_reducible refine (HT.out _).mono ?_; rintro e wt ⟨rfl, hbt⟩; have HBt := Lib.hid (below_to HBs.out (Nat.le_refl _) hbt); clear hbt))
    go_ret
    exact ⟨rfl, HBt.out⟩
  have h3 := Decidable.not_not.1 h3
  obtain rfl : s = T := by rw [← hT, h3, str_back]
  have H3 := Lib.hid h3
  clear hX hn hM hT h3
  go_enter Tryd.func8, Tryd.ntmps8
  go_wp2_with (first
    | (go_at_call 9; with_reducible refine HSm.out.mono ?_; rintro e ws ⟨rfl, hbs⟩; have HBs := Lib.hid hbs; clear hbs)
    | (go_at_call 30; with_reducible refine (HT.out _).mono ?_; rintro e wt ⟨rfl, hbt⟩; have HBt := Lib.hid (below_to HBs.out (Nat.le_refl _) hbt); clear hbt))
  go_loop [6] (fun i => ∃ k : Nat, i = .int .i64 k ∧ k ≤ s.size ∧ Hid (Hd.MOk s.data.toList k)) (fun i => s.size - (intOf i).toNat)
  case atStart => exact ⟨0, rfl, Nat.zero_le _, fun c hc => by simp at hc⟩
  case round =>
    obtain ⟨k, rfl, hk, hI⟩ := hrel
    by_cases hlt : k < s.size
    · have hg := Tx.get_of s k hlt
      obtain ⟨c, hc⟩ : ∃ c, s[k] = c := ⟨_, rfl⟩
      rw [hc] at hg
      by_cases e1 : c = 59
      · subst e1
        clear hg
        go_wp2
        go_ret
        exact ⟨rfl, HBt.out⟩
      have p1 : ((c.toNat : Int) == 59) = false := byte_ne (n := 59) (by decide) e1
      have p2 : ¬ ((c.toNat : Int) = 59) := byte_neI (n := 59) (by decide) e1
      by_cases e2 : c = 34
      · subst e2
        clear hg
        go_wp2
        go_ret
        exact ⟨rfl, HBt.out⟩
      have p3 : ((c.toNat : Int) == 34) = false := byte_ne (n := 34) (by decide) e2
      have p4 : ¬ ((c.toNat : Int) = 34) := byte_neI (n := 34) (by decide) e2
      have HK := Lib.hid (hI.out.succ hg e2 e1)
      clear hg hI e1 e2
      go_wp2
      go_round
      case rel => exact ⟨k + 1, by go_num, by omega, HK.out⟩
      case measure => simp [intOf]; omega
    · obtain rfl : k = s.size := by omega
      have HMo := Lib.hid (show ∀ c ∈ s.data.toList, c ≠ 34 ∧ c ≠ 59 from fun c hc => hI.out c (by rw [List.take_of_length_le (by rw [Lib.size_eq]; exact Nat.le_refl _)]; exact hc))
      clear hI
      go_wp2
      go_loopw [7] (fun i wr => ∃ k : Nat, i = .int .i64 k ∧ k ≤ n ∧ Hid (Hd.QOk X k) ∧ Hid (Below w.heap.size w wr)) (fun i _ => n - (intOf i).toNat)
      case atStart => exact ⟨0, rfl, Nat.zero_le _, Hd.QOk.zero _, HBt.out⟩
      case round =>
        obtain ⟨k, rfl, hk, hQ, hB⟩ := hrel
        by_cases hlt : k < n
        · skip
          obtain ⟨wo, rfl⟩ : ∃ wo, wo = wr := ⟨_, rfl⟩
          obtain ⟨⟨N, V⟩, hp⟩ : ∃ p, X[k]? = some p := ⟨_, List.getElem?_eq_getElem (by rw [HN.out]; exact hlt)⟩
          have hXr := HX.out.new hB.out
          obtain rfl := hXr.at_ (by rw [HN.out]; omega)
          obtain ⟨d0, d1⟩ := hXr.c k _ hp
          simp only at d0 d1
          have HP := Lib.hid hp
          have hMr := HM.out.below hB.out hpos
          obtain ⟨W1, hW1⟩ : ∃ W1, wo.alloc (.cells #[.string ⟨N.toArray⟩, .string ⟨V.toArray⟩] 25) = W1 := ⟨_, rfl⟩
          have x1 : W1.cell? ⟨wo.heap.size, 0, none⟩ = some (.string ⟨N.toArray⟩) := by rw [← hW1]; exact (lit1 wo N V 25).c 0 _ rfl |>.1
          have x2 : W1.cell? ⟨wo.heap.size, 0 + 1, none⟩ = some (.string ⟨V.toArray⟩) := by rw [← hW1]; exact (lit1 wo N V 25).c 0 _ rfl |>.2
          have HW1 := Lib.hid (show Below w.heap.size w W1 ∧ wo.heap.size < W1.heap.size from ⟨by rw [← hW1]; exact below_to hB.out (Nat.le_refl _) (below_new wo _), by rw [← hW1, alloc_size]; omega⟩)
          have HPl := Lib.hid (show PL W1 (some ⟨xb, xo, none⟩) xb xo X by rw [← hW1]; exact hXr.new (below_new wo _))
          have HWW := Lib.hid hW1
          clear hp hXr hW1
          by_cases g1 : 300 < N.length
          · have q5 : (300 : Int) < (N.length : Int) := by omega
            have qd5 : decide ((300 : Int) < (N.length : Int)) = true := decide_eq_true q5
            go_wp2
            rw [HWW.out]
            refine region_calm (fun U => U.cell? ⟨wo.heap.size, 0, none⟩ = some (.string ⟨N.toArray⟩) ∧ U.cell? ⟨wo.heap.size, 0 + 1, none⟩ = some (.string ⟨V.toArray⟩)) (by kernel_rfl) ⟨x1, x2⟩ (fun hHeld => ?_)
            show wpAnyH _ _ _ _ _ 24 (Array.replicate 24 false) _ _
            refine takeH 0 56 (v := ?_) rfl rfl (by kernel_rfl) (by kernel_rfl) (by kernel_rfl) (Or.inl ⟨by rfl, ?_⟩) (by assumption) ?_
            rotate_left
            · intro U hSU
              obtain ⟨s1, s2⟩ := hSU
              go_simp
              try with_reducible rfl
            simp only [List.setIfInBounds_toArray, List.set_cons_zero, List.set_cons_succ]
            refine takeH 1 57 (v := ?_) rfl rfl (by kernel_rfl) (by kernel_rfl) (by kernel_rfl) (Or.inl ⟨by rfl, ?_⟩) (by assumption) ?_
            rotate_left
            · intro U hSU
              obtain ⟨s1, s2⟩ := hSU
              go_simp
              try with_reducible rfl
            simp only [List.setIfInBounds_toArray, List.set_cons_zero, List.set_cons_succ]
            refine takeH 2 58 (v := ?_) rfl rfl (by kernel_rfl) (by kernel_rfl) (by kernel_rfl) (Or.inl ⟨by rfl, ?_⟩) (by assumption) ?_
            rotate_left
            · intro U hSU
              obtain ⟨s1, s2⟩ := hSU
              go_simp
              try with_reducible rfl
            simp only [List.setIfInBounds_toArray, List.set_cons_zero, List.set_cons_succ]
            refine takeH 3 59 (v := ?_) rfl rfl (by kernel_rfl) (by kernel_rfl) (by kernel_rfl) (Or.inl ⟨by rfl, ?_⟩) (by assumption) ?_
            rotate_left
            · intro U hSU
              obtain ⟨s1, s2⟩ := hSU
              go_simp
              try with_reducible rfl
            simp only [List.setIfInBounds_toArray, List.set_cons_zero, List.set_cons_succ]
            refine takeH 4 60 (v := ?_) rfl rfl (by kernel_rfl) (by kernel_rfl) (by kernel_rfl) (Or.inl ⟨by rfl, ?_⟩) (by assumption) ?_
            rotate_left
            · intro U hSU
              obtain ⟨s1, s2⟩ := hSU
              go_simp
              try with_reducible rfl
            simp only [List.setIfInBounds_toArray, List.set_cons_zero, List.set_cons_succ]
            refine takeH 5 61 (v := undef) rfl rfl (by kernel_rfl) (by kernel_rfl) (by kernel_rfl) (Or.inr ⟨by rfl, rfl⟩) (by assumption) ?_
            simp only [List.setIfInBounds_toArray, List.set_cons_zero, List.set_cons_succ]
            refine takeH 6 62 (v := undef) rfl rfl (by kernel_rfl) (by kernel_rfl) (by kernel_rfl) (Or.inr ⟨by rfl, rfl⟩) (by assumption) ?_
            simp only [List.setIfInBounds_toArray, List.set_cons_zero, List.set_cons_succ]
            refine takeH 7 63 (v := undef) rfl rfl (by kernel_rfl) (by kernel_rfl) (by kernel_rfl) (Or.inr ⟨by rfl, rfl⟩) (by assumption) ?_
            simp only [List.setIfInBounds_toArray, List.set_cons_zero, List.set_cons_succ]
            refine takeH 8 64 (v := undef) rfl rfl (by kernel_rfl) (by kernel_rfl) (by kernel_rfl) (Or.inr ⟨by rfl, rfl⟩) (by assumption) ?_
            simp only [List.setIfInBounds_toArray, List.set_cons_zero, List.set_cons_succ]
            refine takeH 9 65 (v := ?_) rfl rfl (by kernel_rfl) (by kernel_rfl) (by kernel_rfl) (Or.inl ⟨by rfl, ?_⟩) (by assumption) ?_
            rotate_left
            · intro U hSU
              obtain ⟨s1, s2⟩ := hSU
              go_simp
              try with_reducible rfl
            simp only [List.setIfInBounds_toArray, List.set_cons_zero, List.set_cons_succ]
            refine takeH 10 66 (v := ?_) rfl rfl (by kernel_rfl) (by kernel_rfl) (by kernel_rfl) (Or.inl ⟨by rfl, ?_⟩) (by assumption) ?_
            rotate_left
            · intro U hSU
              obtain ⟨s1, s2⟩ := hSU
              go_simp
              try with_reducible rfl
            simp only [List.setIfInBounds_toArray, List.set_cons_zero, List.set_cons_succ]
            refine takeH 11 67 (v := undef) rfl rfl (by kernel_rfl) (by kernel_rfl) (by kernel_rfl) (Or.inr ⟨by rfl, rfl⟩) (by assumption) ?_
            simp only [List.setIfInBounds_toArray, List.set_cons_zero, List.set_cons_succ]
            refine takeH 12 68 (v := undef) rfl rfl (by kernel_rfl) (by kernel_rfl) (by kernel_rfl) (Or.inr ⟨by rfl, rfl⟩) (by assumption) ?_
            simp only [List.setIfInBounds_toArray, List.set_cons_zero, List.set_cons_succ]
            refine takeH 13 69 (v := undef) rfl rfl (by kernel_rfl) (by kernel_rfl) (by kernel_rfl) (Or.inr ⟨by rfl, rfl⟩) (by assumption) ?_
            simp only [List.setIfInBounds_toArray, List.set_cons_zero, List.set_cons_succ]
            refine takeH 14 70 (v := undef) rfl rfl (by kernel_rfl) (by kernel_rfl) (by kernel_rfl) (Or.inr ⟨by rfl, rfl⟩) (by assumption) ?_
            simp only [List.setIfInBounds_toArray, List.set_cons_zero, List.set_cons_succ]
            refine takeH 15 71 (v := ?_) rfl rfl (by kernel_rfl) (by kernel_rfl) (by kernel_rfl) (Or.inl ⟨by rfl, ?_⟩) (by assumption) ?_
            rotate_left
            · intro U hSU
              obtain ⟨s1, s2⟩ := hSU
              go_simp
              try with_reducible rfl
            simp only [List.setIfInBounds_toArray, List.set_cons_zero, List.set_cons_succ]
            refine takeH 16 72 (v := ?_) rfl rfl (by kernel_rfl) (by kernel_rfl) (by kernel_rfl) (Or.inl ⟨by rfl, ?_⟩) (by assumption) ?_
            rotate_left
            · intro U hSU
              obtain ⟨s1, s2⟩ := hSU
              go_simp
              try with_reducible rfl
            simp only [List.setIfInBounds_toArray, List.set_cons_zero, List.set_cons_succ]
            refine takeH 17 73 (v := undef) rfl rfl (by kernel_rfl) (by kernel_rfl) (by kernel_rfl) (Or.inr ⟨by rfl, rfl⟩) (by assumption) ?_
            simp only [List.setIfInBounds_toArray, List.set_cons_zero, List.set_cons_succ]
            refine takeH 18 74 (v := undef) rfl rfl (by kernel_rfl) (by kernel_rfl) (by kernel_rfl) (Or.inr ⟨by rfl, rfl⟩) (by assumption) ?_
            simp only [List.setIfInBounds_toArray, List.set_cons_zero, List.set_cons_succ]
            refine takeH 19 75 (v := undef) rfl rfl (by kernel_rfl) (by kernel_rfl) (by kernel_rfl) (Or.inr ⟨by rfl, rfl⟩) (by assumption) ?_
            simp only [List.setIfInBounds_toArray, List.set_cons_zero, List.set_cons_succ]
            refine takeH 20 76 (v := undef) rfl rfl (by kernel_rfl) (by kernel_rfl) (by kernel_rfl) (Or.inr ⟨by rfl, rfl⟩) (by assumption) ?_
            simp only [List.setIfInBounds_toArray, List.set_cons_zero, List.set_cons_succ]
            refine takeH 21 77 (v := undef) rfl rfl (by kernel_rfl) (by kernel_rfl) (by kernel_rfl) (Or.inr ⟨by rfl, rfl⟩) (by assumption) ?_
            simp only [List.setIfInBounds_toArray, List.set_cons_zero, List.set_cons_succ]
            refine takeH 22 78 (v := undef) rfl rfl (by kernel_rfl) (by kernel_rfl) (by kernel_rfl) (Or.inr ⟨by rfl, rfl⟩) (by assumption) ?_
            simp only [List.setIfInBounds_toArray, List.set_cons_zero, List.set_cons_succ]
            refine takeH 23 79 (v := ?_) rfl rfl (by kernel_rfl) (by kernel_rfl) (by kernel_rfl) (Or.inl ⟨by rfl, ?_⟩) (by assumption) ?_
            rotate_left
            · intro U hSU
              obtain ⟨s1, s2⟩ := hSU
              go_simp
              try with_reducible rfl
            simp only [List.setIfInBounds_toArray, List.set_cons_zero, List.set_cons_succ]
            refine wpAnyH_done (by kernel_rfl) ?_ _
            refine Calm.normal ?_
            go_wp2
            go_ret
            exact ⟨rfl, below_drews HW1.out.1 1⟩
          have q5 : ¬ ((300 : Int) < (N.length : Int)) := by omega
          have qd5 : decide ((300 : Int) < (N.length : Int)) = false := decide_eq_false q5
          by_cases g2 : 300 < V.length
          · have q6 : (300 : Int) < (V.length : Int) := by omega
            have qd6 : decide ((300 : Int) < (V.length : Int)) = true := decide_eq_true q6
            go_wp2
            rw [HWW.out]
            refine region_calm (fun U => U.cell? ⟨wo.heap.size, 0, none⟩ = some (.string ⟨N.toArray⟩) ∧ U.cell? ⟨wo.heap.size, 0 + 1, none⟩ = some (.string ⟨V.toArray⟩)) (by kernel_rfl) ⟨x1, x2⟩ (fun hHeld => ?_)
            show wpAnyH _ _ _ _ _ 24 (Array.replicate 24 false) _ _
            refine takeH 0 56 (v := ?_) rfl rfl (by kernel_rfl) (by kernel_rfl) (by kernel_rfl) (Or.inl ⟨by rfl, ?_⟩) (by assumption) ?_
            rotate_left
            · intro U hSU
              obtain ⟨s1, s2⟩ := hSU
              go_simp
              try with_reducible rfl
            simp only [List.setIfInBounds_toArray, List.set_cons_zero, List.set_cons_succ]
            refine takeH 1 57 (v := ?_) rfl rfl (by kernel_rfl) (by kernel_rfl) (by kernel_rfl) (Or.inl ⟨by rfl, ?_⟩) (by assumption) ?_
            rotate_left
            · intro U hSU
              obtain ⟨s1, s2⟩ := hSU
              go_simp
              try with_reducible rfl
            simp only [List.setIfInBounds_toArray, List.set_cons_zero, List.set_cons_succ]
            refine takeH 2 58 (v := ?_) rfl rfl (by kernel_rfl) (by kernel_rfl) (by kernel_rfl) (Or.inl ⟨by rfl, ?_⟩) (by assumption) ?_
            rotate_left
            · intro U hSU
              obtain ⟨s1, s2⟩ := hSU
              go_simp
              try with_reducible rfl
            simp only [List.setIfInBounds_toArray, List.set_cons_zero, List.set_cons_succ]
            refine takeH 3 59 (v := ?_) rfl rfl (by kernel_rfl) (by kernel_rfl) (by kernel_rfl) (Or.inl ⟨by rfl, ?_⟩) (by assumption) ?_
            rotate_left
            · intro U hSU
              obtain ⟨s1, s2⟩ := hSU
              go_simp
              try with_reducible rfl
            simp only [List.setIfInBounds_toArray, List.set_cons_zero, List.set_cons_succ]
            refine takeH 4 60 (v := ?_) rfl rfl (by kernel_rfl) (by kernel_rfl) (by kernel_rfl) (Or.inl ⟨by rfl, ?_⟩) (by assumption) ?_
            rotate_left
            · intro U hSU
              obtain ⟨s1, s2⟩ := hSU
              go_simp
              try with_reducible rfl
            simp only [List.setIfInBounds_toArray, List.set_cons_zero, List.set_cons_succ]
            refine takeH 5 61 (v := ?_) rfl rfl (by kernel_rfl) (by kernel_rfl) (by kernel_rfl) (Or.inl ⟨by rfl, ?_⟩) (by assumption) ?_
            rotate_left
            · intro U hSU
              obtain ⟨s1, s2⟩ := hSU
              go_simp
              try with_reducible rfl
            simp only [List.setIfInBounds_toArray, List.set_cons_zero, List.set_cons_succ]
            refine takeH 6 62 (v := ?_) rfl rfl (by kernel_rfl) (by kernel_rfl) (by kernel_rfl) (Or.inl ⟨by rfl, ?_⟩) (by assumption) ?_
            rotate_left
            · intro U hSU
              obtain ⟨s1, s2⟩ := hSU
              go_simp
              try with_reducible rfl
            simp only [List.setIfInBounds_toArray, List.set_cons_zero, List.set_cons_succ]
            refine takeH 7 63 (v := ?_) rfl rfl (by kernel_rfl) (by kernel_rfl) (by kernel_rfl) (Or.inl ⟨by rfl, ?_⟩) (by assumption) ?_
            rotate_left
            · intro U hSU
              obtain ⟨s1, s2⟩ := hSU
              go_simp
              try with_reducible rfl
            simp only [List.setIfInBounds_toArray, List.set_cons_zero, List.set_cons_succ]
            refine takeH 8 64 (v := ?_) rfl rfl (by kernel_rfl) (by kernel_rfl) (by kernel_rfl) (Or.inl ⟨by rfl, ?_⟩) (by assumption) ?_
            rotate_left
            · intro U hSU
              obtain ⟨s1, s2⟩ := hSU
              go_simp
              try with_reducible rfl
            simp only [List.setIfInBounds_toArray, List.set_cons_zero, List.set_cons_succ]
            refine takeH 9 65 (v := ?_) rfl rfl (by kernel_rfl) (by kernel_rfl) (by kernel_rfl) (Or.inl ⟨by rfl, ?_⟩) (by assumption) ?_
            rotate_left
            · intro U hSU
              obtain ⟨s1, s2⟩ := hSU
              go_simp
              try with_reducible rfl
            simp only [List.setIfInBounds_toArray, List.set_cons_zero, List.set_cons_succ]
            refine takeH 10 66 (v := ?_) rfl rfl (by kernel_rfl) (by kernel_rfl) (by kernel_rfl) (Or.inl ⟨by rfl, ?_⟩) (by assumption) ?_
            rotate_left
            · intro U hSU
              obtain ⟨s1, s2⟩ := hSU
              go_simp
              try with_reducible rfl
            simp only [List.setIfInBounds_toArray, List.set_cons_zero, List.set_cons_succ]
            refine takeH 11 67 (v := undef) rfl rfl (by kernel_rfl) (by kernel_rfl) (by kernel_rfl) (Or.inr ⟨by rfl, rfl⟩) (by assumption) ?_
            simp only [List.setIfInBounds_toArray, List.set_cons_zero, List.set_cons_succ]
            refine takeH 12 68 (v := undef) rfl rfl (by kernel_rfl) (by kernel_rfl) (by kernel_rfl) (Or.inr ⟨by rfl, rfl⟩) (by assumption) ?_
            simp only [List.setIfInBounds_toArray, List.set_cons_zero, List.set_cons_succ]
            refine takeH 13 69 (v := undef) rfl rfl (by kernel_rfl) (by kernel_rfl) (by kernel_rfl) (Or.inr ⟨by rfl, rfl⟩) (by assumption) ?_
            simp only [List.setIfInBounds_toArray, List.set_cons_zero, List.set_cons_succ]
            refine takeH 14 70 (v := undef) rfl rfl (by kernel_rfl) (by kernel_rfl) (by kernel_rfl) (Or.inr ⟨by rfl, rfl⟩) (by assumption) ?_
            simp only [List.setIfInBounds_toArray, List.set_cons_zero, List.set_cons_succ]
            refine takeH 15 71 (v := ?_) rfl rfl (by kernel_rfl) (by kernel_rfl) (by kernel_rfl) (Or.inl ⟨by rfl, ?_⟩) (by assumption) ?_
            rotate_left
            · intro U hSU
              obtain ⟨s1, s2⟩ := hSU
              go_simp
              try with_reducible rfl
            simp only [List.setIfInBounds_toArray, List.set_cons_zero, List.set_cons_succ]
            refine takeH 16 72 (v := ?_) rfl rfl (by kernel_rfl) (by kernel_rfl) (by kernel_rfl) (Or.inl ⟨by rfl, ?_⟩) (by assumption) ?_
            rotate_left
            · intro U hSU
              obtain ⟨s1, s2⟩ := hSU
              go_simp
              try with_reducible rfl
            simp only [List.setIfInBounds_toArray, List.set_cons_zero, List.set_cons_succ]
            refine takeH 17 73 (v := undef) rfl rfl (by kernel_rfl) (by kernel_rfl) (by kernel_rfl) (Or.inr ⟨by rfl, rfl⟩) (by assumption) ?_
            simp only [List.setIfInBounds_toArray, List.set_cons_zero, List.set_cons_succ]
            refine takeH 18 74 (v := undef) rfl rfl (by kernel_rfl) (by kernel_rfl) (by kernel_rfl) (Or.inr ⟨by rfl, rfl⟩) (by assumption) ?_
            simp only [List.setIfInBounds_toArray, List.set_cons_zero, List.set_cons_succ]
            refine takeH 19 75 (v := undef) rfl rfl (by kernel_rfl) (by kernel_rfl) (by kernel_rfl) (Or.inr ⟨by rfl, rfl⟩) (by assumption) ?_
            simp only [List.setIfInBounds_toArray, List.set_cons_zero, List.set_cons_succ]
            refine takeH 20 76 (v := undef) rfl rfl (by kernel_rfl) (by kernel_rfl) (by kernel_rfl) (Or.inr ⟨by rfl, rfl⟩) (by assumption) ?_
            simp only [List.setIfInBounds_toArray, List.set_cons_zero, List.set_cons_succ]
            refine takeH 21 77 (v := undef) rfl rfl (by kernel_rfl) (by kernel_rfl) (by kernel_rfl) (Or.inr ⟨by rfl, rfl⟩) (by assumption) ?_
            simp only [List.setIfInBounds_toArray, List.set_cons_zero, List.set_cons_succ]
            refine takeH 22 78 (v := undef) rfl rfl (by kernel_rfl) (by kernel_rfl) (by kernel_rfl) (Or.inr ⟨by rfl, rfl⟩) (by assumption) ?_
            simp only [List.setIfInBounds_toArray, List.set_cons_zero, List.set_cons_succ]
            refine takeH 23 79 (v := ?_) rfl rfl (by kernel_rfl) (by kernel_rfl) (by kernel_rfl) (Or.inl ⟨by rfl, ?_⟩) (by assumption) ?_
            rotate_left
            · intro U hSU
              obtain ⟨s1, s2⟩ := hSU
              go_simp
              try with_reducible rfl
            simp only [List.setIfInBounds_toArray, List.set_cons_zero, List.set_cons_succ]
            refine wpAnyH_done (by kernel_rfl) ?_ _
            refine Calm.normal ?_
            go_wp2
            go_ret
            exact ⟨rfl, below_drews HW1.out.1 1⟩
          have q6 : ¬ ((300 : Int) < (V.length : Int)) := by omega
          have qd6 : decide ((300 : Int) < (V.length : Int)) = false := decide_eq_false q6
          have HTk := Lib.hid (fun W => tokenR_any ⟨N.toArray⟩ W (by rw [mk_len]; omega))
          rw [show (⟨N.toArray⟩ : ByteArray).data.toList = N from rfl] at HTk
          cases g3 : Hd.token N with
          | false =>
            rw [g3] at HTk
            go_wp2
            rw [HWW.out]
            refine region_calm (fun U => U.cell? ⟨wo.heap.size, 0, none⟩ = some (.string ⟨N.toArray⟩) ∧ U.cell? ⟨wo.heap.size, 0 + 1, none⟩ = some (.string ⟨V.toArray⟩)) (by kernel_rfl) ⟨x1, x2⟩ (fun hHeld => ?_)
            show wpAnyH _ _ _ _ _ 24 (Array.replicate 24 false) _ _
            refine takeH 0 56 (v := ?_) rfl rfl (by kernel_rfl) (by kernel_rfl) (by kernel_rfl) (Or.inl ⟨by rfl, ?_⟩) (by assumption) ?_
            rotate_left
            · intro U hSU
              obtain ⟨s1, s2⟩ := hSU
              go_simp
              try with_reducible rfl
            simp only [List.setIfInBounds_toArray, List.set_cons_zero, List.set_cons_succ]
            refine takeH 1 57 (v := ?_) rfl rfl (by kernel_rfl) (by kernel_rfl) (by kernel_rfl) (Or.inl ⟨by rfl, ?_⟩) (by assumption) ?_
            rotate_left
            · intro U hSU
              obtain ⟨s1, s2⟩ := hSU
              go_simp
              try with_reducible rfl
            simp only [List.setIfInBounds_toArray, List.set_cons_zero, List.set_cons_succ]
            refine takeH 2 58 (v := ?_) rfl rfl (by kernel_rfl) (by kernel_rfl) (by kernel_rfl) (Or.inl ⟨by rfl, ?_⟩) (by assumption) ?_
            rotate_left
            · intro U hSU
              obtain ⟨s1, s2⟩ := hSU
              go_simp
              try with_reducible rfl
            simp only [List.setIfInBounds_toArray, List.set_cons_zero, List.set_cons_succ]
            refine takeH 3 59 (v := ?_) rfl rfl (by kernel_rfl) (by kernel_rfl) (by kernel_rfl) (Or.inl ⟨by rfl, ?_⟩) (by assumption) ?_
            rotate_left
            · intro U hSU
              obtain ⟨s1, s2⟩ := hSU
              go_simp
              try with_reducible rfl
            simp only [List.setIfInBounds_toArray, List.set_cons_zero, List.set_cons_succ]
            refine takeH 4 60 (v := ?_) rfl rfl (by kernel_rfl) (by kernel_rfl) (by kernel_rfl) (Or.inl ⟨by rfl, ?_⟩) (by assumption) ?_
            rotate_left
            · intro U hSU
              obtain ⟨s1, s2⟩ := hSU
              go_simp
              try with_reducible rfl
            simp only [List.setIfInBounds_toArray, List.set_cons_zero, List.set_cons_succ]
            refine takeH 5 61 (v := ?_) rfl rfl (by kernel_rfl) (by kernel_rfl) (by kernel_rfl) (Or.inl ⟨by rfl, ?_⟩) (by assumption) ?_
            rotate_left
            · intro U hSU
              obtain ⟨s1, s2⟩ := hSU
              go_simp
              try with_reducible rfl
            simp only [List.setIfInBounds_toArray, List.set_cons_zero, List.set_cons_succ]
            refine takeH 6 62 (v := ?_) rfl rfl (by kernel_rfl) (by kernel_rfl) (by kernel_rfl) (Or.inl ⟨by rfl, ?_⟩) (by assumption) ?_
            rotate_left
            · intro U hSU
              obtain ⟨s1, s2⟩ := hSU
              go_simp
              try with_reducible rfl
            simp only [List.setIfInBounds_toArray, List.set_cons_zero, List.set_cons_succ]
            refine takeH 7 63 (v := ?_) rfl rfl (by kernel_rfl) (by kernel_rfl) (by kernel_rfl) (Or.inl ⟨by rfl, ?_⟩) (by assumption) ?_
            rotate_left
            · intro U hSU
              obtain ⟨s1, s2⟩ := hSU
              go_simp
              try with_reducible rfl
            simp only [List.setIfInBounds_toArray, List.set_cons_zero, List.set_cons_succ]
            refine takeH 8 64 (v := ?_) rfl rfl (by kernel_rfl) (by kernel_rfl) (by kernel_rfl) (Or.inl ⟨by rfl, ?_⟩) (by assumption) ?_
            rotate_left
            · intro U hSU
              obtain ⟨s1, s2⟩ := hSU
              go_simp
              try with_reducible rfl
            simp only [List.setIfInBounds_toArray, List.set_cons_zero, List.set_cons_succ]
            refine takeH 9 65 (v := ?_) rfl rfl (by kernel_rfl) (by kernel_rfl) (by kernel_rfl) (Or.inl ⟨by rfl, ?_⟩) (by assumption) ?_
            rotate_left
            · intro U hSU
              obtain ⟨s1, s2⟩ := hSU
              go_simp
              try with_reducible rfl
            simp only [List.setIfInBounds_toArray, List.set_cons_zero, List.set_cons_succ]
            refine takeH 10 66 (v := ?_) rfl rfl (by kernel_rfl) (by kernel_rfl) (by kernel_rfl) (Or.inl ⟨by rfl, ?_⟩) (by assumption) ?_
            rotate_left
            · intro U hSU
              obtain ⟨s1, s2⟩ := hSU
              go_simp
              try with_reducible rfl
            simp only [List.setIfInBounds_toArray, List.set_cons_zero, List.set_cons_succ]
            refine takeH 11 67 (v := ?_) rfl rfl (by kernel_rfl) (by kernel_rfl) (by kernel_rfl) (Or.inl ⟨by rfl, ?_⟩) (by assumption) ?_
            rotate_left
            · intro U hSU
              obtain ⟨s1, s2⟩ := hSU
              go_simp
              try with_reducible rfl
            simp only [List.setIfInBounds_toArray, List.set_cons_zero, List.set_cons_succ]
            refine takeH 12 68 (v := ?_) rfl rfl (by kernel_rfl) (by kernel_rfl) (by kernel_rfl) (Or.inl ⟨by rfl, ?_⟩) (by assumption) ?_
            rotate_left
            · intro U hSU
              obtain ⟨s1, s2⟩ := hSU
              go_simp
              try with_reducible rfl
            simp only [List.setIfInBounds_toArray, List.set_cons_zero, List.set_cons_succ]
            refine stepH 13 rfl (by kernel_rfl) (fun K hK => ?_)
            go_simp
            refine (HTk.out _).mono ?_
            rintro e w3 ⟨rfl, hd3⟩
            have HB3 := Lib.hid (below_to (below_drews HW1.out.1 1) (Nat.le_refl _) hd3.below)
            have y1 := (hd3.below.cell (p := ⟨wo.heap.size, 0, none⟩) HW1.out.2).trans x1
            have y2 := (hd3.below.cell (p := ⟨wo.heap.size, 0 + 1, none⟩) HW1.out.2).trans x2
            have HPl3 := Lib.hid ((HPl.out.new (below_drews (Below.refl _ _) 1)).new hd3.below)
            refine hK.out _ _ ⟨y1, y2⟩ (fun hHeld3 => ?_)
            clear hK K hHeld
            try simp only [Act.put, List.setIfInBounds_toArray, List.set_cons_zero, List.set_cons_succ]
            refine takeH 14 70 (v := ?_) rfl rfl (by kernel_rfl) (by kernel_rfl) (by kernel_rfl) (Or.inl ⟨by rfl, ?_⟩) (by assumption) ?_
            rotate_left
            · intro U hSU
              obtain ⟨s1, s2⟩ := hSU
              go_simp
              try with_reducible rfl
            simp only [List.setIfInBounds_toArray, List.set_cons_zero, List.set_cons_succ]
            refine takeH 15 71 (v := ?_) rfl rfl (by kernel_rfl) (by kernel_rfl) (by kernel_rfl) (Or.inl ⟨by rfl, ?_⟩) (by assumption) ?_
            rotate_left
            · intro U hSU
              obtain ⟨s1, s2⟩ := hSU
              go_simp
              try with_reducible rfl
            simp only [List.setIfInBounds_toArray, List.set_cons_zero, List.set_cons_succ]
            refine takeH 16 72 (v := ?_) rfl rfl (by kernel_rfl) (by kernel_rfl) (by kernel_rfl) (Or.inl ⟨by rfl, ?_⟩) (by assumption) ?_
            rotate_left
            · intro U hSU
              obtain ⟨s1, s2⟩ := hSU
              go_simp
              try with_reducible rfl
            simp only [List.setIfInBounds_toArray, List.set_cons_zero, List.set_cons_succ]
            refine takeH 17 73 (v := undef) rfl rfl (by kernel_rfl) (by kernel_rfl) (by kernel_rfl) (Or.inr ⟨by rfl, rfl⟩) (by assumption) ?_
            simp only [List.setIfInBounds_toArray, List.set_cons_zero, List.set_cons_succ]
            refine takeH 18 74 (v := undef) rfl rfl (by kernel_rfl) (by kernel_rfl) (by kernel_rfl) (Or.inr ⟨by rfl, rfl⟩) (by assumption) ?_
            simp only [List.setIfInBounds_toArray, List.set_cons_zero, List.set_cons_succ]
            refine takeH 19 75 (v := undef) rfl rfl (by kernel_rfl) (by kernel_rfl) (by kernel_rfl) (Or.inr ⟨by rfl, rfl⟩) (by assumption) ?_
            simp only [List.setIfInBounds_toArray, List.set_cons_zero, List.set_cons_succ]
            refine takeH 20 76 (v := undef) rfl rfl (by kernel_rfl) (by kernel_rfl) (by kernel_rfl) (Or.inr ⟨by rfl, rfl⟩) (by assumption) ?_
            simp only [List.setIfInBounds_toArray, List.set_cons_zero, List.set_cons_succ]
            refine takeH 21 77 (v := undef) rfl rfl (by kernel_rfl) (by kernel_rfl) (by kernel_rfl) (Or.inr ⟨by rfl, rfl⟩) (by assumption) ?_
            simp only [List.setIfInBounds_toArray, List.set_cons_zero, List.set_cons_succ]
            refine takeH 22 78 (v := undef) rfl rfl (by kernel_rfl) (by kernel_rfl) (by kernel_rfl) (Or.inr ⟨by rfl, rfl⟩) (by assumption) ?_
            simp only [List.setIfInBounds_toArray, List.set_cons_zero, List.set_cons_succ]
            refine takeH 23 79 (v := ?_) rfl rfl (by kernel_rfl) (by kernel_rfl) (by kernel_rfl) (Or.inl ⟨by rfl, ?_⟩) (by assumption) ?_
            rotate_left
            · intro U hSU
              obtain ⟨s1, s2⟩ := hSU
              go_simp
              try with_reducible rfl
            simp only [List.setIfInBounds_toArray, List.set_cons_zero, List.set_cons_succ]
            refine wpAnyH_done (by kernel_rfl) ?_ _
            refine Calm.normal ?_
            go_wp2
            go_ret
            exact ⟨rfl, HB3.out⟩
          | true =>
            rw [g3] at HTk
            obtain ⟨Lw, hLw⟩ : ∃ Lw : ByteArray, (⟨(Tx.lowL N).toArray⟩ : ByteArray) = Lw := ⟨_, rfl⟩
            have HLw := Lib.hid (fun W => lowerS_any ⟨N.toArray⟩ W (by rw [mk_len]; omega))
            rw [show (⟨N.toArray⟩ : ByteArray).data.toList = N from rfl, hLw] at HLw
            by_cases g4 : Tx.lowL N = N
            · obtain rfl : Lw = ⟨N.toArray⟩ := by rw [← hLw, g4]
              go_wp2
              rw [HWW.out]
              refine region_calm (fun U => U.cell? ⟨wo.heap.size, 0, none⟩ = some (.string ⟨N.toArray⟩) ∧ U.cell? ⟨wo.heap.size, 0 + 1, none⟩ = some (.string ⟨V.toArray⟩)) (by kernel_rfl) ⟨x1, x2⟩ (fun hHeld => ?_)
              show wpAnyH _ _ _ _ _ 24 (Array.replicate 24 false) _ _
              refine takeH 0 56 (v := ?_) rfl rfl (by kernel_rfl) (by kernel_rfl) (by kernel_rfl) (Or.inl ⟨by rfl, ?_⟩) (by assumption) ?_
              rotate_left
              · intro U hSU
                obtain ⟨s1, s2⟩ := hSU
                go_simp
                try with_reducible rfl
              simp only [List.setIfInBounds_toArray, List.set_cons_zero, List.set_cons_succ]
              refine takeH 1 57 (v := ?_) rfl rfl (by kernel_rfl) (by kernel_rfl) (by kernel_rfl) (Or.inl ⟨by rfl, ?_⟩) (by assumption) ?_
              rotate_left
              · intro U hSU
                obtain ⟨s1, s2⟩ := hSU
                go_simp
                try with_reducible rfl
              simp only [List.setIfInBounds_toArray, List.set_cons_zero, List.set_cons_succ]
              refine takeH 2 58 (v := ?_) rfl rfl (by kernel_rfl) (by kernel_rfl) (by kernel_rfl) (Or.inl ⟨by rfl, ?_⟩) (by assumption) ?_
              rotate_left
              · intro U hSU
                obtain ⟨s1, s2⟩ := hSU
                go_simp
                try with_reducible rfl
              simp only [List.setIfInBounds_toArray, List.set_cons_zero, List.set_cons_succ]
              refine takeH 3 59 (v := ?_) rfl rfl (by kernel_rfl) (by kernel_rfl) (by kernel_rfl) (Or.inl ⟨by rfl, ?_⟩) (by assumption) ?_
              rotate_left
              · intro U hSU
                obtain ⟨s1, s2⟩ := hSU
                go_simp
                try with_reducible rfl
              simp only [List.setIfInBounds_toArray, List.set_cons_zero, List.set_cons_succ]
              refine takeH 4 60 (v := ?_) rfl rfl (by kernel_rfl) (by kernel_rfl) (by kernel_rfl) (Or.inl ⟨by rfl, ?_⟩) (by assumption) ?_
              rotate_left
              · intro U hSU
                obtain ⟨s1, s2⟩ := hSU
                go_simp
                try with_reducible rfl
              simp only [List.setIfInBounds_toArray, List.set_cons_zero, List.set_cons_succ]
              refine takeH 5 61 (v := ?_) rfl rfl (by kernel_rfl) (by kernel_rfl) (by kernel_rfl) (Or.inl ⟨by rfl, ?_⟩) (by assumption) ?_
              rotate_left
              · intro U hSU
                obtain ⟨s1, s2⟩ := hSU
                go_simp
                try with_reducible rfl
              simp only [List.setIfInBounds_toArray, List.set_cons_zero, List.set_cons_succ]
              refine takeH 6 62 (v := ?_) rfl rfl (by kernel_rfl) (by kernel_rfl) (by kernel_rfl) (Or.inl ⟨by rfl, ?_⟩) (by assumption) ?_
              rotate_left
              · intro U hSU
                obtain ⟨s1, s2⟩ := hSU
                go_simp
                try with_reducible rfl
              simp only [List.setIfInBounds_toArray, List.set_cons_zero, List.set_cons_succ]
              refine takeH 7 63 (v := ?_) rfl rfl (by kernel_rfl) (by kernel_rfl) (by kernel_rfl) (Or.inl ⟨by rfl, ?_⟩) (by assumption) ?_
              rotate_left
              · intro U hSU
                obtain ⟨s1, s2⟩ := hSU
                go_simp
                try with_reducible rfl
              simp only [List.setIfInBounds_toArray, List.set_cons_zero, List.set_cons_succ]
              refine takeH 8 64 (v := ?_) rfl rfl (by kernel_rfl) (by kernel_rfl) (by kernel_rfl) (Or.inl ⟨by rfl, ?_⟩) (by assumption) ?_
              rotate_left
              · intro U hSU
                obtain ⟨s1, s2⟩ := hSU
                go_simp
                try with_reducible rfl
              simp only [List.setIfInBounds_toArray, List.set_cons_zero, List.set_cons_succ]
              refine takeH 9 65 (v := ?_) rfl rfl (by kernel_rfl) (by kernel_rfl) (by kernel_rfl) (Or.inl ⟨by rfl, ?_⟩) (by assumption) ?_
              rotate_left
              · intro U hSU
                obtain ⟨s1, s2⟩ := hSU
                go_simp
                try with_reducible rfl
              simp only [List.setIfInBounds_toArray, List.set_cons_zero, List.set_cons_succ]
              refine takeH 10 66 (v := ?_) rfl rfl (by kernel_rfl) (by kernel_rfl) (by kernel_rfl) (Or.inl ⟨by rfl, ?_⟩) (by assumption) ?_
              rotate_left
              · intro U hSU
                obtain ⟨s1, s2⟩ := hSU
                go_simp
                try with_reducible rfl
              simp only [List.setIfInBounds_toArray, List.set_cons_zero, List.set_cons_succ]
              refine takeH 11 67 (v := ?_) rfl rfl (by kernel_rfl) (by kernel_rfl) (by kernel_rfl) (Or.inl ⟨by rfl, ?_⟩) (by assumption) ?_
              rotate_left
              · intro U hSU
                obtain ⟨s1, s2⟩ := hSU
                go_simp
                try with_reducible rfl
              simp only [List.setIfInBounds_toArray, List.set_cons_zero, List.set_cons_succ]
              refine takeH 12 68 (v := ?_) rfl rfl (by kernel_rfl) (by kernel_rfl) (by kernel_rfl) (Or.inl ⟨by rfl, ?_⟩) (by assumption) ?_
              rotate_left
              · intro U hSU
                obtain ⟨s1, s2⟩ := hSU
                go_simp
                try with_reducible rfl
              simp only [List.setIfInBounds_toArray, List.set_cons_zero, List.set_cons_succ]
              refine stepH 13 rfl (by kernel_rfl) (fun K hK => ?_)
              go_simp
              refine (HTk.out _).mono ?_
              rintro e w3 ⟨rfl, hd3⟩
              have HB3 := Lib.hid (below_to (below_drews HW1.out.1 1) (Nat.le_refl _) hd3.below)
              have y1 := (hd3.below.cell (p := ⟨wo.heap.size, 0, none⟩) HW1.out.2).trans x1
              have y2 := (hd3.below.cell (p := ⟨wo.heap.size, 0 + 1, none⟩) HW1.out.2).trans x2
              have HPl3 := Lib.hid ((HPl.out.new (below_drews (Below.refl _ _) 1)).new hd3.below)
              refine hK.out _ _ ⟨y1, y2⟩ (fun hHeld3 => ?_)
              clear hK K hHeld
              try simp only [Act.put, List.setIfInBounds_toArray, List.set_cons_zero, List.set_cons_succ]
              refine takeH 14 70 (v := ?_) rfl rfl (by kernel_rfl) (by kernel_rfl) (by kernel_rfl) (Or.inl ⟨by rfl, ?_⟩) (by assumption) ?_
              rotate_left
              · intro U hSU
                obtain ⟨s1, s2⟩ := hSU
                go_simp
                try with_reducible rfl
              simp only [List.setIfInBounds_toArray, List.set_cons_zero, List.set_cons_succ]
              refine takeH 15 71 (v := ?_) rfl rfl (by kernel_rfl) (by kernel_rfl) (by kernel_rfl) (Or.inl ⟨by rfl, ?_⟩) (by assumption) ?_
              rotate_left
              · intro U hSU
                obtain ⟨s1, s2⟩ := hSU
                go_simp
                try with_reducible rfl
              simp only [List.setIfInBounds_toArray, List.set_cons_zero, List.set_cons_succ]
              refine takeH 16 72 (v := ?_) rfl rfl (by kernel_rfl) (by kernel_rfl) (by kernel_rfl) (Or.inl ⟨by rfl, ?_⟩) (by assumption) ?_
              rotate_left
              · intro U hSU
                obtain ⟨s1, s2⟩ := hSU
                go_simp
                try with_reducible rfl
              simp only [List.setIfInBounds_toArray, List.set_cons_zero, List.set_cons_succ]
              refine takeH 17 73 (v := ?_) rfl rfl (by kernel_rfl) (by kernel_rfl) (by kernel_rfl) (Or.inl ⟨by rfl, ?_⟩) (by assumption) ?_
              rotate_left
              · intro U hSU
                obtain ⟨s1, s2⟩ := hSU
                go_simp
                try with_reducible rfl
              simp only [List.setIfInBounds_toArray, List.set_cons_zero, List.set_cons_succ]
              refine takeH 18 74 (v := ?_) rfl rfl (by kernel_rfl) (by kernel_rfl) (by kernel_rfl) (Or.inl ⟨by rfl, ?_⟩) (by assumption) ?_
              rotate_left
              · intro U hSU
                obtain ⟨s1, s2⟩ := hSU
                go_simp
                try with_reducible rfl
              simp only [List.setIfInBounds_toArray, List.set_cons_zero, List.set_cons_succ]
              refine takeH 20 76 (v := ?_) rfl rfl (by kernel_rfl) (by kernel_rfl) (by kernel_rfl) (Or.inl ⟨by rfl, ?_⟩) (by assumption) ?_
              rotate_left
              · intro U hSU
                obtain ⟨s1, s2⟩ := hSU
                go_simp
                try with_reducible rfl
              simp only [List.setIfInBounds_toArray, List.set_cons_zero, List.set_cons_succ]
              refine takeH 21 77 (v := ?_) rfl rfl (by kernel_rfl) (by kernel_rfl) (by kernel_rfl) (Or.inl ⟨by rfl, ?_⟩) (by assumption) ?_
              rotate_left
              · intro U hSU
                obtain ⟨s1, s2⟩ := hSU
                go_simp
                try with_reducible rfl
              simp only [List.setIfInBounds_toArray, List.set_cons_zero, List.set_cons_succ]
              refine stepH 19 rfl (by kernel_rfl) (fun K hK => ?_)
              go_simp
              refine (HLw.out _).mono ?_
              rintro e w4 ⟨rfl, hb4⟩
              have HB4 := Lib.hid (below_to HB3.out (Nat.le_refl _) hb4)
              have z1 := (hb4.cell (p := ⟨wo.heap.size, 0, none⟩) (lt_cell y1)).trans y1
              have z2 := (hb4.cell (p := ⟨wo.heap.size, 0 + 1, none⟩) (lt_cell y1)).trans y2
              have HPl4 := Lib.hid (HPl3.out.new hb4)
              refine hK.out _ _ ⟨z1, z2⟩ (fun hHeld4 => ?_)
              clear hK K hHeld3
              try simp only [Act.put, List.setIfInBounds_toArray, List.set_cons_zero, List.set_cons_succ]
              refine takeH 22 78 (v := ?_) rfl rfl (by kernel_rfl) (by kernel_rfl) (by kernel_rfl) (Or.inl ⟨by rfl, ?_⟩) (by assumption) ?_
              rotate_left
              · intro U hSU
                obtain ⟨s1, s2⟩ := hSU
                go_simp
                try with_reducible rfl
              simp only [List.setIfInBounds_toArray, List.set_cons_zero, List.set_cons_succ]
              refine takeH 23 79 (v := ?_) rfl rfl (by kernel_rfl) (by kernel_rfl) (by kernel_rfl) (Or.inl ⟨by rfl, ?_⟩) (by assumption) ?_
              rotate_left
              · intro U hSU
                obtain ⟨s1, s2⟩ := hSU
                go_simp
                try with_reducible rfl
              simp only [List.setIfInBounds_toArray, List.set_cons_zero, List.set_cons_succ]
              refine wpAnyH_done (by kernel_rfl) ?_ _
              refine Calm.normal ?_
              go_wp2
              go_loopw [9] (fun i wi => ∃ j : Nat, i = .int .i64 j ∧ j ≤ k ∧ Hid (∀ i q, i < j → X[i]? = some q → q.1 ≠ N) ∧ Hid (Drew w4 wi)) (fun i _ => k - (intOf i).toNat)
              case atStart => exact ⟨0, rfl, Nat.zero_le _, fun i q h => absurd h (Nat.not_lt_zero _), ⟨0, rfl⟩⟩
              case round =>
                obtain ⟨j, rfl, hj, hNe, hD⟩ := hrel
                have HBi := Lib.hid (below_to HB4.out (Nat.le_refl _) hD.out.below)
                by_cases hlj : j < k
                · have hjn : j < n := by omega
                  obtain ⟨⟨N2, V2⟩, hp2⟩ : ∃ p, X[j]? = some p := ⟨_, List.getElem?_eq_getElem (by rw [HN.out]; exact hjn)⟩
                  have e0 := ((HPl4.out.new hD.out.below).c j _ hp2).1
                  have e1 := (hD.out.below.cell (p := ⟨wo.heap.size, 0, none⟩) (lt_cell z1)).trans z1
                  simp only at e0
                  have HP2 := Lib.hid hp2
                  clear hp2
                  by_cases g6 : N2 = N
                  · obtain rfl : N = N2 := g6.symm
                    go_wp2
                    refine region_calm (fun U => U.cell? ⟨xb, xo + j * 2, none⟩ = some (.string ⟨N.toArray⟩) ∧ U.cell? ⟨wo.heap.size, 0, none⟩ = some (.string ⟨N.toArray⟩)) (by kernel_rfl) ⟨e0, e1⟩ (fun hHeld => ?_)
                    show wpAnyH _ _ _ _ _ 8 (Array.replicate 8 false) _ _
                    refine takeH 0 86 (v := ?_) rfl rfl (by kernel_rfl) (by kernel_rfl) (by kernel_rfl) (Or.inl ⟨by rfl, ?_⟩) (by assumption) ?_
                    rotate_left
                    · intro U hSU
                      obtain ⟨s1, s2⟩ := hSU
                      go_simp
                      try with_reducible rfl
                    simp only [List.setIfInBounds_toArray, List.set_cons_zero, List.set_cons_succ]
                    refine takeH 1 87 (v := ?_) rfl rfl (by kernel_rfl) (by kernel_rfl) (by kernel_rfl) (Or.inl ⟨by rfl, ?_⟩) (by assumption) ?_
                    rotate_left
                    · intro U hSU
                      obtain ⟨s1, s2⟩ := hSU
                      go_simp
                      try with_reducible rfl
                    simp only [List.setIfInBounds_toArray, List.set_cons_zero, List.set_cons_succ]
                    refine takeH 2 88 (v := ?_) rfl rfl (by kernel_rfl) (by kernel_rfl) (by kernel_rfl) (Or.inl ⟨by rfl, ?_⟩) (by assumption) ?_
                    rotate_left
                    · intro U hSU
                      obtain ⟨s1, s2⟩ := hSU
                      go_simp
                      try with_reducible rfl
                    simp only [List.setIfInBounds_toArray, List.set_cons_zero, List.set_cons_succ]
                    refine takeH 3 89 (v := ?_) rfl rfl (by kernel_rfl) (by kernel_rfl) (by kernel_rfl) (Or.inl ⟨by rfl, ?_⟩) (by assumption) ?_
                    rotate_left
                    · intro U hSU
                      obtain ⟨s1, s2⟩ := hSU
                      go_simp
                      try with_reducible rfl
                    simp only [List.setIfInBounds_toArray, List.set_cons_zero, List.set_cons_succ]
                    refine takeH 4 90 (v := ?_) rfl rfl (by kernel_rfl) (by kernel_rfl) (by kernel_rfl) (Or.inl ⟨by rfl, ?_⟩) (by assumption) ?_
                    rotate_left
                    · intro U hSU
                      obtain ⟨s1, s2⟩ := hSU
                      go_simp
                      try with_reducible rfl
                    simp only [List.setIfInBounds_toArray, List.set_cons_zero, List.set_cons_succ]
                    refine takeH 5 91 (v := ?_) rfl rfl (by kernel_rfl) (by kernel_rfl) (by kernel_rfl) (Or.inl ⟨by rfl, ?_⟩) (by assumption) ?_
                    rotate_left
                    · intro U hSU
                      obtain ⟨s1, s2⟩ := hSU
                      go_simp
                      try with_reducible rfl
                    simp only [List.setIfInBounds_toArray, List.set_cons_zero, List.set_cons_succ]
                    refine takeH 6 92 (v := ?_) rfl rfl (by kernel_rfl) (by kernel_rfl) (by kernel_rfl) (Or.inl ⟨by rfl, ?_⟩) (by assumption) ?_
                    rotate_left
                    · intro U hSU
                      obtain ⟨s1, s2⟩ := hSU
                      go_simp
                      try with_reducible rfl
                    simp only [List.setIfInBounds_toArray, List.set_cons_zero, List.set_cons_succ]
                    refine takeH 7 93 (v := ?_) rfl rfl (by kernel_rfl) (by kernel_rfl) (by kernel_rfl) (Or.inl ⟨by rfl, ?_⟩) (by assumption) ?_
                    rotate_left
                    · intro U hSU
                      obtain ⟨s1, s2⟩ := hSU
                      go_simp
                      try with_reducible rfl
                    simp only [List.setIfInBounds_toArray, List.set_cons_zero, List.set_cons_succ]
                    refine wpAnyH_done (by kernel_rfl) ?_ _
                    refine Calm.normal ?_
                    go_wp2
                    go_ret
                    exact ⟨rfl, below_drews HBi.out 1⟩
                  · have g7 : ¬ (N = N2) := fun h => g6 h.symm
                    have g8 : (N2 == N) = false := beq_eq_false_iff_ne.2 g6
                    have HNx := Lib.hid (show ∀ i q, i < j + 1 → X[i]? = some q → q.1 ≠ N from fun i q hi hq => by
                      by_cases hij : i = j
                      · subst hij
                        rw [HP2.out] at hq
                        cases hq
                        exact g6
                      · exact hNe.out i q (by omega) hq)
                    go_wp2
                    refine region_calm (fun U => U.cell? ⟨xb, xo + j * 2, none⟩ = some (.string ⟨N2.toArray⟩) ∧ U.cell? ⟨wo.heap.size, 0, none⟩ = some (.string ⟨N.toArray⟩)) (by kernel_rfl) ⟨e0, e1⟩ (fun hHeld => ?_)
                    show wpAnyH _ _ _ _ _ 8 (Array.replicate 8 false) _ _
                    refine takeH 0 86 (v := ?_) rfl rfl (by kernel_rfl) (by kernel_rfl) (by kernel_rfl) (Or.inl ⟨by rfl, ?_⟩) (by assumption) ?_
                    rotate_left
                    · intro U hSU
                      obtain ⟨s1, s2⟩ := hSU
                      go_simp
                      try with_reducible rfl
                    simp only [List.setIfInBounds_toArray, List.set_cons_zero, List.set_cons_succ]
                    refine takeH 1 87 (v := ?_) rfl rfl (by kernel_rfl) (by kernel_rfl) (by kernel_rfl) (Or.inl ⟨by rfl, ?_⟩) (by assumption) ?_
                    rotate_left
                    · intro U hSU
                      obtain ⟨s1, s2⟩ := hSU
                      go_simp
                      try with_reducible rfl
                    simp only [List.setIfInBounds_toArray, List.set_cons_zero, List.set_cons_succ]
                    refine takeH 2 88 (v := ?_) rfl rfl (by kernel_rfl) (by kernel_rfl) (by kernel_rfl) (Or.inl ⟨by rfl, ?_⟩) (by assumption) ?_
                    rotate_left
                    · intro U hSU
                      obtain ⟨s1, s2⟩ := hSU
                      go_simp
                      try with_reducible rfl
                    simp only [List.setIfInBounds_toArray, List.set_cons_zero, List.set_cons_succ]
                    refine takeH 3 89 (v := ?_) rfl rfl (by kernel_rfl) (by kernel_rfl) (by kernel_rfl) (Or.inl ⟨by rfl, ?_⟩) (by assumption) ?_
                    rotate_left
                    · intro U hSU
                      obtain ⟨s1, s2⟩ := hSU
                      go_simp
                      try with_reducible rfl
                    simp only [List.setIfInBounds_toArray, List.set_cons_zero, List.set_cons_succ]
                    refine takeH 4 90 (v := ?_) rfl rfl (by kernel_rfl) (by kernel_rfl) (by kernel_rfl) (Or.inl ⟨by rfl, ?_⟩) (by assumption) ?_
                    rotate_left
                    · intro U hSU
                      obtain ⟨s1, s2⟩ := hSU
                      go_simp
                      try with_reducible rfl
                    simp only [List.setIfInBounds_toArray, List.set_cons_zero, List.set_cons_succ]
                    refine takeH 5 91 (v := ?_) rfl rfl (by kernel_rfl) (by kernel_rfl) (by kernel_rfl) (Or.inl ⟨by rfl, ?_⟩) (by assumption) ?_
                    rotate_left
                    · intro U hSU
                      obtain ⟨s1, s2⟩ := hSU
                      go_simp
                      try with_reducible rfl
                    simp only [List.setIfInBounds_toArray, List.set_cons_zero, List.set_cons_succ]
                    refine takeH 6 92 (v := ?_) rfl rfl (by kernel_rfl) (by kernel_rfl) (by kernel_rfl) (Or.inl ⟨by rfl, ?_⟩) (by assumption) ?_
                    rotate_left
                    · intro U hSU
                      obtain ⟨s1, s2⟩ := hSU
                      go_simp
                      try with_reducible rfl
                    simp only [List.setIfInBounds_toArray, List.set_cons_zero, List.set_cons_succ]
                    refine takeH 7 93 (v := ?_) rfl rfl (by kernel_rfl) (by kernel_rfl) (by kernel_rfl) (Or.inl ⟨by rfl, ?_⟩) (by assumption) ?_
                    rotate_left
                    · intro U hSU
                      obtain ⟨s1, s2⟩ := hSU
                      go_simp
                      try with_reducible rfl
                    simp only [List.setIfInBounds_toArray, List.set_cons_zero, List.set_cons_succ]
                    refine wpAnyH_done (by kernel_rfl) ?_ _
                    refine Calm.normal ?_
                    go_wp2
                    go_roundw
                    case rel => exact ⟨j + 1, by go_num, by omega, HNx.out, drews_more hD.out 1⟩
                    case measure => simp [intOf]; omega
                · obtain rfl : j = k := by omega
                  have HQ2 := Lib.hid (hQ.out.succ HP.out (by simp only; omega) (by simp only; omega) g3 g4 hNe.out)
                  go_wp2
                  go_roundw
                  case rel => exact ⟨j + 1, by go_num, by omega, HQ2.out, HBi.out⟩
                  case measure => simp [intOf]; omega
            · have q7 := ba_ne hLw g4
              have q8 : ¬ (Lw = ⟨N.toArray⟩) := fun e => g4 (by have := congrArg (fun b : ByteArray => b.data.toList) (hLw.trans e); simpa using this)
              go_wp2
              rw [HWW.out]
              refine region_calm (fun U => U.cell? ⟨wo.heap.size, 0, none⟩ = some (.string ⟨N.toArray⟩) ∧ U.cell? ⟨wo.heap.size, 0 + 1, none⟩ = some (.string ⟨V.toArray⟩)) (by kernel_rfl) ⟨x1, x2⟩ (fun hHeld => ?_)
              show wpAnyH _ _ _ _ _ 24 (Array.replicate 24 false) _ _
              refine takeH 0 56 (v := ?_) rfl rfl (by kernel_rfl) (by kernel_rfl) (by kernel_rfl) (Or.inl ⟨by rfl, ?_⟩) (by assumption) ?_
              rotate_left
              · intro U hSU
                obtain ⟨s1, s2⟩ := hSU
                go_simp
                try with_reducible rfl
              simp only [List.setIfInBounds_toArray, List.set_cons_zero, List.set_cons_succ]
              refine takeH 1 57 (v := ?_) rfl rfl (by kernel_rfl) (by kernel_rfl) (by kernel_rfl) (Or.inl ⟨by rfl, ?_⟩) (by assumption) ?_
              rotate_left
              · intro U hSU
                obtain ⟨s1, s2⟩ := hSU
                go_simp
                try with_reducible rfl
              simp only [List.setIfInBounds_toArray, List.set_cons_zero, List.set_cons_succ]
              refine takeH 2 58 (v := ?_) rfl rfl (by kernel_rfl) (by kernel_rfl) (by kernel_rfl) (Or.inl ⟨by rfl, ?_⟩) (by assumption) ?_
              rotate_left
              · intro U hSU
                obtain ⟨s1, s2⟩ := hSU
                go_simp
                try with_reducible rfl
              simp only [List.setIfInBounds_toArray, List.set_cons_zero, List.set_cons_succ]
              refine takeH 3 59 (v := ?_) rfl rfl (by kernel_rfl) (by kernel_rfl) (by kernel_rfl) (Or.inl ⟨by rfl, ?_⟩) (by assumption) ?_
              rotate_left
              · intro U hSU
                obtain ⟨s1, s2⟩ := hSU
                go_simp
                try with_reducible rfl
              simp only [List.setIfInBounds_toArray, List.set_cons_zero, List.set_cons_succ]
              refine takeH 4 60 (v := ?_) rfl rfl (by kernel_rfl) (by kernel_rfl) (by kernel_rfl) (Or.inl ⟨by rfl, ?_⟩) (by assumption) ?_
              rotate_left
              · intro U hSU
                obtain ⟨s1, s2⟩ := hSU
                go_simp
                try with_reducible rfl
              simp only [List.setIfInBounds_toArray, List.set_cons_zero, List.set_cons_succ]
              refine takeH 5 61 (v := ?_) rfl rfl (by kernel_rfl) (by kernel_rfl) (by kernel_rfl) (Or.inl ⟨by rfl, ?_⟩) (by assumption) ?_
              rotate_left
              · intro U hSU
                obtain ⟨s1, s2⟩ := hSU
                go_simp
                try with_reducible rfl
              simp only [List.setIfInBounds_toArray, List.set_cons_zero, List.set_cons_succ]
              refine takeH 6 62 (v := ?_) rfl rfl (by kernel_rfl) (by kernel_rfl) (by kernel_rfl) (Or.inl ⟨by rfl, ?_⟩) (by assumption) ?_
              rotate_left
              · intro U hSU
                obtain ⟨s1, s2⟩ := hSU
                go_simp
                try with_reducible rfl
              simp only [List.setIfInBounds_toArray, List.set_cons_zero, List.set_cons_succ]
              refine takeH 7 63 (v := ?_) rfl rfl (by kernel_rfl) (by kernel_rfl) (by kernel_rfl) (Or.inl ⟨by rfl, ?_⟩) (by assumption) ?_
              rotate_left
              · intro U hSU
                obtain ⟨s1, s2⟩ := hSU
                go_simp
                try with_reducible rfl
              simp only [List.setIfInBounds_toArray, List.set_cons_zero, List.set_cons_succ]
              refine takeH 8 64 (v := ?_) rfl rfl (by kernel_rfl) (by kernel_rfl) (by kernel_rfl) (Or.inl ⟨by rfl, ?_⟩) (by assumption) ?_
              rotate_left
              · intro U hSU
                obtain ⟨s1, s2⟩ := hSU
                go_simp
                try with_reducible rfl
              simp only [List.setIfInBounds_toArray, List.set_cons_zero, List.set_cons_succ]
              refine takeH 9 65 (v := ?_) rfl rfl (by kernel_rfl) (by kernel_rfl) (by kernel_rfl) (Or.inl ⟨by rfl, ?_⟩) (by assumption) ?_
              rotate_left
              · intro U hSU
                obtain ⟨s1, s2⟩ := hSU
                go_simp
                try with_reducible rfl
              simp only [List.setIfInBounds_toArray, List.set_cons_zero, List.set_cons_succ]
              refine takeH 10 66 (v := ?_) rfl rfl (by kernel_rfl) (by kernel_rfl) (by kernel_rfl) (Or.inl ⟨by rfl, ?_⟩) (by assumption) ?_
              rotate_left
              · intro U hSU
                obtain ⟨s1, s2⟩ := hSU
                go_simp
                try with_reducible rfl
              simp only [List.setIfInBounds_toArray, List.set_cons_zero, List.set_cons_succ]
              refine takeH 11 67 (v := ?_) rfl rfl (by kernel_rfl) (by kernel_rfl) (by kernel_rfl) (Or.inl ⟨by rfl, ?_⟩) (by assumption) ?_
              rotate_left
              · intro U hSU
                obtain ⟨s1, s2⟩ := hSU
                go_simp
                try with_reducible rfl
              simp only [List.setIfInBounds_toArray, List.set_cons_zero, List.set_cons_succ]
              refine takeH 12 68 (v := ?_) rfl rfl (by kernel_rfl) (by kernel_rfl) (by kernel_rfl) (Or.inl ⟨by rfl, ?_⟩) (by assumption) ?_
              rotate_left
              · intro U hSU
                obtain ⟨s1, s2⟩ := hSU
                go_simp
                try with_reducible rfl
              simp only [List.setIfInBounds_toArray, List.set_cons_zero, List.set_cons_succ]
              refine stepH 13 rfl (by kernel_rfl) (fun K hK => ?_)
              go_simp
              refine (HTk.out _).mono ?_
              rintro e w3 ⟨rfl, hd3⟩
              have HB3 := Lib.hid (below_to (below_drews HW1.out.1 1) (Nat.le_refl _) hd3.below)
              have y1 := (hd3.below.cell (p := ⟨wo.heap.size, 0, none⟩) HW1.out.2).trans x1
              have y2 := (hd3.below.cell (p := ⟨wo.heap.size, 0 + 1, none⟩) HW1.out.2).trans x2
              have HPl3 := Lib.hid ((HPl.out.new (below_drews (Below.refl _ _) 1)).new hd3.below)
              refine hK.out _ _ ⟨y1, y2⟩ (fun hHeld3 => ?_)
              clear hK K hHeld
              try simp only [Act.put, List.setIfInBounds_toArray, List.set_cons_zero, List.set_cons_succ]
              refine takeH 14 70 (v := ?_) rfl rfl (by kernel_rfl) (by kernel_rfl) (by kernel_rfl) (Or.inl ⟨by rfl, ?_⟩) (by assumption) ?_
              rotate_left
              · intro U hSU
                obtain ⟨s1, s2⟩ := hSU
                go_simp
                try with_reducible rfl
              simp only [List.setIfInBounds_toArray, List.set_cons_zero, List.set_cons_succ]
              refine takeH 15 71 (v := ?_) rfl rfl (by kernel_rfl) (by kernel_rfl) (by kernel_rfl) (Or.inl ⟨by rfl, ?_⟩) (by assumption) ?_
              rotate_left
              · intro U hSU
                obtain ⟨s1, s2⟩ := hSU
                go_simp
                try with_reducible rfl
              simp only [List.setIfInBounds_toArray, List.set_cons_zero, List.set_cons_succ]
              refine takeH 16 72 (v := ?_) rfl rfl (by kernel_rfl) (by kernel_rfl) (by kernel_rfl) (Or.inl ⟨by rfl, ?_⟩) (by assumption) ?_
              rotate_left
              · intro U hSU
                obtain ⟨s1, s2⟩ := hSU
                go_simp
                try with_reducible rfl
              simp only [List.setIfInBounds_toArray, List.set_cons_zero, List.set_cons_succ]
              refine takeH 17 73 (v := ?_) rfl rfl (by kernel_rfl) (by kernel_rfl) (by kernel_rfl) (Or.inl ⟨by rfl, ?_⟩) (by assumption) ?_
              rotate_left
              · intro U hSU
                obtain ⟨s1, s2⟩ := hSU
                go_simp
                try with_reducible rfl
              simp only [List.setIfInBounds_toArray, List.set_cons_zero, List.set_cons_succ]
              refine takeH 18 74 (v := ?_) rfl rfl (by kernel_rfl) (by kernel_rfl) (by kernel_rfl) (Or.inl ⟨by rfl, ?_⟩) (by assumption) ?_
              rotate_left
              · intro U hSU
                obtain ⟨s1, s2⟩ := hSU
                go_simp
                try with_reducible rfl
              simp only [List.setIfInBounds_toArray, List.set_cons_zero, List.set_cons_succ]
              refine takeH 20 76 (v := ?_) rfl rfl (by kernel_rfl) (by kernel_rfl) (by kernel_rfl) (Or.inl ⟨by rfl, ?_⟩) (by assumption) ?_
              rotate_left
              · intro U hSU
                obtain ⟨s1, s2⟩ := hSU
                go_simp
                try with_reducible rfl
              simp only [List.setIfInBounds_toArray, List.set_cons_zero, List.set_cons_succ]
              refine takeH 21 77 (v := ?_) rfl rfl (by kernel_rfl) (by kernel_rfl) (by kernel_rfl) (Or.inl ⟨by rfl, ?_⟩) (by assumption) ?_
              rotate_left
              · intro U hSU
                obtain ⟨s1, s2⟩ := hSU
                go_simp
                try with_reducible rfl
              simp only [List.setIfInBounds_toArray, List.set_cons_zero, List.set_cons_succ]
              refine stepH 19 rfl (by kernel_rfl) (fun K hK => ?_)
              go_simp
              refine (HLw.out _).mono ?_
              rintro e w4 ⟨rfl, hb4⟩
              have HB4 := Lib.hid (below_to HB3.out (Nat.le_refl _) hb4)
              have z1 := (hb4.cell (p := ⟨wo.heap.size, 0, none⟩) (lt_cell y1)).trans y1
              have z2 := (hb4.cell (p := ⟨wo.heap.size, 0 + 1, none⟩) (lt_cell y1)).trans y2
              have HPl4 := Lib.hid (HPl3.out.new hb4)
              refine hK.out _ _ ⟨z1, z2⟩ (fun hHeld4 => ?_)
              clear hK K hHeld3
              try simp only [Act.put, List.setIfInBounds_toArray, List.set_cons_zero, List.set_cons_succ]
              refine takeH 22 78 (v := ?_) rfl rfl (by kernel_rfl) (by kernel_rfl) (by kernel_rfl) (Or.inl ⟨by rfl, ?_⟩) (by assumption) ?_
              rotate_left
              · intro U hSU
                obtain ⟨s1, s2⟩ := hSU
                go_simp
                try with_reducible rfl
              simp only [List.setIfInBounds_toArray, List.set_cons_zero, List.set_cons_succ]
              refine takeH 23 79 (v := ?_) rfl rfl (by kernel_rfl) (by kernel_rfl) (by kernel_rfl) (Or.inl ⟨by rfl, ?_⟩) (by assumption) ?_
              rotate_left
              · intro U hSU
                obtain ⟨s1, s2⟩ := hSU
                go_simp
                try with_reducible rfl
              simp only [List.setIfInBounds_toArray, List.set_cons_zero, List.set_cons_succ]
              refine wpAnyH_done (by kernel_rfl) ?_ _
              refine Calm.normal ?_
              go_wp2
              go_ret
              exact ⟨rfl, HB4.out⟩
        · obtain rfl : k = n := by omega
          have hQ2 : Hd.QOk X X.length := by rw [HN.out]; exact hQ.out
          have hPs := Hd.params_quote HMo.out H3.out (fun p hp => ⟨(hQ2.each p hp).2.2.1, (hQ2.each p hp).2.2.2⟩) hQ2.pair
          have hql := Hd.quote_len (m := s.data.toList) (ps := X) (fun p hp => ⟨(hQ2.each p hp).1, (hQ2.each p hp).2.1⟩)
          rw [HN.out, ← Lib.size_eq] at hql
          have hE : ∀ p ∈ X, p.1.length ≤ 10000 ∧ p.2.length ≤ 10000 := fun p hp => ⟨by have := (hQ2.each p hp).1; omega, by have := (hQ2.each p hp).2.1; omega⟩
          have HQt := Lib.hid (fun (W : World) (c : Nat) (a : Option Addr) (b o : Nat) (h : PL W a b o X) (hm : MaxAt W) => quote_any s X k c a b o W (by omega) h HN.out (by omega) hE hm)
          obtain ⟨q, hq⟩ : ∃ q, Hd.quote s.data.toList X = q := ⟨_, rfl⟩
          rw [hq] at hPs hql HQt
          have HPt := Lib.hid (fun W hm => params_to (s := ⟨q.toArray⟩) hPs HN.out (by rw [mk_len]; omega) W hm)
          rw [str_back] at HPt
          have HSp := Lib.hid (fun (W : World) (a b : Option Addr) (x y o c d : Nat) (h1 : PL W a x 0 X) (h2 : PL W b y o X) => sameP_any X X k k c d a b x y 0 o W h1 h2 HN.out HN.out (by omega))
          have HXr := Lib.hid (HX.out.new hB.out)
          have HMr := Lib.hid (HM.out.below hB.out hpos)
          have HBr := Lib.hid (below_to hB.out (Nat.le_refl _) (Below.refl _ wr))
          clear hQ2 hPs hql hE hq hQ hB
          go_wp2_with (first
            | (go_at_call 15; with_reducible refine (HQt.out _ _ _ _ _ HXr.out HMr.out).mono ?_; rintro e v1 ⟨rfl, hb1⟩; have HX1 := Lib.hid (HXr.out.new hb1); have HM1 := Lib.hid (HMr.out.below hb1 HMr.out.pos); have HB1 := Lib.hid (below_to HBr.out (Nat.le_refl _) hb1); clear hb1)
            | (go_at_call 10; with_reducible refine (HPt.out _ HM1.out).mono ?_; rintro e v2 ⟨a2, b2, c2, rfl, hP2, hb2⟩; have HX2 := Lib.hid (HX1.out.new hb2.out); have HM2 := Lib.hid (HM1.out.below hb2.out HM1.out.pos); have HB2 := Lib.hid (below_to HB1.out (Nat.le_refl _) hb2.out); clear hb2)
            | (go_at_call 14; with_reducible refine (HSp.out _ _ _ _ _ _ _ _ hP2.out HX2.out).mono ?_; rintro e v3 ⟨he3, hd3⟩; obtain rfl := SameIs.true he3; have HM3 := Lib.hid (HM2.out.below hd3.below HM2.out.pos); have HP3 := Lib.hid (hP2.out.new hd3.below); have HB3 := Lib.hid (below_to HB2.out (Nat.le_refl _) hd3.below); clear hd3 he3)
            | (go_at_call 15; with_reducible refine (HQt.out _ _ _ _ _ HP3.out HM3.out).mono ?_; rintro e v4 ⟨rfl, hb4⟩; have HB4 := Lib.hid (below_to HB3.out (Nat.le_refl _) hb4); clear hb4))
          go_ret
          exact ⟨rfl, HB4.out⟩
end Go.Proofs.YtliadekcbkedmaaDoor
