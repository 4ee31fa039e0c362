/-
  DiskArms: the law returns true, whatever is written, whenever the crash comes, and whatever is kept.
-/
import Derived.Test.YtalhilmpjnejbaaKXr
import Derived.Test.YtalhilmpjnejbaaKY2
namespace Go.Proofs.Ytalhilmpjnejbaa
open Go Go.RowKit
def tot (X : List (List UInt8)) (k : Nat) : Nat := ((X.take k).map List.length).sum
theorem tot_zero (X : List (List UInt8)) : tot X 0 = 0 := by unfold tot; rw [List.take_zero]; rfl
theorem tot_succ (X : List (List UInt8)) (k : Nat) (x : List UInt8) (h : X[k]? = some x) : tot X (k + 1) = tot X k + x.length := by
  unfold tot
  rw [List.take_add_one, h]
  simp
theorem tot_le {X : List (List UInt8)} (hr : ∀ x ∈ X, x.length ≤ 140737488351232) : ∀ k, tot X k ≤ k * 140737488351232
  | 0 => by rw [tot_zero]; omega
  | k + 1 => by
    have ih := tot_le hr k
    cases h : X[k]? with
    | none =>
      have : tot X (k + 1) = tot X k := by unfold tot; rw [List.take_add_one, h]; simp
      omega
    | some x =>
      have := hr x (List.mem_of_getElem? h)
      rw [tot_succ X k x h]
      omega
theorem tot_mono (X : List (List UInt8)) : ∀ k, tot X k ≤ tot X (k + 1) := fun k => by
  cases h : X[k]? with
  | none =>
    have : tot X (k + 1) = tot X k := by unfold tot; rw [List.take_add_one, h]; simp
    omega
  | some x => rw [tot_succ X k x h]; omega
theorem tot_all (X : List (List UInt8)) (n : Nat) : ∀ k, k ≤ n → tot X k ≤ tot X n := by
  intro k hk
  induction n with
  | zero => obtain rfl : k = 0 := by omega
            exact Nat.le_refl _
  | succ n ih =>
    rcases Nat.lt_or_ge n k with h | h
    · obtain rfl : k = n + 1 := by omega
      exact Nat.le_refl _
    · exact Nat.le_trans (ih h) (tot_mono X n)
/-- While the machine is up. -/
def AUp (w0 w : World) (g : Nat) (S R : ByteArray) (c x : Int) (ks : List Int) (T : Nat) : Prop := ∃ D, Mine w0 w g D ∧ Dk.AInv D S.data.toList R.data.toList c x ks ∧ D.queue.length ≤ T ∧ S.size + R.size = T
/-- Behind the crash. -/
def ADown (w0 w : World) (g : Nat) (S R : ByteArray) (c x : Int) (ks : List Int) (T : Nat) : Prop := c = x ∧ S.size + R.size = T ∧ ∃ D, Mine w0 w g D ∧ D.down = true ∧ D.queue = [] ∧ Dk.Left (D.last 0) S.data.toList R.data.toList ks
section
variable {w0 w : World} {g : Nat} {S R : ByteArray} {c x : Int} {ks : List Int} {T : Nat}
theorem up_more (h : AUp w0 w g S R c x ks T) : c < x := by
  obtain ⟨D, _, h, _⟩ := h
  exact h.more
theorem up_below (h : AUp w0 w g S R c x ks T) : Below w0.heap.size w0 w := by
  obtain ⟨D, h, _⟩ := h
  exact h.below
theorem down_below (h : ADown w0 w g S R c x ks T) : Below w0.heap.size w0 w := by
  obtain ⟨_, _, D, h, _⟩ := h
  exact h.below
theorem up_down (h : AUp w0 w g S R c x ks T) : Calls Try.prog 21 #[.pointer (some ⟨g, 0, none⟩)] w fun e w' => e = .returned (.bool false) ∧ w = w' := by
  obtain ⟨D, h1, h2, _⟩ := h
  exact (mine_down h1).mono fun _ _ ⟨a, b⟩ => ⟨by rw [a, h2.down], b⟩
theorem down_down (h : ADown w0 w g S R c x ks T) : Calls Try.prog 21 #[.pointer (some ⟨g, 0, none⟩)] w fun e w' => e = .returned (.bool true) ∧ w = w' := by
  obtain ⟨_, _, D, h1, h2, _⟩ := h
  exact (mine_down h1).mono fun _ _ ⟨a, b⟩ => ⟨by rw [a, h2], b⟩
theorem app_list (a b : ByteArray) : (a ++ b).data.toList = a.data.toList ++ b.data.toList := by rw [ByteArray.data_append, Array.toList_append]
theorem up_write1 (h : AUp w0 w g S R c x ks T) (s : ByteArray) (hT : T + s.size ≤ 20000) (hc : c + 1 < x) :
    Calls Try.prog 16 #[.pointer (some ⟨g, 0, none⟩), .int .i64 0, .int .i64 ((S.size : Int) + (R.size : Int)), .string s] w fun e w' => e = .returned (.int .i64 0) ∧ AUp w0 w' g S (R ++ s) (c + 1) x ks (T + s.size) := by
  obtain ⟨D, h1, h2, h3, h4⟩ := h
  have zS := Lib.size_eq S
  have zR := Lib.size_eq R
  have zs := Lib.size_eq s
  have e : (S.size : Int) + (R.size : Int) = ((S.data.toList.length + R.data.toList.length : Nat) : Int) := by omega
  rw [e]
  obtain ⟨a1, a2⟩ := (Dk.arms_write h2 s.data.toList (by omega)).1 hc
  refine (mine_write h1 0 _ (by omega) (by omega) s (by omega) (by omega)).mono fun _ w' ⟨a, b⟩ => ⟨by rw [a, a1]; rfl, _, b, by rw [app_list]; exact a2, ?_, ?_⟩
  · have := Dk.write_queue D h1.armed0 0 ((S.data.toList.length + R.data.toList.length : Nat) : Int) s.data.toList
    omega
  · rw [ByteArray.size_append]; omega
theorem up_write2 (h : AUp w0 w g S R c x ks T) (s : ByteArray) (hT : T + s.size ≤ 20000) (hc : c + 1 = x) :
    Calls Try.prog 16 #[.pointer (some ⟨g, 0, none⟩), .int .i64 0, .int .i64 ((S.size : Int) + (R.size : Int)), .string s] w fun e w' => e = .returned (.int .i64 8) ∧ ADown w0 w' g S (R ++ s) (c + 1) x ks (T + s.size) := by
  obtain ⟨D, h1, h2, h3, h4⟩ := h
  have zS := Lib.size_eq S
  have zR := Lib.size_eq R
  have zs := Lib.size_eq s
  have e : (S.size : Int) + (R.size : Int) = ((S.data.toList.length + R.data.toList.length : Nat) : Int) := by omega
  rw [e]
  obtain ⟨a1, a2, a3, a4⟩ := (Dk.arms_write h2 s.data.toList (by omega)).2 hc
  exact (mine_write h1 0 _ (by omega) (by omega) s (by omega) (by omega)).mono fun _ w' ⟨a, b⟩ => ⟨by rw [a, a1]; rfl, hc, by rw [ByteArray.size_append]; omega, _, b, a2, a3, by rw [app_list]; exact a4⟩
theorem up_flush1 (h : AUp w0 w g S R c x ks T) (hc : c + 1 < x) :
    Calls Try.prog 32 #[.pointer (some ⟨g, 0, none⟩), .int .i64 0] w fun e w' => e = .returned (.int .i64 0) ∧ AUp w0 w' g (S ++ R) ⟨#[]⟩ (c + 1) x ks T := by
  obtain ⟨D, h1, h2, h3, h4⟩ := h
  obtain ⟨a1, a2⟩ := (Dk.arms_flush h2).1 hc
  refine (mine_flush h1 0).mono fun _ w' ⟨a, b⟩ => ⟨by rw [a, a1]; rfl, _, b, by rw [app_list]; exact a2, ?_, ?_⟩
  · have := Dk.flush_queue D h1.armed0 0
    omega
  · rw [ByteArray.size_append]; show S.size + R.size + 0 = T; omega
theorem up_flush2 (h : AUp w0 w g S R c x ks T) (hc : c + 1 = x) :
    Calls Try.prog 32 #[.pointer (some ⟨g, 0, none⟩), .int .i64 0] w fun e w' => e = .returned (.int .i64 8) ∧ ADown w0 w' g S R (c + 1) x ks T := by
  obtain ⟨D, h1, h2, h3, h4⟩ := h
  obtain ⟨a1, a2, a3, a4⟩ := (Dk.arms_flush h2).2 hc
  exact (mine_flush h1 0).mono fun _ w' ⟨a, b⟩ => ⟨by rw [a, a1]; rfl, hc, h4, _, b, a2, a3, a4⟩
theorem up_read (h : AUp w0 w g S R c x ks T) : Calls Try.prog 27 #[.pointer (some ⟨g, 0, none⟩), .int .i64 0] w fun e w' => e = .returned (.tuple #[.string (S ++ R), .int .i64 0]) ∧ Below w0.heap.size w0 w' := by
  obtain ⟨D, h1, h2, h3, h4⟩ := h
  have hr : Dk.readE D 0 = (S.data.toList ++ R.data.toList, .ok) := by
    unfold Dk.readE
    rw [Dk.may_file h2.down (by omega) (by omega)]
    show (Dk.read D 0, _) = _
    rw [h2.read_]
  refine (mine_read h1 0).mono fun _ w' ⟨a, b⟩ => ⟨?_, b.below⟩
  rw [a, hr, ← app_list]
  rfl
/-- What stands in the file behind the start. -/
theorem down_read (h : ADown w0 w g S R c x ks T) : ∃ (Z : ByteArray) (D : Dk.Disk), S.size ≤ Z.size ∧ Z.size ≤ S.size + R.size ∧ Z.extract 0 S.size = S ∧ (ks = [] → Z = S) ∧
    (Calls Try.prog 25 #[.pointer (some ⟨g, 0, none⟩)] w fun e w' => (∃ v, e = .returned v) ∧ Mine w0 w' g D) ∧
    (∀ w1, Mine w0 w1 g D → Calls Try.prog 27 #[.pointer (some ⟨g, 0, none⟩), .int .i64 0] w1 fun e w' => e = .returned (.tuple #[.string Z, .int .i64 0]) ∧ Below w0.heap.size w0 w') := by
  obtain ⟨_, _, D, h1, h2, h3, l1, l2, l3, l4⟩ := h
  have zS := Lib.size_eq S
  have zR := Lib.size_eq R
  refine ⟨enc (D.last 0), Dk.start D, by rw [zS, Lib.size_eq]; exact l1, by rw [zS, zR, Lib.size_eq]; exact l2, ?_, fun hk => by rw [l4 hk]; rfl, mine_start h1, fun w1 hm => ?_⟩
  · have e := ext_take (enc (D.last 0)) S.size
    have e2 : (enc (D.last 0)).extract 0 S.size = enc ((enc (D.last 0)).extract 0 S.size).data.toList := rfl
    rw [e2, e, zS]
    show enc ((D.last 0).take S.data.toList.length) = S
    rw [l3]; rfl
  · have hr : Dk.readE (Dk.start D) 0 = (D.last 0, .ok) := by
      unfold Dk.readE
      rw [Dk.may_file (d := Dk.start D) rfl (by omega) (by omega)]
      show (Dk.read (Dk.start D) 0, _) = _
      rw [Dk.read_quiet (d := Dk.start D) h3]
      rfl
    exact (mine_read hm 0).mono fun _ w' ⟨a, b⟩ => ⟨by rw [a, hr]; rfl, b.below⟩
end
set_option maxHeartbeats 1000000 in
set_option maxRecDepth 100000 in
theorem arms_end0 (X : List (List UInt8)) (n : Nat) (hn : X.length = n) (hb : n ≤ 9223372036854775807) (x : Int) (ka : Option Addr) (kn kcap : Nat) (xa : Option Addr) (b off cap : Nat) (w : World) (hl : LR w xa b off X) (h0 : 50 < n) :
    Calls Try.prog 8 #[.slice xa n cap, .int .i64 x, .slice ka kn kcap] w fun e w' => e = .returned (.bool true) ∧ Below w.heap.size w w' := by
  have C0 := Lib.hid (small_any w)
  have HL := Lib.hid hl
  have HN := Lib.hid hn
  clear hl hn
  have z1 : (50 : Int) < (n : Int) := by omega
  go_enter Try.func8, Try.ntmps8
  go_wp2_with (first | (go_at_call 10; with_reducible refine C0.out.mono ?_; rintro _ w2 ⟨rfl, hb0⟩; have HB0 := Lib.hid hb0; clear hb0) | (go_at_call 11; with_reducible refine (mine_new _).mono ?_; rintro _ w3 ⟨rfl, hm⟩; have HM := Lib.hid hm; clear hm))
  have hL2 := HL.out.below (below_to HB0.out (Nat.le_refl _) HM.out.below)
  go_loopw [9, 10] (fun x9 x10 wr => ∃ k : Nat, x10 = .int .i64 k ∧ k ≤ n ∧ (∃ z, x9 = .int .i64 z) ∧ wr = w3) (fun _ x10 _ => n - (intOf x10).toNat)
  case atStart => exact ⟨0, rfl, Nat.zero_le _, ⟨0, rfl⟩, rfl⟩
  case round =>
    obtain ⟨k, rfl, hk, hs9, rfl⟩ := hrel
    obtain ⟨z, rfl⟩ := hs9
    by_cases hlt : k < n
    · obtain ⟨s, hs⟩ : ∃ s, X[k]? = some s := ⟨_, List.getElem?_eq_getElem (by rw [HN.out]; exact hlt)⟩
      obtain rfl := HL.out.at_ (by rw [HN.out]; omega)
      have c0 := hL2.cell k s hs
      obtain ⟨t, ht⟩ : ∃ t, enc s = t := ⟨_, rfl⟩
      rw [ht] at c0
      clear hs ht
      go_wp2
      go_roundw
      case rel => exact ⟨k + 1, by go_num, by omega, ⟨_, rfl⟩, trivial⟩
      case measure => simp [intOf]; omega
    · obtain rfl : k = n := by omega
      go_wp2
      go_ret
      exact ⟨rfl, below_to HB0.out (Nat.le_refl _) HM.out.below⟩
set_option maxHeartbeats 1000000 in
set_option maxRecDepth 100000 in
theorem arms_end1 (X : List (List UInt8)) (n : Nat) (hn : X.length = n) (hb : n ≤ 9223372036854775807) (x : Int) (ka : Option Addr) (kn kcap : Nat) (xa : Option Addr) (b off cap : Nat) (w : World) (hl : LR w xa b off X) (h0 : n ≤ 50) (h1 : 20000 < tot X n) :
    Calls Try.prog 8 #[.slice xa n cap, .int .i64 x, .slice ka kn kcap] w fun e w' => e = .returned (.bool true) ∧ Below w.heap.size w w' := by
  have C0 := Lib.hid (small_any w)
  have HL := Lib.hid hl
  have HN := Lib.hid hn
  clear hl hn
  have qn1 : ¬ ((50 : Int) < (n : Int)) := by omega
  have qn2 : decide ((50 : Int) < (n : Int)) = false := by simpa using qn1
  have qn3 : ¬ 50 < n := by omega
  have qn4 : decide (50 < n) = false := by simpa using qn3
  go_enter Try.func8, Try.ntmps8
  go_wp2_with (first | (go_at_call 10; with_reducible refine C0.out.mono ?_; rintro _ w2 ⟨rfl, hb0⟩; have HB0 := Lib.hid hb0; clear hb0) | (go_at_call 11; with_reducible refine (mine_new _).mono ?_; rintro _ w3 ⟨rfl, hm⟩; have HM := Lib.hid hm; clear hm))
  have hL2 := HL.out.below (below_to HB0.out (Nat.le_refl _) HM.out.below)
  go_loopw [9, 10] (fun x9 x10 wr => ∃ k : Nat, x10 = .int .i64 k ∧ k ≤ n ∧ x9 = .int .i64 ((tot X k : Nat) : Int) ∧ wr = w3) (fun _ x10 _ => n - (intOf x10).toNat)
  case atStart => exact ⟨0, rfl, Nat.zero_le _, by rw [tot_zero]; rfl, rfl⟩
  case round =>
    obtain ⟨k, rfl, hk, hs9, rfl⟩ := hrel
    obtain rfl := hs9
    have hreach := tot_le HL.out.reach k
    have h49 : tot X k ≤ 50 * 140737488351232 := Nat.le_trans hreach (Nat.mul_le_mul_right _ (by omega))
    by_cases hlt : k < n
    · obtain ⟨s, hs⟩ : ∃ s, X[k]? = some s := ⟨_, List.getElem?_eq_getElem (by rw [HN.out]; exact hlt)⟩
      obtain rfl := HL.out.at_ (by rw [HN.out]; omega)
      have c0 := hL2.cell k s hs
      have hTS := Lib.hid (tot_succ X k s hs)
      have hsr := HL.out.reach s (List.mem_of_getElem? hs)
      obtain ⟨t, ht⟩ : ∃ t, enc s = t := ⟨_, rfl⟩
      have hts : t.size = s.length := by rw [← ht, Lib.size_eq]; rfl
      rw [ht] at c0
      obtain ⟨z, hz⟩ : ∃ z, tot X k = z := ⟨_, rfl⟩
      rw [hz] at h49 hTS
      rw [hz]
      have HTS := Lib.hid hts
      have hz1 : t.size ≤ 140737488351232 := by omega
      clear hs ht hts hz hreach hsr
      go_wp2
      go_roundw
      case rel => exact ⟨k + 1, by go_num, by omega, by rw [hTS.out, ← HTS.out]; go_num, trivial⟩
      case measure => simp [intOf]; omega
    · obtain rfl : k = n := by omega
      obtain ⟨T, hT⟩ : ∃ T, tot X k = T := ⟨_, rfl⟩
      rw [hT] at h1
      rw [hT]
      have y1 : (20000 : Int) < (T : Int) := by omega
      clear hT h49 hreach
      go_wp2
      go_ret
      exact ⟨rfl, below_to HB0.out (Nat.le_refl _) HM.out.below⟩
set_option maxHeartbeats 1000000 in
set_option maxRecDepth 100000 in
theorem arms_end2 (X : List (List UInt8)) (n : Nat) (hn : X.length = n) (hb : n ≤ 9223372036854775807) (x : Int) (ka : Option Addr) (kn kcap : Nat) (xa : Option Addr) (b off cap : Nat) (w : World) (hl : LR w xa b off X) (h0 : n ≤ 50) (h1 : tot X n ≤ 20000) (h2 : x < 1) :
    Calls Try.prog 8 #[.slice xa n cap, .int .i64 x, .slice ka kn kcap] w fun e w' => e = .returned (.bool true) ∧ Below w.heap.size w w' := by
  have C0 := Lib.hid (small_any w)
  have HL := Lib.hid hl
  have HN := Lib.hid hn
  clear hl hn
  have qn1 : ¬ ((50 : Int) < (n : Int)) := by omega
  have qn2 : decide ((50 : Int) < (n : Int)) = false := by simpa using qn1
  have qn3 : ¬ 50 < n := by omega
  have qn4 : decide (50 < n) = false := by simpa using qn3
  go_enter Try.func8, Try.ntmps8
  go_wp2_with (first | (go_at_call 10; with_reducible refine C0.out.mono ?_; rintro _ w2 ⟨rfl, hb0⟩; have HB0 := Lib.hid hb0; clear hb0) | (go_at_call 11; with_reducible refine (mine_new _).mono ?_; rintro _ w3 ⟨rfl, hm⟩; have HM := Lib.hid hm; clear hm))
  have hL2 := HL.out.below (below_to HB0.out (Nat.le_refl _) HM.out.below)
  go_loopw [9, 10] (fun x9 x10 wr => ∃ k : Nat, x10 = .int .i64 k ∧ k ≤ n ∧ x9 = .int .i64 ((tot X k : Nat) : Int) ∧ wr = w3) (fun _ x10 _ => n - (intOf x10).toNat)
  case atStart => exact ⟨0, rfl, Nat.zero_le _, by rw [tot_zero]; rfl, rfl⟩
  case round =>
    obtain ⟨k, rfl, hk, hs9, rfl⟩ := hrel
    obtain rfl := hs9
    have hreach := tot_le HL.out.reach k
    have h49 : tot X k ≤ 50 * 140737488351232 := Nat.le_trans hreach (Nat.mul_le_mul_right _ (by omega))
    by_cases hlt : k < n
    · obtain ⟨s, hs⟩ : ∃ s, X[k]? = some s := ⟨_, List.getElem?_eq_getElem (by rw [HN.out]; exact hlt)⟩
      obtain rfl := HL.out.at_ (by rw [HN.out]; omega)
      have c0 := hL2.cell k s hs
      have hTS := Lib.hid (tot_succ X k s hs)
      have hsr := HL.out.reach s (List.mem_of_getElem? hs)
      obtain ⟨t, ht⟩ : ∃ t, enc s = t := ⟨_, rfl⟩
      have hts : t.size = s.length := by rw [← ht, Lib.size_eq]; rfl
      rw [ht] at c0
      obtain ⟨z, hz⟩ : ∃ z, tot X k = z := ⟨_, rfl⟩
      rw [hz] at h49 hTS
      rw [hz]
      have HTS := Lib.hid hts
      have hz1 : t.size ≤ 140737488351232 := by omega
      clear hs ht hts hz hreach hsr
      go_wp2
      go_roundw
      case rel => exact ⟨k + 1, by go_num, by omega, by rw [hTS.out, ← HTS.out]; go_num, trivial⟩
      case measure => simp [intOf]; omega
    · obtain rfl : k = n := by omega
      obtain ⟨T, hT⟩ : ∃ T, tot X k = T := ⟨_, rfl⟩
      rw [hT] at h1
      rw [hT]
      have y1 : ¬ ((20000 : Int) < (T : Int)) := by omega
      have y2 : decide ((20000 : Int) < (T : Int)) = false := by simpa using y1
      have y3 : ¬ 20000 < T := by omega
      have y4 : decide (20000 < T) = false := by simpa using y3
      clear hT h49 hreach
      go_wp2
      go_ret
      exact ⟨rfl, below_to HB0.out (Nat.le_refl _) HM.out.below⟩
set_option maxHeartbeats 1000000 in
set_option maxRecDepth 100000 in
theorem arms_end3 (X : List (List UInt8)) (n : Nat) (hn : X.length = n) (hb : n ≤ 9223372036854775807) (x : Int) (ka : Option Addr) (kn kcap : Nat) (xa : Option Addr) (b off cap : Nat) (w : World) (hl : LR w xa b off X) (h0 : n ≤ 50) (h1 : tot X n ≤ 20000) (h3 : 100 < x) :
    Calls Try.prog 8 #[.slice xa n cap, .int .i64 x, .slice ka kn kcap] w fun e w' => e = .returned (.bool true) ∧ Below w.heap.size w w' := by
  have C0 := Lib.hid (small_any w)
  have HL := Lib.hid hl
  have HN := Lib.hid hn
  clear hl hn
  have qn1 : ¬ ((50 : Int) < (n : Int)) := by omega
  have qn2 : decide ((50 : Int) < (n : Int)) = false := by simpa using qn1
  have qn3 : ¬ 50 < n := by omega
  have qn4 : decide (50 < n) = false := by simpa using qn3
  have qx1 : ¬ (x < (1 : Int)) := by omega
  have qx2 : decide (x < (1 : Int)) = false := by simpa using qx1
  go_enter Try.func8, Try.ntmps8
  go_wp2_with (first | (go_at_call 10; with_reducible refine C0.out.mono ?_; rintro _ w2 ⟨rfl, hb0⟩; have HB0 := Lib.hid hb0; clear hb0) | (go_at_call 11; with_reducible refine (mine_new _).mono ?_; rintro _ w3 ⟨rfl, hm⟩; have HM := Lib.hid hm; clear hm))
  have hL2 := HL.out.below (below_to HB0.out (Nat.le_refl _) HM.out.below)
  go_loopw [9, 10] (fun x9 x10 wr => ∃ k : Nat, x10 = .int .i64 k ∧ k ≤ n ∧ x9 = .int .i64 ((tot X k : Nat) : Int) ∧ wr = w3) (fun _ x10 _ => n - (intOf x10).toNat)
  case atStart => exact ⟨0, rfl, Nat.zero_le _, by rw [tot_zero]; rfl, rfl⟩
  case round =>
    obtain ⟨k, rfl, hk, hs9, rfl⟩ := hrel
    obtain rfl := hs9
    have hreach := tot_le HL.out.reach k
    have h49 : tot X k ≤ 50 * 140737488351232 := Nat.le_trans hreach (Nat.mul_le_mul_right _ (by omega))
    by_cases hlt : k < n
    · obtain ⟨s, hs⟩ : ∃ s, X[k]? = some s := ⟨_, List.getElem?_eq_getElem (by rw [HN.out]; exact hlt)⟩
      obtain rfl := HL.out.at_ (by rw [HN.out]; omega)
      have c0 := hL2.cell k s hs
      have hTS := Lib.hid (tot_succ X k s hs)
      have hsr := HL.out.reach s (List.mem_of_getElem? hs)
      obtain ⟨t, ht⟩ : ∃ t, enc s = t := ⟨_, rfl⟩
      have hts : t.size = s.length := by rw [← ht, Lib.size_eq]; rfl
      rw [ht] at c0
      obtain ⟨z, hz⟩ : ∃ z, tot X k = z := ⟨_, rfl⟩
      rw [hz] at h49 hTS
      rw [hz]
      have HTS := Lib.hid hts
      have hz1 : t.size ≤ 140737488351232 := by omega
      clear hs ht hts hz hreach hsr
      go_wp2
      go_roundw
      case rel => exact ⟨k + 1, by go_num, by omega, by rw [hTS.out, ← HTS.out]; go_num, trivial⟩
      case measure => simp [intOf]; omega
    · obtain rfl : k = n := by omega
      obtain ⟨T, hT⟩ : ∃ T, tot X k = T := ⟨_, rfl⟩
      rw [hT] at h1
      rw [hT]
      have y1 : ¬ ((20000 : Int) < (T : Int)) := by omega
      have y2 : decide ((20000 : Int) < (T : Int)) = false := by simpa using y1
      have y3 : ¬ 20000 < T := by omega
      have y4 : decide (20000 < T) = false := by simpa using y3
      clear hT h49 hreach
      go_wp2
      go_ret
      exact ⟨rfl, below_to HB0.out (Nat.le_refl _) HM.out.below⟩
set_option maxHeartbeats 1000000 in
set_option maxRecDepth 100000 in
theorem arms_end4 (X : List (List UInt8)) (n : Nat) (hn : X.length = n) (hb : n ≤ 9223372036854775807) (x : Int) (ka : Option Addr) (kn kcap : Nat) (xa : Option Addr) (b off cap : Nat) (w : World) (hl : LR w xa b off X) (h0 : n ≤ 50) (h1 : tot X n ≤ 20000) (h2 : 1 ≤ x) (h3 : x ≤ 100) (h4 : 1000 < kn) :
    Calls Try.prog 8 #[.slice xa n cap, .int .i64 x, .slice ka kn kcap] w fun e w' => e = .returned (.bool true) ∧ Below w.heap.size w w' := by
  have C0 := Lib.hid (small_any w)
  have HL := Lib.hid hl
  have HN := Lib.hid hn
  clear hl hn
  have qn1 : ¬ ((50 : Int) < (n : Int)) := by omega
  have qn2 : decide ((50 : Int) < (n : Int)) = false := by simpa using qn1
  have qn3 : ¬ 50 < n := by omega
  have qn4 : decide (50 < n) = false := by simpa using qn3
  have qx1 : ¬ (x < (1 : Int)) := by omega
  have qx2 : decide (x < (1 : Int)) = false := by simpa using qx1
  have qy1 : ¬ ((100 : Int) < x) := by omega
  have qy2 : decide ((100 : Int) < x) = false := by simpa using qy1
  have z1 : (1000 : Int) < (kn : Int) := by omega
  go_enter Try.func8, Try.ntmps8
  go_wp2_with (first | (go_at_call 10; with_reducible refine C0.out.mono ?_; rintro _ w2 ⟨rfl, hb0⟩; have HB0 := Lib.hid hb0; clear hb0) | (go_at_call 11; with_reducible refine (mine_new _).mono ?_; rintro _ w3 ⟨rfl, hm⟩; have HM := Lib.hid hm; clear hm))
  have hL2 := HL.out.below (below_to HB0.out (Nat.le_refl _) HM.out.below)
  go_loopw [9, 10] (fun x9 x10 wr => ∃ k : Nat, x10 = .int .i64 k ∧ k ≤ n ∧ x9 = .int .i64 ((tot X k : Nat) : Int) ∧ wr = w3) (fun _ x10 _ => n - (intOf x10).toNat)
  case atStart => exact ⟨0, rfl, Nat.zero_le _, by rw [tot_zero]; rfl, rfl⟩
  case round =>
    obtain ⟨k, rfl, hk, hs9, rfl⟩ := hrel
    obtain rfl := hs9
    have hreach := tot_le HL.out.reach k
    have h49 : tot X k ≤ 50 * 140737488351232 := Nat.le_trans hreach (Nat.mul_le_mul_right _ (by omega))
    by_cases hlt : k < n
    · obtain ⟨s, hs⟩ : ∃ s, X[k]? = some s := ⟨_, List.getElem?_eq_getElem (by rw [HN.out]; exact hlt)⟩
      obtain rfl := HL.out.at_ (by rw [HN.out]; omega)
      have c0 := hL2.cell k s hs
      have hTS := Lib.hid (tot_succ X k s hs)
      have hsr := HL.out.reach s (List.mem_of_getElem? hs)
      obtain ⟨t, ht⟩ : ∃ t, enc s = t := ⟨_, rfl⟩
      have hts : t.size = s.length := by rw [← ht, Lib.size_eq]; rfl
      rw [ht] at c0
      obtain ⟨z, hz⟩ : ∃ z, tot X k = z := ⟨_, rfl⟩
      rw [hz] at h49 hTS
      rw [hz]
      have HTS := Lib.hid hts
      have hz1 : t.size ≤ 140737488351232 := by omega
      clear hs ht hts hz hreach hsr
      go_wp2
      go_roundw
      case rel => exact ⟨k + 1, by go_num, by omega, by rw [hTS.out, ← HTS.out]; go_num, trivial⟩
      case measure => simp [intOf]; omega
    · obtain rfl : k = n := by omega
      obtain ⟨T, hT⟩ : ∃ T, tot X k = T := ⟨_, rfl⟩
      rw [hT] at h1
      rw [hT]
      have y1 : ¬ ((20000 : Int) < (T : Int)) := by omega
      have y2 : decide ((20000 : Int) < (T : Int)) = false := by simpa using y1
      have y3 : ¬ 20000 < T := by omega
      have y4 : decide (20000 < T) = false := by simpa using y3
      clear hT h49 hreach
      go_wp2
      go_ret
      exact ⟨rfl, below_to HB0.out (Nat.le_refl _) HM.out.below⟩
set_option maxHeartbeats 4000000 in
set_option maxRecDepth 100000 in
theorem arms_main (X : List (List UInt8)) (n : Nat) (hn : X.length = n) (hb : n ≤ 9223372036854775807) (x : Int) (ks : List Int) (ka : Option Addr) (kb koff kn kcap : Nat) (xa : Option Addr) (b off cap : Nat) (w : World) (hl : LR w xa b off X) (hk : IR w ka kb koff ks) (hkn : ks.length = kn) (hknil : ka = none → kcap = 0) (h0 : n ≤ 50) (h1 : tot X n ≤ 20000) (h2 : 1 ≤ x) (h3 : x ≤ 100) (h4 : kn ≤ 1000) :
    Calls Try.prog 8 #[.slice xa n cap, .int .i64 x, .slice ka kn kcap] w fun e w' => e = .returned (.bool true) ∧ Below w.heap.size w w' := by
  have C0 := Lib.hid (small_any w)
  have HL := Lib.hid hl
  have HN := Lib.hid hn
  clear hl hn
  have HK := Lib.hid hk
  have HKN := Lib.hid hkn
  have HKL := Lib.hid hknil
  clear hk hkn hknil
  have qn1 : ¬ ((50 : Int) < (n : Int)) := by omega
  have qn2 : decide ((50 : Int) < (n : Int)) = false := by simpa using qn1
  have qn3 : ¬ 50 < n := by omega
  have qn4 : decide (50 < n) = false := by simpa using qn3
  have qx1 : ¬ (x < (1 : Int)) := by omega
  have qx2 : decide (x < (1 : Int)) = false := by simpa using qx1
  have qy1 : ¬ ((100 : Int) < x) := by omega
  have qy2 : decide ((100 : Int) < x) = false := by simpa using qy1
  have qkn1 : ¬ ((1000 : Int) < (kn : Int)) := by omega
  have qkn2 : decide ((1000 : Int) < (kn : Int)) = false := by simpa using qkn1
  have qkn3 : ¬ 1000 < kn := by omega
  have qkn4 : decide (1000 < kn) = false := by simpa using qkn3
  go_enter Try.func8, Try.ntmps8
  go_wp2_with (first | (go_at_call 10; with_reducible refine C0.out.mono ?_; rintro _ w2 ⟨rfl, hb0⟩; have HB0 := Lib.hid hb0; clear hb0) | (go_at_call 11; with_reducible refine (mine_new _).mono ?_; rintro _ w3 ⟨rfl, hm⟩; have HM := Lib.hid hm; clear hm))
  have hL2 := HL.out.below (below_to HB0.out (Nat.le_refl _) HM.out.below)
  go_loopw [9, 10] (fun x9 x10 wr => ∃ k : Nat, x10 = .int .i64 k ∧ k ≤ n ∧ x9 = .int .i64 ((tot X k : Nat) : Int) ∧ wr = w3) (fun _ x10 _ => n - (intOf x10).toNat)
  case atStart => exact ⟨0, rfl, Nat.zero_le _, by rw [tot_zero]; rfl, rfl⟩
  case round =>
    obtain ⟨k, rfl, hk, hs9, rfl⟩ := hrel
    obtain rfl := hs9
    have hreach := tot_le HL.out.reach k
    have h49 : tot X k ≤ 50 * 140737488351232 := Nat.le_trans hreach (Nat.mul_le_mul_right _ (by omega))
    by_cases hlt : k < n
    · obtain ⟨s, hs⟩ : ∃ s, X[k]? = some s := ⟨_, List.getElem?_eq_getElem (by rw [HN.out]; exact hlt)⟩
      obtain rfl := HL.out.at_ (by rw [HN.out]; omega)
      have c0 := hL2.cell k s hs
      have hTS := Lib.hid (tot_succ X k s hs)
      have hsr := HL.out.reach s (List.mem_of_getElem? hs)
      obtain ⟨t, ht⟩ : ∃ t, enc s = t := ⟨_, rfl⟩
      have hts : t.size = s.length := by rw [← ht, Lib.size_eq]; rfl
      rw [ht] at c0
      obtain ⟨z, hz⟩ : ∃ z, tot X k = z := ⟨_, rfl⟩
      rw [hz] at h49 hTS
      rw [hz]
      have HTS := Lib.hid hts
      have hz1 : t.size ≤ 140737488351232 := by omega
      clear hs ht hts hz hreach hsr
      go_wp2
      go_roundw
      case rel => exact ⟨k + 1, by go_num, by omega, by rw [hTS.out, ← HTS.out]; go_num, trivial⟩
      case measure => simp [intOf]; omega
    · obtain rfl : k = n := by omega
      have HT20 := Lib.hid h1
      have y1 : ¬ ((20000 : Int) < ((tot X k : Nat) : Int)) := by omega
      have y2 : decide ((20000 : Int) < ((tot X k : Nat) : Int)) = false := by simpa using y1
      have y3 : ¬ 20000 < tot X k := by omega
      have y4 : decide (20000 < tot X k) = false := by simpa using y3
      have CA := Lib.hid (mine_arm_arg HM.out x (by omega) ka kb koff kn kcap ks (HK.out.below HB0.out) HKN.out HKL.out (by omega))
      clear h1 h49 hreach hlt hk
      go_wp2_with (go_at_call 31; with_reducible refine CA.out.mono ?_; rintro _ w4 ⟨⟨v4, rfl⟩, hm⟩; have HM4 := Lib.hid hm; clear hm)
      have HA0 := Lib.hid (show AUp w2 w4 w2.heap.size ⟨#[]⟩ ⟨#[]⟩ 0 x ks (tot X 0) from ⟨_, HM4.out, Dk.arms_new x h2 ks, by rw [tot_zero]; exact Nat.le_refl 0, by rw [tot_zero]; rfl⟩)
      go_loopw [11, 12, 13, 14, 15, 16] (fun x11 x12 x13 x14 x15 x16 wq => ∃ (j c : Nat) (S R : ByteArray), x11 = .string S ∧ x12 = .string R ∧ x13 = .int .i64 c ∧ x14 = .int .i64 j ∧ j ≤ k ∧ Hid (AUp w2 wq w2.heap.size S R c x ks (tot X j) ∨ ADown w2 wq w2.heap.size S R c x ks (tot X j))) (fun _ _ _ x14 _ _ _ => k - (intOf x14).toNat)
      case atStart => exact ⟨0, 0, ⟨#[]⟩, ⟨#[]⟩, rfl, rfl, rfl, rfl, Nat.zero_le _, .inl HA0.out⟩
      case round =>
        obtain ⟨j, c, S, R, rfl, rfl, rfl, rfl, hj, hst⟩ := hrel
        rcases hst.out with hup | hdn
        · have HU := Lib.hid hup
          have hcx := up_more hup
          by_cases hlt : j < k
          · obtain ⟨s, hs⟩ : ∃ s, X[j]? = some s := ⟨_, List.getElem?_eq_getElem (by rw [HN.out]; exact hlt)⟩
            obtain rfl := HL.out.at_ (by rw [HN.out]; omega)
            obtain ⟨t, ht⟩ : ∃ t, enc s = t := ⟨_, rfl⟩
            have hts : t.size = s.length := by rw [← ht, Lib.size_eq]; rfl
            have hT1 : tot X (j + 1) = tot X j + t.size := by rw [tot_succ X j s hs, hts]
            have hT2 : tot X j + t.size ≤ 20000 := by rw [← hT1]; exact Nat.le_trans (tot_all X k (j + 1) (by omega)) HT20.out
            have hSR : S.size + R.size = tot X j := by obtain ⟨_, _, _, _, h⟩ := hup; exact h
            have LC := Lib.hid (fun (w7 : World) (h : Below w2.heap.size w2 w7) => show w7.cell? ⟨b, off + j, none⟩ = some (.string t) from by
              rw [← ht]
              exact (HL.out.below (below_to HB0.out (Nat.le_refl _) h)).cell j s hs)
            have hcell := LC.out _ (up_below hup)
            have hadd1 := fun w' : World => run_string_add_sum (P := Try.prog) (w := w') R t (by omega)
            have hadd2 := fun w' : World => run_string_add_sum (P := Try.prog) (w := w') S (R ++ t) (by rw [ByteArray.size_append]; omega)
            have hSs : S.size ≤ 20000 := by omega
            have hRs : R.size ≤ 20000 := by omega
            have HT1 := Lib.hid hT1
            have HT2 := Lib.hid hT2
            have DN := Lib.hid (up_down hup)
            clear hs ht hts hT1 hT2 hSR hup hst
            have go_one : True := trivial
            by_cases hc1 : (c : Int) + 1 < x
            · have W1 := Lib.hid (up_write1 HU.out t HT2.out hc1)
              have e1 : ((c : Int) + 1 == x) = false := by rw [beq_eq_false_iff_ne]; omega
              have e2 : decide ((c : Int) + 1 < x) = true := by simpa using hc1
              have e3 : ¬ ((c : Int) + 1 = x) := by omega
              rcases Nat.mod_two_eq_zero_or_one j with hp | hp
              · have hrem : Int.tmod (j : Int) 2 = 0 := by rw [Int.tmod_eq_emod_of_nonneg (by omega)]; omega
                go_wp2_with (first | (go_at_call 21; with_reducible refine DN.out.mono ?_; rintro _ w5 ⟨rfl, rfl⟩; skip) | (go_at_call 16; with_reducible refine W1.out.mono ?_; rintro _ w5 ⟨rfl, hm⟩; have HM5 := Lib.hid hm; have hcell5 := LC.out _ (up_below hm); clear hm))
                go_roundw
                case rel => exact ⟨j + 1, c + 1, S, R ++ t, rfl, rfl, by go_num, by go_num, by omega, .inl (by rw [HT1.out]; exact HM5.out)⟩
                case measure => simp [intOf]; omega
              · have hrem : Int.tmod (j : Int) 2 = 1 := by rw [Int.tmod_eq_emod_of_nonneg (by omega)]; omega
                by_cases hc2 : (c : Int) + 1 + 1 < x
                · have f1 : ((c : Int) + 1 + 1 == x) = false := by rw [beq_eq_false_iff_ne]; omega
                  have f2 : decide ((c : Int) + 1 + 1 < x) = true := by simpa using hc2
                  have f3 : ¬ ((c : Int) + 1 + 1 = x) := by omega
                  go_wp2_with (first | (go_at_call 21; with_reducible refine DN.out.mono ?_; rintro _ w5 ⟨rfl, rfl⟩; skip) | (go_at_call 21; with_reducible refine DN5.out.mono ?_; rintro _ w5 ⟨rfl, rfl⟩; skip) | (go_at_call 16; with_reducible refine W1.out.mono ?_; rintro _ w5 ⟨rfl, hm⟩; have HM5 := Lib.hid hm; have hcell5 := LC.out _ (up_below hm); have DN5 := Lib.hid (up_down hm); have F5 := Lib.hid (up_flush1 hm hc2); clear hm) | (go_at_call 32; with_reducible refine F5.out.mono ?_; rintro _ w5 ⟨rfl, hm⟩; have HM6 := Lib.hid hm; clear hm))
                  go_roundw
                  case rel => exact ⟨j + 1, c + 1 + 1, S ++ (R ++ t), ⟨#[]⟩, rfl, rfl, by go_num, by go_num, by omega, .inl (by rw [HT1.out]; exact HM6.out)⟩
                  case measure => simp [intOf]; omega
                · have hc3 : (c : Int) + 1 + 1 = x := by omega
                  have f1 : ((c : Int) + 1 + 1 == x) = true := by rw [beq_iff_eq]; exact hc3
                  have f2 : decide ((c : Int) + 1 + 1 < x) = false := by simpa using hc2
                  have HC3 := Lib.hid hc3
                  clear hc3
                  go_wp2_with (first | (go_at_call 21; with_reducible refine DN.out.mono ?_; rintro _ w5 ⟨rfl, rfl⟩; skip) | (go_at_call 21; with_reducible refine DN5.out.mono ?_; rintro _ w5 ⟨rfl, rfl⟩; skip) | (go_at_call 16; with_reducible refine W1.out.mono ?_; rintro _ w5 ⟨rfl, hm⟩; have HM5 := Lib.hid hm; have hcell5 := LC.out _ (up_below hm); have DN5 := Lib.hid (up_down hm); have F5 := Lib.hid (up_flush2 hm HC3.out); clear hm) | (go_at_call 32; with_reducible refine F5.out.mono ?_; rintro _ w5 ⟨rfl, hm⟩; have HM6 := Lib.hid hm; clear hm))
                  go_roundw
                  case rel => exact ⟨j + 1, c + 1 + 1, S, R ++ t, rfl, rfl, by go_num, by go_num, by omega, .inr (by rw [HT1.out]; exact HM6.out)⟩
                  case measure => simp [intOf]; omega
            · have hc3 : (c : Int) + 1 = x := by omega
              have W1 := Lib.hid (up_write2 HU.out t HT2.out hc3)
              have e1 : ((c : Int) + 1 == x) = true := by rw [beq_iff_eq]; exact hc3
              have e2 : decide ((c : Int) + 1 < x) = false := by simpa using hc1
              clear hc3
              rcases Nat.mod_two_eq_zero_or_one j with hp | hp
              · have hrem : Int.tmod (j : Int) 2 = 0 := by rw [Int.tmod_eq_emod_of_nonneg (by omega)]; omega
                go_wp2_with (first | (go_at_call 21; with_reducible refine DN.out.mono ?_; rintro _ w5 ⟨rfl, rfl⟩; skip) | (go_at_call 16; with_reducible refine W1.out.mono ?_; rintro _ w5 ⟨rfl, hm⟩; have HM5 := Lib.hid hm; have hcell5 := LC.out _ (down_below hm); clear hm))
                go_roundw
                case rel => exact ⟨j + 1, c + 1, S, R ++ t, rfl, rfl, by go_num, by go_num, by omega, .inr (by rw [HT1.out]; exact HM5.out)⟩
                case measure => simp [intOf]; omega
              · have hrem : Int.tmod (j : Int) 2 = 1 := by rw [Int.tmod_eq_emod_of_nonneg (by omega)]; omega
                go_wp2_with (first | (go_at_call 21; with_reducible refine DN.out.mono ?_; rintro _ w5 ⟨rfl, rfl⟩; skip) | (go_at_call 21; with_reducible refine DN5.out.mono ?_; rintro _ w5 ⟨rfl, rfl⟩; skip) | (go_at_call 16; with_reducible refine W1.out.mono ?_; rintro _ w5 ⟨rfl, hm⟩; have HM5 := Lib.hid hm; have hcell5 := LC.out _ (down_below hm); have DN5 := Lib.hid (down_down hm); clear hm))
                go_roundw
                case rel => exact ⟨j + 1, c + 1, S, R ++ t, rfl, rfl, by go_num, by go_num, by omega, .inr (by rw [HT1.out]; exact HM5.out)⟩
                case measure => simp [intOf]; omega
          · obtain rfl : j = k := by omega
            have DN := Lib.hid (up_down hup)
            have RDc := Lib.hid (up_read hup)
            have hSR : S.size + R.size ≤ 20000 := by have h20 := HT20.out; obtain ⟨_, _, _, _, h⟩ := hup; omega
            have hadd1 := fun w' : World => run_string_add_sum (P := Try.prog) (w := w') S R (by omega)
            have e2 : decide ((c : Int) < x) = true := by simpa using hcx
            clear hup hst hSR
            go_wp2_with (first | (go_at_call 21; with_reducible refine DN.out.mono ?_; rintro _ w5 ⟨rfl, rfl⟩; skip) | (go_at_call 27; with_reducible refine RDc.out.mono ?_; rintro _ w5 ⟨rfl, hbb⟩; have HBB := Lib.hid hbb; clear hbb))
            go_ret
            exact ⟨rfl, below_to HB0.out (Nat.le_refl _) HBB.out⟩
        · have DN := Lib.hid (down_down hdn)
          obtain ⟨Z, D9, z1, z2, z3, z4, s1, r1⟩ := down_read hdn
          have S1 := Lib.hid s1
          have R1 := Lib.hid r1
          have y5 : (S.size : Int) ≤ (Z.size : Int) := by omega
          have y6 : decide ((S.size : Int) ≤ (Z.size : Int)) = true := by simpa using y5
          have y7 : (Z.size : Int) ≤ (S.size : Int) + (R.size : Int) := by omega
          have y8 : decide ((Z.size : Int) ≤ (S.size : Int) + (R.size : Int)) = true := by simpa using y7
          have hSR : S.size + R.size ≤ 20000 := by
            have h20 := HT20.out
            have h21 := tot_all X k j hj
            obtain ⟨_, h, _⟩ := hdn
            omega
          have Z4 := Lib.hid z4
          clear s1 r1 hdn hst z4
          by_cases hkn0 : kn = 0
          · obtain rfl : Z = S := Z4.out (List.eq_nil_of_length_eq_zero (by rw [HKN.out]; exact hkn0))
            subst hkn0
            by_cases hlt : j < k
            · go_wp2_with (first | (go_at_call 21; with_reducible refine DN.out.mono ?_; rintro _ w5 ⟨rfl, rfl⟩; skip) | (go_at_call 25; with_reducible refine S1.out.mono ?_; rintro _ w5 ⟨⟨v5, rfl⟩, hm⟩; have HM5 := Lib.hid hm; clear hm) | (go_at_call 27; with_reducible refine (R1.out _ HM5.out).mono ?_; rintro _ w5 ⟨rfl, hbb⟩; have HBB := Lib.hid hbb; clear hbb))
              go_ret
              exact ⟨rfl, below_to HB0.out (Nat.le_refl _) HBB.out⟩
            · go_wp2_with (first | (go_at_call 21; with_reducible refine DN.out.mono ?_; rintro _ w5 ⟨rfl, rfl⟩; skip) | (go_at_call 25; with_reducible refine S1.out.mono ?_; rintro _ w5 ⟨⟨v5, rfl⟩, hm⟩; have HM5 := Lib.hid hm; clear hm) | (go_at_call 27; with_reducible refine (R1.out _ HM5.out).mono ?_; rintro _ w5 ⟨rfl, hbb⟩; have HBB := Lib.hid hbb; clear hbb))
              go_ret
              exact ⟨rfl, below_to HB0.out (Nat.le_refl _) HBB.out⟩
          · have g1 : (0 : Int) < (kn : Int) := by omega
            have g2 : 0 < kn := by omega
            have g3 : decide ((0 : Int) < (kn : Int)) = true := by simpa using g1
            by_cases hlt : j < k
            · go_wp2_with (first | (go_at_call 21; with_reducible refine DN.out.mono ?_; rintro _ w5 ⟨rfl, rfl⟩; skip) | (go_at_call 25; with_reducible refine S1.out.mono ?_; rintro _ w5 ⟨⟨v5, rfl⟩, hm⟩; have HM5 := Lib.hid hm; clear hm) | (go_at_call 27; with_reducible refine (R1.out _ HM5.out).mono ?_; rintro _ w5 ⟨rfl, hbb⟩; have HBB := Lib.hid hbb; clear hbb))
              go_ret
              exact ⟨rfl, below_to HB0.out (Nat.le_refl _) HBB.out⟩
            · go_wp2_with (first | (go_at_call 21; with_reducible refine DN.out.mono ?_; rintro _ w5 ⟨rfl, rfl⟩; skip) | (go_at_call 25; with_reducible refine S1.out.mono ?_; rintro _ w5 ⟨⟨v5, rfl⟩, hm⟩; have HM5 := Lib.hid hm; clear hm) | (go_at_call 27; with_reducible refine (R1.out _ HM5.out).mono ?_; rintro _ w5 ⟨rfl, hbb⟩; have HBB := Lib.hid hbb; clear hbb))
              go_ret
              exact ⟨rfl, below_to HB0.out (Nat.le_refl _) HBB.out⟩
theorem arms_law (X : List (List UInt8)) (n : Nat) (hn : X.length = n) (hb : n ≤ 9223372036854775807) (x : Int) (ks : List Int) (ka : Option Addr) (kb koff kn kcap : Nat) (xa : Option Addr) (b off cap : Nat) (w : World) (hl : LR w xa b off X) (hk : IR w ka kb koff ks) (hkn : ks.length = kn) (hknil : ka = none → kcap = 0) : Calls Try.prog 8 #[.slice xa n cap, .int .i64 x, .slice ka kn kcap] w fun e w' => e = .returned (.bool true) ∧ Below w.heap.size w w' := by
  by_cases h0 : 50 < n
  · exact arms_end0 X n hn hb x ka kn kcap xa b off cap w hl h0
  by_cases h1 : 20000 < tot X n
  · exact arms_end1 X n hn hb x ka kn kcap xa b off cap w hl (by omega) h1
  by_cases h2 : x < 1
  · exact arms_end2 X n hn hb x ka kn kcap xa b off cap w hl (by omega) (by omega) h2
  by_cases h3 : 100 < x
  · exact arms_end3 X n hn hb x ka kn kcap xa b off cap w hl (by omega) (by omega) h3
  by_cases h4 : 1000 < kn
  · exact arms_end4 X n hn hb x ka kn kcap xa b off cap w hl (by omega) (by omega) (by omega) (by omega) h4
  · exact arms_main X n hn hb x ks ka kb koff kn kcap xa b off cap w hl hk hkn hknil (by omega) (by omega) (by omega) (by omega) (by omega)
end Go.Proofs.Ytalhilmpjnejbaa
