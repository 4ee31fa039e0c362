/-
  Acts in memory; pick, do and few of the law's text.
-/
import Derived.Test.YtbpodclodflgfaaKXr
namespace Go.Proofs.Ytbpodclodflgfaa
open Go Go.RowKit
/-- An act's numbers and what it keeps. -/
structure AC (w : World) (a : Dk.Act) (ka : Option Addr) (kb koff kn kcap : Nat) : Prop where
  ir : IR w ka kb koff a.keep
  len : a.keep.length = kn
  nil : ka = none → kcap = 0
  n0 : -9223372036854775808 ≤ a.n
  n1 : a.n ≤ 9223372036854775807
  d0 : -9223372036854775808 ≤ a.do_
  d1 : a.do_ ≤ 9223372036854775807
  rs : a.s.length ≤ 140737488351232
  rk : kn ≤ 140737488351232
theorem AC.below {w w' : World} {a : Dk.Act} {ka : Option Addr} {kb koff kn kcap : Nat} (h : AC w a ka kb koff kn kcap) (hb : Below w.heap.size w w') : AC w' a ka kb koff kn kcap := ⟨h.ir.below hb, h.len, h.nil, h.n0, h.n1, h.d0, h.d1, h.rs, h.rk⟩
def acells (a : Dk.Act) (ka : Option Addr) (kn kcap : Nat) : List Value := [.int .i64 a.do_, .int .i64 a.f, .int .i64 a.g, .int .i64 a.n, .string (enc a.s), .slice ka kn kcap]
/-- A slice of acts that reads as a list. -/
structure LA (w : World) (xa : Option Addr) (b off : Nat) (X : List Dk.Act) : Prop where
  at_ : 0 < X.length → xa = some ⟨b, off, none⟩
  cell : ∀ j a, X[j]? = some a → ∃ (ka : Option Addr) (kb koff kn kcap : Nat), AC w a ka kb koff kn kcap ∧ ∀ i v, (acells a ka kn kcap)[i]? = some v → w.cell? ⟨b, off + j * 6 + i, none⟩ = some v
  lt : 0 < X.length → b < w.heap.size
theorem LA.below {w w' : World} {xa : Option Addr} {b off : Nat} {X : List Dk.Act} (h : LA w xa b off X) (hb : Below w.heap.size w w') : LA w' xa b off X :=
  ⟨h.at_, fun j a hj => by
    obtain ⟨ka, kb, koff, kn, kcap, h1, h2⟩ := h.cell j a hj
    exact ⟨ka, kb, koff, kn, kcap, h1.below hb, fun i v hv => (hb.cell (p := ⟨b, off + j * 6 + i, none⟩) (h.lt (by have := (List.getElem?_eq_some_iff.1 hj).1; omega))).trans (h2 i v hv)⟩, fun hp => Nat.lt_of_lt_of_le (h.lt hp) hb.size⟩
set_option maxHeartbeats 1000000 in
set_option maxRecDepth 100000 in
theorem pick_any (x : Int) (h0 : -9223372036854775808 ≤ x) (h1 : x ≤ 9223372036854775807) (w : World) : Calls Try.prog 10 #[.int .i64 x] w fun e w' => e = .returned (.int .i64 (Dk.pick x)) ∧ w = w' := by
  obtain ⟨r, hr⟩ : ∃ r, Int.tmod x 11 = r := ⟨_, rfl⟩
  have hr2 : (0 ≤ x ∧ r = x % 11) ∨ (x < 0 ∧ r = -((-x) % 11)) := by
    rw [← hr]
    by_cases hx : 0 ≤ x
    · exact .inl ⟨hx, Int.tmod_eq_emod_of_nonneg hx⟩
    · refine .inr ⟨by omega, ?_⟩
      have e : x.tmod 11 = -((-x).tmod 11) := by rw [Int.neg_tmod]; omega
      rw [e, Int.tmod_eq_emod_of_nonneg (by omega)]
  have hr0 : -11 < r ∧ r < 11 := by omega
  have hp : Dk.pick x = if r < 0 then r + 11 else r := by
    unfold Dk.pick
    split <;> omega
  rw [hp]
  clear hp hr2
  by_cases hn : r < 0
  · rw [if_pos hn]
    go_enter Try.func10, Try.ntmps10
    go_wp2
    go_ret
    exact ⟨by first | rfl | exact ret_int (by omega), rfl⟩
  · rw [if_neg hn]
    go_enter Try.func10, Try.ntmps10
    go_wp2
    go_ret
    exact ⟨rfl, rfl⟩
namespace Dk
def bad (a : Act) : Bool := decide (4000 ≤ a.n) && decide (a.n ≤ 16777216)
def atot (X : List Act) (k : Nat) : Nat := ((X.take k).map fun a => a.s.length + a.keep.length).sum
def few (X : List Act) : Bool := X.all (fun a => !bad a) && (decide (X.length ≤ 200) && decide (atot X X.length ≤ 5000))
theorem atot_zero (X : List Act) : atot X 0 = 0 := by unfold atot; rw [List.take_zero]; rfl
theorem atot_succ (X : List Act) (k : Nat) (a : Act) (h : X[k]? = some a) : atot X (k + 1) = atot X k + a.s.length + a.keep.length := by
  unfold atot
  rw [List.take_add_one, h]
  simp
  omega
theorem few_bad {X : List Act} {k : Nat} {a : Act} (h : X[k]? = some a) (hb : bad a = true) : few X = false := by
  unfold few
  have : X.all (fun a => !bad a) = false := List.all_eq_false.2 ⟨a, List.mem_of_getElem? h, by simp [hb]⟩
  rw [this]; rfl
end Dk
set_option maxHeartbeats 1000000 in
set_option maxRecDepth 100000 in
theorem do_0 (d f g0 n : Int) (s : ByteArray) (ka : Option Addr) (kn kcap : Nat) (w0 w : World) (g : Nat) (D : Dk.Disk) (h : Mine w0 w g D) (hd0 : -9223372036854775808 ≤ d) (hd1 : d ≤ 9223372036854775807) (hp : Dk.pick d = 0) (hn0 : -9223372036854775808 ≤ n) (hn1 : n ≤ 9223372036854775807) (hs : s.size ≤ 1000000) (hq : D.queue.length + s.size ≤ 1000000) :
    Calls Try.prog 15 #[.pointer (some ⟨g, 0, none⟩), .agg #[.int .i64 d, .int .i64 f, .int .i64 g0, .int .i64 n, .string s, .slice ka kn kcap]] w fun e w' => e = .returned (.tuple #[.string (⟨#[]⟩), .int .i64 (Dk.ec (Dk.write D f n s.data.toList).1)]) ∧ Mine w0 w' g ((Dk.write D f n s.data.toList).2) := by
  have CP := Lib.hid (fun w1 : World => pick_any d hd0 hd1 w1)
  rw [hp] at CP
  clear hp
  have hm := h.alloc (.cells #[.int .i64 d, .int .i64 f, .int .i64 g0, .int .i64 n, .string s, .slice ka kn kcap] 32)
  have CM := Lib.hid (mine_write hm f n hn0 hn1 s hs hq)
  clear h hm
  obtain ⟨RE, hRE⟩ : ∃ RE, Dk.ec (Dk.write D f n s.data.toList).1 = RE := ⟨_, rfl⟩
  rw [hRE] at CM ⊢
  clear hRE
  go_enter Try.func15, Try.ntmps15
  go_wp2_with (first | (go_at_call 10; with_reducible refine (CP.out _).mono ?_; rintro _ w2 ⟨rfl, rfl⟩) | (go_at_call 12; with_reducible refine CM.out.mono ?_; rintro _ w3 ⟨rfl, hm⟩; have HM := Lib.hid hm; clear hm))
  go_ret2
  exact ⟨rfl, HM.out⟩
set_option maxHeartbeats 1000000 in
set_option maxRecDepth 100000 in
theorem do_1 (d f g0 n : Int) (s : ByteArray) (ka : Option Addr) (kn kcap : Nat) (w0 w : World) (g : Nat) (D : Dk.Disk) (h : Mine w0 w g D) (hd0 : -9223372036854775808 ≤ d) (hd1 : d ≤ 9223372036854775807) (hp : Dk.pick d = 1) (hn0 : -9223372036854775808 ≤ n) (hn1 : n ≤ 9223372036854775807) (hs : s.size ≤ 1000000) (hq : D.queue.length + s.size ≤ 1000000) :
    Calls Try.prog 15 #[.pointer (some ⟨g, 0, none⟩), .agg #[.int .i64 d, .int .i64 f, .int .i64 g0, .int .i64 n, .string s, .slice ka kn kcap]] w fun e w' => e = .returned (.tuple #[.string (⟨#[]⟩), .int .i64 (Dk.ec (Dk.write D f n s.data.toList).1)]) ∧ Mine w0 w' g ((Dk.write D f n s.data.toList).2) := by
  have CP := Lib.hid (fun w1 : World => pick_any d hd0 hd1 w1)
  rw [hp] at CP
  clear hp
  have hm := h.alloc (.cells #[.int .i64 d, .int .i64 f, .int .i64 g0, .int .i64 n, .string s, .slice ka kn kcap] 32)
  have CM := Lib.hid (mine_write hm f n hn0 hn1 s hs hq)
  clear h hm
  obtain ⟨RE, hRE⟩ : ∃ RE, Dk.ec (Dk.write D f n s.data.toList).1 = RE := ⟨_, rfl⟩
  rw [hRE] at CM ⊢
  clear hRE
  go_enter Try.func15, Try.ntmps15
  go_wp2_with (first | (go_at_call 10; with_reducible refine (CP.out _).mono ?_; rintro _ w2 ⟨rfl, rfl⟩) | (go_at_call 12; with_reducible refine CM.out.mono ?_; rintro _ w3 ⟨rfl, hm⟩; have HM := Lib.hid hm; clear hm))
  go_ret2
  exact ⟨rfl, HM.out⟩
set_option maxHeartbeats 1000000 in
set_option maxRecDepth 100000 in
theorem do_2 (d f g0 n : Int) (s : ByteArray) (ka : Option Addr) (kn kcap : Nat) (w0 w : World) (g : Nat) (D : Dk.Disk) (h : Mine w0 w g D) (hd0 : -9223372036854775808 ≤ d) (hd1 : d ≤ 9223372036854775807) (hp : Dk.pick d = 2) :
    Calls Try.prog 15 #[.pointer (some ⟨g, 0, none⟩), .agg #[.int .i64 d, .int .i64 f, .int .i64 g0, .int .i64 n, .string s, .slice ka kn kcap]] w fun e w' => e = .returned (.tuple #[.string (⟨#[]⟩), .int .i64 (Dk.ec (Dk.flush D f).1)]) ∧ Mine w0 w' g ((Dk.flush D f).2) := by
  have CP := Lib.hid (fun w1 : World => pick_any d hd0 hd1 w1)
  rw [hp] at CP
  clear hp
  have hm := h.alloc (.cells #[.int .i64 d, .int .i64 f, .int .i64 g0, .int .i64 n, .string s, .slice ka kn kcap] 32)
  have CM := Lib.hid (mine_flush hm f)
  clear h hm
  obtain ⟨RE, hRE⟩ : ∃ RE, Dk.ec (Dk.flush D f).1 = RE := ⟨_, rfl⟩
  rw [hRE] at CM ⊢
  clear hRE
  go_enter Try.func15, Try.ntmps15
  go_wp2_with (first | (go_at_call 10; with_reducible refine (CP.out _).mono ?_; rintro _ w2 ⟨rfl, rfl⟩) | (go_at_call 29; with_reducible refine CM.out.mono ?_; rintro _ w3 ⟨rfl, hm⟩; have HM := Lib.hid hm; clear hm))
  go_ret2
  exact ⟨rfl, HM.out⟩
set_option maxHeartbeats 1000000 in
set_option maxRecDepth 100000 in
theorem do_3 (d f g0 n : Int) (s : ByteArray) (ka : Option Addr) (kn kcap : Nat) (w0 w : World) (g : Nat) (D : Dk.Disk) (h : Mine w0 w g D) (hd0 : -9223372036854775808 ≤ d) (hd1 : d ≤ 9223372036854775807) (hp : Dk.pick d = 3) :
    Calls Try.prog 15 #[.pointer (some ⟨g, 0, none⟩), .agg #[.int .i64 d, .int .i64 f, .int .i64 g0, .int .i64 n, .string s, .slice ka kn kcap]] w fun e w' => e = .returned (.tuple #[.string (⟨#[]⟩), .int .i64 (Dk.ec (Dk.cut D f n).1)]) ∧ Mine w0 w' g ((Dk.cut D f n).2) := by
  have CP := Lib.hid (fun w1 : World => pick_any d hd0 hd1 w1)
  rw [hp] at CP
  clear hp
  have hm := h.alloc (.cells #[.int .i64 d, .int .i64 f, .int .i64 g0, .int .i64 n, .string s, .slice ka kn kcap] 32)
  have CM := Lib.hid (mine_cut hm f n)
  clear h hm
  obtain ⟨RE, hRE⟩ : ∃ RE, Dk.ec (Dk.cut D f n).1 = RE := ⟨_, rfl⟩
  rw [hRE] at CM ⊢
  clear hRE
  go_enter Try.func15, Try.ntmps15
  go_wp2_with (first | (go_at_call 10; with_reducible refine (CP.out _).mono ?_; rintro _ w2 ⟨rfl, rfl⟩) | (go_at_call 32; with_reducible refine CM.out.mono ?_; rintro _ w3 ⟨rfl, hm⟩; have HM := Lib.hid hm; clear hm))
  go_ret2
  exact ⟨rfl, HM.out⟩
set_option maxHeartbeats 1000000 in
set_option maxRecDepth 100000 in
theorem do_4 (d f g0 n : Int) (s : ByteArray) (ka : Option Addr) (kn kcap : Nat) (w0 w : World) (g : Nat) (D : Dk.Disk) (h : Mine w0 w g D) (hd0 : -9223372036854775808 ≤ d) (hd1 : d ≤ 9223372036854775807) (hp : Dk.pick d = 4) :
    Calls Try.prog 15 #[.pointer (some ⟨g, 0, none⟩), .agg #[.int .i64 d, .int .i64 f, .int .i64 g0, .int .i64 n, .string s, .slice ka kn kcap]] w fun e w' => e = .returned (.tuple #[.string (⟨#[]⟩), .int .i64 (Dk.ec (Dk.turn D f g0).1)]) ∧ Mine w0 w' g ((Dk.turn D f g0).2) := by
  have CP := Lib.hid (fun w1 : World => pick_any d hd0 hd1 w1)
  rw [hp] at CP
  clear hp
  have hm := h.alloc (.cells #[.int .i64 d, .int .i64 f, .int .i64 g0, .int .i64 n, .string s, .slice ka kn kcap] 32)
  have CM := Lib.hid (mine_turn hm f g0)
  clear h hm
  obtain ⟨RE, hRE⟩ : ∃ RE, Dk.ec (Dk.turn D f g0).1 = RE := ⟨_, rfl⟩
  rw [hRE] at CM ⊢
  clear hRE
  go_enter Try.func15, Try.ntmps15
  go_wp2_with (first | (go_at_call 10; with_reducible refine (CP.out _).mono ?_; rintro _ w2 ⟨rfl, rfl⟩) | (go_at_call 31; with_reducible refine CM.out.mono ?_; rintro _ w3 ⟨rfl, hm⟩; have HM := Lib.hid hm; clear hm))
  go_ret2
  exact ⟨rfl, HM.out⟩
set_option maxHeartbeats 1000000 in
set_option maxRecDepth 100000 in
theorem do_5 (d f g0 n : Int) (s : ByteArray) (ka : Option Addr) (kn kcap : Nat) (kb koff : Nat) (ks : List Int) (w0 w : World) (g : Nat) (D : Dk.Disk) (h : Mine w0 w g D) (hd0 : -9223372036854775808 ≤ d) (hd1 : d ≤ 9223372036854775807) (hp : Dk.pick d = 5) (hk : IR w0 ka kb koff ks) (hkn : ks.length = kn) :
    Calls Try.prog 15 #[.pointer (some ⟨g, 0, none⟩), .agg #[.int .i64 d, .int .i64 f, .int .i64 g0, .int .i64 n, .string s, .slice ka kn kcap]] w fun e w' => e = .returned (.tuple #[.string (⟨#[]⟩), .int .i64 (0)]) ∧ Mine w0 w' g (Dk.crash D ks) := by
  have CP := Lib.hid (fun w1 : World => pick_any d hd0 hd1 w1)
  rw [hp] at CP
  clear hp
  have hm := h.alloc (.cells #[.int .i64 d, .int .i64 f, .int .i64 g0, .int .i64 n, .string s, .slice ka kn kcap] 32)
  have CM := Lib.hid (mine_crash_arg hm ka kb koff kn kcap ks hk hkn)
  clear h hm
  go_enter Try.func15, Try.ntmps15
  go_wp2_with (first | (go_at_call 10; with_reducible refine (CP.out _).mono ?_; rintro _ w2 ⟨rfl, rfl⟩) | (go_at_call 13; with_reducible refine CM.out.mono ?_; rintro _ w3 ⟨⟨v9, rfl⟩, hm⟩; have HM := Lib.hid hm; clear hm))
  go_ret2
  exact ⟨rfl, HM.out⟩
set_option maxHeartbeats 1000000 in
set_option maxRecDepth 100000 in
theorem do_6 (d f g0 n : Int) (s : ByteArray) (ka : Option Addr) (kn kcap : Nat) (w0 w : World) (g : Nat) (D : Dk.Disk) (h : Mine w0 w g D) (hd0 : -9223372036854775808 ≤ d) (hd1 : d ≤ 9223372036854775807) (hp : Dk.pick d = 6) (hn1 : n ≤ 9223372036854775807) :
    Calls Try.prog 15 #[.pointer (some ⟨g, 0, none⟩), .agg #[.int .i64 d, .int .i64 f, .int .i64 g0, .int .i64 n, .string s, .slice ka kn kcap]] w fun e w' => e = .returned (.tuple #[.string (⟨#[]⟩), .int .i64 (0)]) ∧ Mine w0 w' g (Dk.lose D n) := by
  have CP := Lib.hid (fun w1 : World => pick_any d hd0 hd1 w1)
  rw [hp] at CP
  clear hp
  have hm := h.alloc (.cells #[.int .i64 d, .int .i64 f, .int .i64 g0, .int .i64 n, .string s, .slice ka kn kcap] 32)
  have CM := Lib.hid (mine_lose hm n hn1)
  clear h hm
  go_enter Try.func15, Try.ntmps15
  go_wp2_with (first | (go_at_call 10; with_reducible refine (CP.out _).mono ?_; rintro _ w2 ⟨rfl, rfl⟩) | (go_at_call 30; with_reducible refine CM.out.mono ?_; rintro _ w3 ⟨⟨v9, rfl⟩, hm⟩; have HM := Lib.hid hm; clear hm))
  go_ret2
  exact ⟨rfl, HM.out⟩
set_option maxHeartbeats 1000000 in
set_option maxRecDepth 100000 in
theorem do_7 (d f g0 n : Int) (s : ByteArray) (ka : Option Addr) (kn kcap : Nat) (w0 w : World) (g : Nat) (D : Dk.Disk) (h : Mine w0 w g D) (hd0 : -9223372036854775808 ≤ d) (hd1 : d ≤ 9223372036854775807) (hp : Dk.pick d = 7) :
    Calls Try.prog 15 #[.pointer (some ⟨g, 0, none⟩), .agg #[.int .i64 d, .int .i64 f, .int .i64 g0, .int .i64 n, .string s, .slice ka kn kcap]] w fun e w' => e = .returned (.tuple #[.string (⟨#[]⟩), .int .i64 (0)]) ∧ Mine w0 w' g (Dk.start D) := by
  have CP := Lib.hid (fun w1 : World => pick_any d hd0 hd1 w1)
  rw [hp] at CP
  clear hp
  have hm := h.alloc (.cells #[.int .i64 d, .int .i64 f, .int .i64 g0, .int .i64 n, .string s, .slice ka kn kcap] 32)
  have CM := Lib.hid (mine_start hm)
  clear h hm
  go_enter Try.func15, Try.ntmps15
  go_wp2_with (first | (go_at_call 10; with_reducible refine (CP.out _).mono ?_; rintro _ w2 ⟨rfl, rfl⟩) | (go_at_call 21; with_reducible refine CM.out.mono ?_; rintro _ w3 ⟨⟨v9, rfl⟩, hm⟩; have HM := Lib.hid hm; clear hm))
  go_ret2
  exact ⟨rfl, HM.out⟩
set_option maxHeartbeats 1000000 in
set_option maxRecDepth 100000 in
theorem do_8 (d f g0 n : Int) (s : ByteArray) (ka : Option Addr) (kn kcap : Nat) (w0 w : World) (g : Nat) (D : Dk.Disk) (h : Mine w0 w g D) (hd0 : -9223372036854775808 ≤ d) (hd1 : d ≤ 9223372036854775807) (hp : Dk.pick d = 8) :
    Calls Try.prog 15 #[.pointer (some ⟨g, 0, none⟩), .agg #[.int .i64 d, .int .i64 f, .int .i64 g0, .int .i64 n, .string s, .slice ka kn kcap]] w fun e w' => e = .returned (.tuple #[.string (enc (Dk.readE D f).1), .int .i64 (Dk.ec (Dk.readE D f).2)]) ∧ Mine w0 w' g (D) := by
  have CP := Lib.hid (fun w1 : World => pick_any d hd0 hd1 w1)
  rw [hp] at CP
  clear hp
  have hm := h.alloc (.cells #[.int .i64 d, .int .i64 f, .int .i64 g0, .int .i64 n, .string s, .slice ka kn kcap] 32)
  have CM := Lib.hid (mine_read hm f)
  clear h hm
  obtain ⟨RS, hRS⟩ : ∃ RS, enc (Dk.readE D f).1 = RS := ⟨_, rfl⟩
  rw [hRS] at CM ⊢
  clear hRS
  obtain ⟨RE, hRE⟩ : ∃ RE, Dk.ec (Dk.readE D f).2 = RE := ⟨_, rfl⟩
  rw [hRE] at CM ⊢
  clear hRE
  go_enter Try.func15, Try.ntmps15
  go_wp2_with (first | (go_at_call 10; with_reducible refine (CP.out _).mono ?_; rintro _ w2 ⟨rfl, rfl⟩) | (go_at_call 23; with_reducible refine CM.out.mono ?_; rintro _ w3 ⟨rfl, hm⟩; have HM := Lib.hid hm; clear hm))
  go_ret2
  exact ⟨rfl, HM.out⟩
set_option maxHeartbeats 1000000 in
set_option maxRecDepth 100000 in
theorem do_9 (d f g0 n : Int) (s : ByteArray) (ka : Option Addr) (kn kcap : Nat) (w0 w : World) (g : Nat) (D : Dk.Disk) (h : Mine w0 w g D) (hd0 : -9223372036854775808 ≤ d) (hd1 : d ≤ 9223372036854775807) (hp : Dk.pick d = 9) :
    Calls Try.prog 15 #[.pointer (some ⟨g, 0, none⟩), .agg #[.int .i64 d, .int .i64 f, .int .i64 g0, .int .i64 n, .string s, .slice ka kn kcap]] w fun e w' => e = .returned (.tuple #[.string (⟨#[]⟩), .int .i64 (0)]) ∧ Mine w0 w' g (D) := by
  have CP := Lib.hid (fun w1 : World => pick_any d hd0 hd1 w1)
  rw [hp] at CP
  clear hp
  have hm := h.alloc (.cells #[.int .i64 d, .int .i64 f, .int .i64 g0, .int .i64 n, .string s, .slice ka kn kcap] 32)
  have HM := Lib.hid hm
  clear h hm
  go_enter Try.func15, Try.ntmps15
  go_wp2_with (first | (go_at_call 10; with_reducible refine (CP.out _).mono ?_; rintro _ w2 ⟨rfl, rfl⟩))
  go_ret2
  exact ⟨rfl, HM.out⟩
set_option maxHeartbeats 1000000 in
set_option maxRecDepth 100000 in
theorem do_10 (d f g0 n : Int) (s : ByteArray) (ka : Option Addr) (kn kcap : Nat) (kb koff : Nat) (ks : List Int) (w0 w : World) (g : Nat) (D : Dk.Disk) (h : Mine w0 w g D) (hd0 : -9223372036854775808 ≤ d) (hd1 : d ≤ 9223372036854775807) (hp : Dk.pick d = 10) (hn1 : n ≤ 9223372036854775807) (hk : IR w0 ka kb koff ks) (hkn : ks.length = kn) (hknil : ka = none → kcap = 0) (hkl : kn ≤ 100000000) :
    Calls Try.prog 15 #[.pointer (some ⟨g, 0, none⟩), .agg #[.int .i64 d, .int .i64 f, .int .i64 g0, .int .i64 n, .string s, .slice ka kn kcap]] w fun e w' => e = .returned (.tuple #[.string (⟨#[]⟩), .int .i64 (0)]) ∧ Mine w0 w' g (Dk.arm D n ks) := by
  have CP := Lib.hid (fun w1 : World => pick_any d hd0 hd1 w1)
  rw [hp] at CP
  clear hp
  have hm := h.alloc (.cells #[.int .i64 d, .int .i64 f, .int .i64 g0, .int .i64 n, .string s, .slice ka kn kcap] 32)
  have CM := Lib.hid (mine_arm_arg hm n hn1 ka kb koff kn kcap ks hk hkn hknil hkl)
  clear h hm
  go_enter Try.func15, Try.ntmps15
  go_wp2_with (first | (go_at_call 10; with_reducible refine (CP.out _).mono ?_; rintro _ w2 ⟨rfl, rfl⟩) | (go_at_call 27; with_reducible refine CM.out.mono ?_; rintro _ w3 ⟨⟨v9, rfl⟩, hm⟩; have HM := Lib.hid hm; clear hm))
  go_ret2
  exact ⟨rfl, HM.out⟩
/-- do, whatever the act. -/
theorem do_any (a : Dk.Act) (s : ByteArray) (hs1 : s.data.toList = a.s) (ka : Option Addr) (kb koff kn kcap : Nat) (w0 w : World) (g : Nat) (D : Dk.Disk) (h : Mine w0 w g D) (hA : AC w0 a ka kb koff kn kcap) (hs : a.s.length ≤ 1000000) (hq : D.queue.length + a.s.length ≤ 1000000) (hkl : kn ≤ 100000000) :
    Calls Try.prog 15 #[.pointer (some ⟨g, 0, none⟩), .agg #[.int .i64 a.do_, .int .i64 a.f, .int .i64 a.g, .int .i64 a.n, .string s, .slice ka kn kcap]] w fun e w' => e = .returned (.tuple #[.string (enc (Dk.act D a).1.1), .int .i64 (Dk.ec (Dk.act D a).1.2)]) ∧ Mine w0 w' g (Dk.act D a).2 := by
  have hz := Lib.size_eq s
  rw [hs1] at hz
  obtain ⟨p0, p1⟩ := Dk.pick_range a.do_
  have hc : Dk.pick a.do_ = 0 ∨ Dk.pick a.do_ = 1 ∨ Dk.pick a.do_ = 2 ∨ Dk.pick a.do_ = 3 ∨ Dk.pick a.do_ = 4 ∨ Dk.pick a.do_ = 5 ∨ Dk.pick a.do_ = 6 ∨ Dk.pick a.do_ = 7 ∨ Dk.pick a.do_ = 8 ∨ Dk.pick a.do_ = 9 ∨ Dk.pick a.do_ = 10 := by omega
  rcases hc with e | e | e | e | e | e | e | e | e | e | e
  · have C := do_0 a.do_ a.f a.g a.n s ka kn kcap w0 w g D h hA.d0 hA.d1 e hA.n0 hA.n1 (by omega) (by omega)
    rw [hs1] at C
    refine C.mono fun x w' ⟨h1, h2⟩ => ?_
    unfold Dk.act
    rw [e]
    exact ⟨h1, h2⟩
  · have C := do_1 a.do_ a.f a.g a.n s ka kn kcap w0 w g D h hA.d0 hA.d1 e hA.n0 hA.n1 (by omega) (by omega)
    rw [hs1] at C
    refine C.mono fun x w' ⟨h1, h2⟩ => ?_
    unfold Dk.act
    rw [e]
    exact ⟨h1, h2⟩
  · have C := do_2 a.do_ a.f a.g a.n s ka kn kcap w0 w g D h hA.d0 hA.d1 e
    refine C.mono fun x w' ⟨h1, h2⟩ => ?_
    unfold Dk.act
    rw [e]
    exact ⟨h1, h2⟩
  · have C := do_3 a.do_ a.f a.g a.n s ka kn kcap w0 w g D h hA.d0 hA.d1 e
    refine C.mono fun x w' ⟨h1, h2⟩ => ?_
    unfold Dk.act
    rw [e]
    exact ⟨h1, h2⟩
  · have C := do_4 a.do_ a.f a.g a.n s ka kn kcap w0 w g D h hA.d0 hA.d1 e
    refine C.mono fun x w' ⟨h1, h2⟩ => ?_
    unfold Dk.act
    rw [e]
    exact ⟨h1, h2⟩
  · have C := do_5 a.do_ a.f a.g a.n s ka kn kcap kb koff a.keep w0 w g D h hA.d0 hA.d1 e hA.ir hA.len
    refine C.mono fun x w' ⟨h1, h2⟩ => ?_
    unfold Dk.act
    rw [e]
    exact ⟨h1, h2⟩
  · have C := do_6 a.do_ a.f a.g a.n s ka kn kcap w0 w g D h hA.d0 hA.d1 e hA.n1
    refine C.mono fun x w' ⟨h1, h2⟩ => ?_
    unfold Dk.act
    rw [e]
    exact ⟨h1, h2⟩
  · have C := do_7 a.do_ a.f a.g a.n s ka kn kcap w0 w g D h hA.d0 hA.d1 e
    refine C.mono fun x w' ⟨h1, h2⟩ => ?_
    unfold Dk.act
    rw [e]
    exact ⟨h1, h2⟩
  · have C := do_8 a.do_ a.f a.g a.n s ka kn kcap w0 w g D h hA.d0 hA.d1 e
    refine C.mono fun x w' ⟨h1, h2⟩ => ?_
    unfold Dk.act
    rw [e]
    exact ⟨h1, h2⟩
  · have C := do_9 a.do_ a.f a.g a.n s ka kn kcap w0 w g D h hA.d0 hA.d1 e
    refine C.mono fun x w' ⟨h1, h2⟩ => ?_
    unfold Dk.act
    rw [e]
    exact ⟨h1, h2⟩
  · have C := do_10 a.do_ a.f a.g a.n s ka kn kcap kb koff a.keep w0 w g D h hA.d0 hA.d1 e hA.n1 hA.ir hA.len hA.nil hkl
    refine C.mono fun x w' ⟨h1, h2⟩ => ?_
    unfold Dk.act
    rw [e]
    exact ⟨h1, h2⟩
end Go.Proofs.Ytbpodclodflgfaa
