/-
  Acts in memory; pick, do and few of the law's text.
  few of the law's text.
-/
import Derived.Test.YtbelmadbjiiodaaKGh
namespace Go.Proofs.Ytbelmadbjiiodaa
open Go Go.RowKit
/-- An act's numbers and what it keeps. -/
structure AC (w : World) (a : Dk.Act) (ka : Option Addr) (kb koff kn kcap : Nat) : Prop where
  ir : IR w ka kb koff a.keep
  len : a.keep.length = kn
  nil : ka = none → kcap = 0
  n0 : -9223372036854775808 ≤ a.n
  n1 : a.n ≤ 9223372036854775807
  d0 : -9223372036854775808 ≤ a.do_
  d1 : a.do_ ≤ 9223372036854775807
  rs : a.s.length ≤ 140737488351232
  rk : kn ≤ 140737488351232
theorem AC.below {w w' : World} {a : Dk.Act} {ka : Option Addr} {kb koff kn kcap : Nat} (h : AC w a ka kb koff kn kcap) (hb : Below w.heap.size w w') : AC w' a ka kb koff kn kcap := ⟨h.ir.below hb, h.len, h.nil, h.n0, h.n1, h.d0, h.d1, h.rs, h.rk⟩
def acells (a : Dk.Act) (ka : Option Addr) (kn kcap : Nat) : List Value := [.int .i64 a.do_, .int .i64 a.f, .int .i64 a.g, .int .i64 a.n, .string (enc a.s), .slice ka kn kcap]
/-- A slice of acts that reads as a list. -/
structure LA (w : World) (xa : Option Addr) (b off : Nat) (X : List Dk.Act) : Prop where
  at_ : 0 < X.length → xa = some ⟨b, off, none⟩
  cell : ∀ j a, X[j]? = some a → ∃ (ka : Option Addr) (kb koff kn kcap : Nat), AC w a ka kb koff kn kcap ∧ ∀ i v, (acells a ka kn kcap)[i]? = some v → w.cell? ⟨b, off + j * 6 + i, none⟩ = some v
  lt : 0 < X.length → b < w.heap.size
theorem LA.below {w w' : World} {xa : Option Addr} {b off : Nat} {X : List Dk.Act} (h : LA w xa b off X) (hb : Below w.heap.size w w') : LA w' xa b off X :=
  ⟨h.at_, fun j a hj => by
    obtain ⟨ka, kb, koff, kn, kcap, h1, h2⟩ := h.cell j a hj
    exact ⟨ka, kb, koff, kn, kcap, h1.below hb, fun i v hv => (hb.cell (p := ⟨b, off + j * 6 + i, none⟩) (h.lt (by have := (List.getElem?_eq_some_iff.1 hj).1; omega))).trans (h2 i v hv)⟩, fun hp => Nat.lt_of_lt_of_le (h.lt hp) hb.size⟩
set_option maxHeartbeats 1000000 in
set_option maxRecDepth 100000 in
theorem pick_any (x : Int) (h0 : -9223372036854775808 ≤ x) (h1 : x ≤ 9223372036854775807) (w : World) : Calls Try.prog 8 #[.int .i64 x] w fun e w' => e = .returned (.int .i64 (Dk.pick x)) ∧ w = w' := by
  obtain ⟨r, hr⟩ : ∃ r, Int.tmod x 11 = r := ⟨_, rfl⟩
  have hr2 : (0 ≤ x ∧ r = x % 11) ∨ (x < 0 ∧ r = -((-x) % 11)) := by
    rw [← hr]
    by_cases hx : 0 ≤ x
    · exact .inl ⟨hx, Int.tmod_eq_emod_of_nonneg hx⟩
    · refine .inr ⟨by omega, ?_⟩
      have e : x.tmod 11 = -((-x).tmod 11) := by rw [Int.neg_tmod]; omega
      rw [e, Int.tmod_eq_emod_of_nonneg (by omega)]
  have hr0 : -11 < r ∧ r < 11 := by omega
  have hp : Dk.pick x = if r < 0 then r + 11 else r := by
    unfold Dk.pick
    split <;> omega
  rw [hp]
  clear hp hr2
  by_cases hn : r < 0
  · rw [if_pos hn]
    go_enter Try.func8, Try.ntmps8
    go_wp2
    go_ret
    exact ⟨by first | rfl | exact ret_int (by omega), rfl⟩
  · rw [if_neg hn]
    go_enter Try.func8, Try.ntmps8
    go_wp2
    go_ret
    exact ⟨rfl, rfl⟩
namespace Dk
def bad (a : Act) : Bool := decide (4000 ≤ a.n) && decide (a.n ≤ 16777216)
def atot (X : List Act) (k : Nat) : Nat := ((X.take k).map fun a => a.s.length + a.keep.length).sum
def few (X : List Act) : Bool := X.all (fun a => !bad a) && (decide (X.length ≤ 200) && decide (atot X X.length ≤ 5000))
theorem atot_zero (X : List Act) : atot X 0 = 0 := by unfold atot; rw [List.take_zero]; rfl
theorem atot_succ (X : List Act) (k : Nat) (a : Act) (h : X[k]? = some a) : atot X (k + 1) = atot X k + a.s.length + a.keep.length := by
  unfold atot
  rw [List.take_add_one, h]
  simp
  omega
theorem few_bad {X : List Act} {k : Nat} {a : Act} (h : X[k]? = some a) (hb : bad a = true) : few X = false := by
  unfold few
  have : X.all (fun a => !bad a) = false := List.all_eq_false.2 ⟨a, List.mem_of_getElem? h, by simp [hb]⟩
  rw [this]; rfl
end Dk
set_option maxHeartbeats 1000000 in
set_option maxRecDepth 100000 in
theorem do_0 (d f g0 n : Int) (s : ByteArray) (ka : Option Addr) (kn kcap : Nat) (w0 w : World) (g : Nat) (D : Dk.Disk) (h : Mine w0 w g D) (hd0 : -9223372036854775808 ≤ d) (hd1 : d ≤ 9223372036854775807) (hp : Dk.pick d = 0) (hn0 : -9223372036854775808 ≤ n) (hn1 : n ≤ 9223372036854775807) (hs : s.size ≤ 1000000) (hq : D.queue.length + s.size ≤ 1000000) :
    Calls Try.prog 13 #[.pointer (some ⟨g, 0, none⟩), .agg #[.int .i64 d, .int .i64 f, .int .i64 g0, .int .i64 n, .string s, .slice ka kn kcap]] w fun e w' => e = .returned (.tuple #[.string (⟨#[]⟩), .int .i64 (Dk.ec (Dk.write D f n s.data.toList).1)]) ∧ Mine w0 w' g ((Dk.write D f n s.data.toList).2) := by
  have CP := Lib.hid (fun w1 : World => pick_any d hd0 hd1 w1)
  rw [hp] at CP
  clear hp
  have hm := h.alloc (.cells #[.int .i64 d, .int .i64 f, .int .i64 g0, .int .i64 n, .string s, .slice ka kn kcap] 32)
  have CM := Lib.hid (mine_write hm f n hn0 hn1 s hs hq)
  clear h hm
  obtain ⟨RE, hRE⟩ : ∃ RE, Dk.ec (Dk.write D f n s.data.toList).1 = RE := ⟨_, rfl⟩
  rw [hRE] at CM ⊢
  clear hRE
  go_enter Try.func13, Try.ntmps13
  go_wp2_with (first | (go_at_call 8; with_reducible refine (CP.out _).mono ?_; rintro _ w2 ⟨rfl, rfl⟩) | (go_at_call 10; with_reducible refine CM.out.mono ?_; rintro _ w3 ⟨rfl, hm⟩; have HM := Lib.hid hm; clear hm))
  go_ret2
  exact ⟨rfl, HM.out⟩
set_option maxHeartbeats 1000000 in
set_option maxRecDepth 100000 in
theorem do_1 (d f g0 n : Int) (s : ByteArray) (ka : Option Addr) (kn kcap : Nat) (w0 w : World) (g : Nat) (D : Dk.Disk) (h : Mine w0 w g D) (hd0 : -9223372036854775808 ≤ d) (hd1 : d ≤ 9223372036854775807) (hp : Dk.pick d = 1) (hn0 : -9223372036854775808 ≤ n) (hn1 : n ≤ 9223372036854775807) (hs : s.size ≤ 1000000) (hq : D.queue.length + s.size ≤ 1000000) :
    Calls Try.prog 13 #[.pointer (some ⟨g, 0, none⟩), .agg #[.int .i64 d, .int .i64 f, .int .i64 g0, .int .i64 n, .string s, .slice ka kn kcap]] w fun e w' => e = .returned (.tuple #[.string (⟨#[]⟩), .int .i64 (Dk.ec (Dk.write D f n s.data.toList).1)]) ∧ Mine w0 w' g ((Dk.write D f n s.data.toList).2) := by
  have CP := Lib.hid (fun w1 : World => pick_any d hd0 hd1 w1)
  rw [hp] at CP
  clear hp
  have hm := h.alloc (.cells #[.int .i64 d, .int .i64 f, .int .i64 g0, .int .i64 n, .string s, .slice ka kn kcap] 32)
  have CM := Lib.hid (mine_write hm f n hn0 hn1 s hs hq)
  clear h hm
  obtain ⟨RE, hRE⟩ : ∃ RE, Dk.ec (Dk.write D f n s.data.toList).1 = RE := ⟨_, rfl⟩
  rw [hRE] at CM ⊢
  clear hRE
  go_enter Try.func13, Try.ntmps13
  go_wp2_with (first | (go_at_call 8; with_reducible refine (CP.out _).mono ?_; rintro _ w2 ⟨rfl, rfl⟩) | (go_at_call 10; with_reducible refine CM.out.mono ?_; rintro _ w3 ⟨rfl, hm⟩; have HM := Lib.hid hm; clear hm))
  go_ret2
  exact ⟨rfl, HM.out⟩
set_option maxHeartbeats 1000000 in
set_option maxRecDepth 100000 in
theorem do_2 (d f g0 n : Int) (s : ByteArray) (ka : Option Addr) (kn kcap : Nat) (w0 w : World) (g : Nat) (D : Dk.Disk) (h : Mine w0 w g D) (hd0 : -9223372036854775808 ≤ d) (hd1 : d ≤ 9223372036854775807) (hp : Dk.pick d = 2) :
    Calls Try.prog 13 #[.pointer (some ⟨g, 0, none⟩), .agg #[.int .i64 d, .int .i64 f, .int .i64 g0, .int .i64 n, .string s, .slice ka kn kcap]] w fun e w' => e = .returned (.tuple #[.string (⟨#[]⟩), .int .i64 (Dk.ec (Dk.flush D f).1)]) ∧ Mine w0 w' g ((Dk.flush D f).2) := by
  have CP := Lib.hid (fun w1 : World => pick_any d hd0 hd1 w1)
  rw [hp] at CP
  clear hp
  have hm := h.alloc (.cells #[.int .i64 d, .int .i64 f, .int .i64 g0, .int .i64 n, .string s, .slice ka kn kcap] 32)
  have CM := Lib.hid (mine_flush hm f)
  clear h hm
  obtain ⟨RE, hRE⟩ : ∃ RE, Dk.ec (Dk.flush D f).1 = RE := ⟨_, rfl⟩
  rw [hRE] at CM ⊢
  clear hRE
  go_enter Try.func13, Try.ntmps13
  go_wp2_with (first | (go_at_call 8; with_reducible refine (CP.out _).mono ?_; rintro _ w2 ⟨rfl, rfl⟩) | (go_at_call 23; with_reducible refine CM.out.mono ?_; rintro _ w3 ⟨rfl, hm⟩; have HM := Lib.hid hm; clear hm))
  go_ret2
  exact ⟨rfl, HM.out⟩
set_option maxHeartbeats 1000000 in
set_option maxRecDepth 100000 in
theorem do_3 (d f g0 n : Int) (s : ByteArray) (ka : Option Addr) (kn kcap : Nat) (w0 w : World) (g : Nat) (D : Dk.Disk) (h : Mine w0 w g D) (hd0 : -9223372036854775808 ≤ d) (hd1 : d ≤ 9223372036854775807) (hp : Dk.pick d = 3) :
    Calls Try.prog 13 #[.pointer (some ⟨g, 0, none⟩), .agg #[.int .i64 d, .int .i64 f, .int .i64 g0, .int .i64 n, .string s, .slice ka kn kcap]] w fun e w' => e = .returned (.tuple #[.string (⟨#[]⟩), .int .i64 (Dk.ec (Dk.cut D f n).1)]) ∧ Mine w0 w' g ((Dk.cut D f n).2) := by
  have CP := Lib.hid (fun w1 : World => pick_any d hd0 hd1 w1)
  rw [hp] at CP
  clear hp
  have hm := h.alloc (.cells #[.int .i64 d, .int .i64 f, .int .i64 g0, .int .i64 n, .string s, .slice ka kn kcap] 32)
  have CM := Lib.hid (mine_cut hm f n)
  clear h hm
  obtain ⟨RE, hRE⟩ : ∃ RE, Dk.ec (Dk.cut D f n).1 = RE := ⟨_, rfl⟩
  rw [hRE] at CM ⊢
  clear hRE
  go_enter Try.func13, Try.ntmps13
  go_wp2_with (first | (go_at_call 8; with_reducible refine (CP.out _).mono ?_; rintro _ w2 ⟨rfl, rfl⟩) | (go_at_call 26; with_reducible refine CM.out.mono ?_; rintro _ w3 ⟨rfl, hm⟩; have HM := Lib.hid hm; clear hm))
  go_ret2
  exact ⟨rfl, HM.out⟩
set_option maxHeartbeats 1000000 in
set_option maxRecDepth 100000 in
theorem do_4 (d f g0 n : Int) (s : ByteArray) (ka : Option Addr) (kn kcap : Nat) (w0 w : World) (g : Nat) (D : Dk.Disk) (h : Mine w0 w g D) (hd0 : -9223372036854775808 ≤ d) (hd1 : d ≤ 9223372036854775807) (hp : Dk.pick d = 4) :
    Calls Try.prog 13 #[.pointer (some ⟨g, 0, none⟩), .agg #[.int .i64 d, .int .i64 f, .int .i64 g0, .int .i64 n, .string s, .slice ka kn kcap]] w fun e w' => e = .returned (.tuple #[.string (⟨#[]⟩), .int .i64 (Dk.ec (Dk.turn D f g0).1)]) ∧ Mine w0 w' g ((Dk.turn D f g0).2) := by
  have CP := Lib.hid (fun w1 : World => pick_any d hd0 hd1 w1)
  rw [hp] at CP
  clear hp
  have hm := h.alloc (.cells #[.int .i64 d, .int .i64 f, .int .i64 g0, .int .i64 n, .string s, .slice ka kn kcap] 32)
  have CM := Lib.hid (mine_turn hm f g0)
  clear h hm
  obtain ⟨RE, hRE⟩ : ∃ RE, Dk.ec (Dk.turn D f g0).1 = RE := ⟨_, rfl⟩
  rw [hRE] at CM ⊢
  clear hRE
  go_enter Try.func13, Try.ntmps13
  go_wp2_with (first | (go_at_call 8; with_reducible refine (CP.out _).mono ?_; rintro _ w2 ⟨rfl, rfl⟩) | (go_at_call 25; with_reducible refine CM.out.mono ?_; rintro _ w3 ⟨rfl, hm⟩; have HM := Lib.hid hm; clear hm))
  go_ret2
  exact ⟨rfl, HM.out⟩
set_option maxHeartbeats 1000000 in
set_option maxRecDepth 100000 in
theorem do_5 (d f g0 n : Int) (s : ByteArray) (ka : Option Addr) (kn kcap : Nat) (kb koff : Nat) (ks : List Int) (w0 w : World) (g : Nat) (D : Dk.Disk) (h : Mine w0 w g D) (hd0 : -9223372036854775808 ≤ d) (hd1 : d ≤ 9223372036854775807) (hp : Dk.pick d = 5) (hk : IR w0 ka kb koff ks) (hkn : ks.length = kn) :
    Calls Try.prog 13 #[.pointer (some ⟨g, 0, none⟩), .agg #[.int .i64 d, .int .i64 f, .int .i64 g0, .int .i64 n, .string s, .slice ka kn kcap]] w fun e w' => e = .returned (.tuple #[.string (⟨#[]⟩), .int .i64 (0)]) ∧ Mine w0 w' g (Dk.crash D ks) := by
  have CP := Lib.hid (fun w1 : World => pick_any d hd0 hd1 w1)
  rw [hp] at CP
  clear hp
  have hm := h.alloc (.cells #[.int .i64 d, .int .i64 f, .int .i64 g0, .int .i64 n, .string s, .slice ka kn kcap] 32)
  have CM := Lib.hid (mine_crash_arg hm ka kb koff kn kcap ks hk hkn)
  clear h hm
  go_enter Try.func13, Try.ntmps13
  go_wp2_with (first | (go_at_call 8; with_reducible refine (CP.out _).mono ?_; rintro _ w2 ⟨rfl, rfl⟩) | (go_at_call 11; with_reducible refine CM.out.mono ?_; rintro _ w3 ⟨⟨v9, rfl⟩, hm⟩; have HM := Lib.hid hm; clear hm))
  go_ret2
  exact ⟨rfl, HM.out⟩
set_option maxHeartbeats 1000000 in
set_option maxRecDepth 100000 in
theorem do_6 (d f g0 n : Int) (s : ByteArray) (ka : Option Addr) (kn kcap : Nat) (w0 w : World) (g : Nat) (D : Dk.Disk) (h : Mine w0 w g D) (hd0 : -9223372036854775808 ≤ d) (hd1 : d ≤ 9223372036854775807) (hp : Dk.pick d = 6) (hn1 : n ≤ 9223372036854775807) :
    Calls Try.prog 13 #[.pointer (some ⟨g, 0, none⟩), .agg #[.int .i64 d, .int .i64 f, .int .i64 g0, .int .i64 n, .string s, .slice ka kn kcap]] w fun e w' => e = .returned (.tuple #[.string (⟨#[]⟩), .int .i64 (0)]) ∧ Mine w0 w' g (Dk.lose D n) := by
  have CP := Lib.hid (fun w1 : World => pick_any d hd0 hd1 w1)
  rw [hp] at CP
  clear hp
  have hm := h.alloc (.cells #[.int .i64 d, .int .i64 f, .int .i64 g0, .int .i64 n, .string s, .slice ka kn kcap] 32)
  have CM := Lib.hid (mine_lose hm n hn1)
  clear h hm
  go_enter Try.func13, Try.ntmps13
  go_wp2_with (first | (go_at_call 8; with_reducible refine (CP.out _).mono ?_; rintro _ w2 ⟨rfl, rfl⟩) | (go_at_call 24; with_reducible refine CM.out.mono ?_; rintro _ w3 ⟨⟨v9, rfl⟩, hm⟩; have HM := Lib.hid hm; clear hm))
  go_ret2
  exact ⟨rfl, HM.out⟩
set_option maxHeartbeats 1000000 in
set_option maxRecDepth 100000 in
theorem do_7 (d f g0 n : Int) (s : ByteArray) (ka : Option Addr) (kn kcap : Nat) (w0 w : World) (g : Nat) (D : Dk.Disk) (h : Mine w0 w g D) (hd0 : -9223372036854775808 ≤ d) (hd1 : d ≤ 9223372036854775807) (hp : Dk.pick d = 7) :
    Calls Try.prog 13 #[.pointer (some ⟨g, 0, none⟩), .agg #[.int .i64 d, .int .i64 f, .int .i64 g0, .int .i64 n, .string s, .slice ka kn kcap]] w fun e w' => e = .returned (.tuple #[.string (⟨#[]⟩), .int .i64 (0)]) ∧ Mine w0 w' g (Dk.start D) := by
  have CP := Lib.hid (fun w1 : World => pick_any d hd0 hd1 w1)
  rw [hp] at CP
  clear hp
  have hm := h.alloc (.cells #[.int .i64 d, .int .i64 f, .int .i64 g0, .int .i64 n, .string s, .slice ka kn kcap] 32)
  have CM := Lib.hid (mine_start hm)
  clear h hm
  go_enter Try.func13, Try.ntmps13
  go_wp2_with (first | (go_at_call 8; with_reducible refine (CP.out _).mono ?_; rintro _ w2 ⟨rfl, rfl⟩) | (go_at_call 19; with_reducible refine CM.out.mono ?_; rintro _ w3 ⟨⟨v9, rfl⟩, hm⟩; have HM := Lib.hid hm; clear hm))
  go_ret2
  exact ⟨rfl, HM.out⟩
set_option maxHeartbeats 1000000 in
set_option maxRecDepth 100000 in
theorem do_8 (d f g0 n : Int) (s : ByteArray) (ka : Option Addr) (kn kcap : Nat) (w0 w : World) (g : Nat) (D : Dk.Disk) (h : Mine w0 w g D) (hd0 : -9223372036854775808 ≤ d) (hd1 : d ≤ 9223372036854775807) (hp : Dk.pick d = 8) :
    Calls Try.prog 13 #[.pointer (some ⟨g, 0, none⟩), .agg #[.int .i64 d, .int .i64 f, .int .i64 g0, .int .i64 n, .string s, .slice ka kn kcap]] w fun e w' => e = .returned (.tuple #[.string (enc (Dk.readE D f).1), .int .i64 (Dk.ec (Dk.readE D f).2)]) ∧ Mine w0 w' g (D) := by
  have CP := Lib.hid (fun w1 : World => pick_any d hd0 hd1 w1)
  rw [hp] at CP
  clear hp
  have hm := h.alloc (.cells #[.int .i64 d, .int .i64 f, .int .i64 g0, .int .i64 n, .string s, .slice ka kn kcap] 32)
  have CM := Lib.hid (mine_read hm f)
  clear h hm
  obtain ⟨RS, hRS⟩ : ∃ RS, enc (Dk.readE D f).1 = RS := ⟨_, rfl⟩
  rw [hRS] at CM ⊢
  clear hRS
  obtain ⟨RE, hRE⟩ : ∃ RE, Dk.ec (Dk.readE D f).2 = RE := ⟨_, rfl⟩
  rw [hRE] at CM ⊢
  clear hRE
  go_enter Try.func13, Try.ntmps13
  go_wp2_with (first | (go_at_call 8; with_reducible refine (CP.out _).mono ?_; rintro _ w2 ⟨rfl, rfl⟩) | (go_at_call 21; with_reducible refine CM.out.mono ?_; rintro _ w3 ⟨rfl, hm⟩; have HM := Lib.hid hm; clear hm))
  go_ret2
  exact ⟨rfl, HM.out⟩
set_option maxHeartbeats 1000000 in
set_option maxRecDepth 100000 in
theorem do_9 (d f g0 n : Int) (s : ByteArray) (ka : Option Addr) (kn kcap : Nat) (w0 w : World) (g : Nat) (D : Dk.Disk) (h : Mine w0 w g D) (hd0 : -9223372036854775808 ≤ d) (hd1 : d ≤ 9223372036854775807) (hp : Dk.pick d = 9) :
    Calls Try.prog 13 #[.pointer (some ⟨g, 0, none⟩), .agg #[.int .i64 d, .int .i64 f, .int .i64 g0, .int .i64 n, .string s, .slice ka kn kcap]] w fun e w' => e = .returned (.tuple #[.string (⟨#[]⟩), .int .i64 (0)]) ∧ Mine w0 w' g (D) := by
  have CP := Lib.hid (fun w1 : World => pick_any d hd0 hd1 w1)
  rw [hp] at CP
  clear hp
  have hm := h.alloc (.cells #[.int .i64 d, .int .i64 f, .int .i64 g0, .int .i64 n, .string s, .slice ka kn kcap] 32)
  have HM := Lib.hid hm
  clear h hm
  go_enter Try.func13, Try.ntmps13
  go_wp2_with (first | (go_at_call 8; with_reducible refine (CP.out _).mono ?_; rintro _ w2 ⟨rfl, rfl⟩))
  go_ret2
  exact ⟨rfl, HM.out⟩
set_option maxHeartbeats 1000000 in
set_option maxRecDepth 100000 in
theorem do_10 (d f g0 n : Int) (s : ByteArray) (ka : Option Addr) (kn kcap : Nat) (kb koff : Nat) (ks : List Int) (w0 w : World) (g : Nat) (D : Dk.Disk) (h : Mine w0 w g D) (hd0 : -9223372036854775808 ≤ d) (hd1 : d ≤ 9223372036854775807) (hp : Dk.pick d = 10) (hn1 : n ≤ 9223372036854775807) (hk : IR w0 ka kb koff ks) (hkn : ks.length = kn) (hknil : ka = none → kcap = 0) (hkl : kn ≤ 100000000) :
    Calls Try.prog 13 #[.pointer (some ⟨g, 0, none⟩), .agg #[.int .i64 d, .int .i64 f, .int .i64 g0, .int .i64 n, .string s, .slice ka kn kcap]] w fun e w' => e = .returned (.tuple #[.string (⟨#[]⟩), .int .i64 (0)]) ∧ Mine w0 w' g (Dk.arm D n ks) := by
  have CP := Lib.hid (fun w1 : World => pick_any d hd0 hd1 w1)
  rw [hp] at CP
  clear hp
  have hm := h.alloc (.cells #[.int .i64 d, .int .i64 f, .int .i64 g0, .int .i64 n, .string s, .slice ka kn kcap] 32)
  have CM := Lib.hid (mine_arm_arg hm n hn1 ka kb koff kn kcap ks hk hkn hknil hkl)
  clear h hm
  go_enter Try.func13, Try.ntmps13
  go_wp2_with (first | (go_at_call 8; with_reducible refine (CP.out _).mono ?_; rintro _ w2 ⟨rfl, rfl⟩) | (go_at_call 33; with_reducible refine CM.out.mono ?_; rintro _ w3 ⟨⟨v9, rfl⟩, hm⟩; have HM := Lib.hid hm; clear hm))
  go_ret2
  exact ⟨rfl, HM.out⟩
/-- do, whatever the act. -/
theorem do_any (a : Dk.Act) (s : ByteArray) (hs1 : s.data.toList = a.s) (ka : Option Addr) (kb koff kn kcap : Nat) (w0 w : World) (g : Nat) (D : Dk.Disk) (h : Mine w0 w g D) (hA : AC w0 a ka kb koff kn kcap) (hs : a.s.length ≤ 1000000) (hq : D.queue.length + a.s.length ≤ 1000000) (hkl : kn ≤ 100000000) :
    Calls Try.prog 13 #[.pointer (some ⟨g, 0, none⟩), .agg #[.int .i64 a.do_, .int .i64 a.f, .int .i64 a.g, .int .i64 a.n, .string s, .slice ka kn kcap]] w fun e w' => e = .returned (.tuple #[.string (enc (Dk.act D a).1.1), .int .i64 (Dk.ec (Dk.act D a).1.2)]) ∧ Mine w0 w' g (Dk.act D a).2 := by
  have hz := Lib.size_eq s
  rw [hs1] at hz
  obtain ⟨p0, p1⟩ := Dk.pick_range a.do_
  have hc : Dk.pick a.do_ = 0 ∨ Dk.pick a.do_ = 1 ∨ Dk.pick a.do_ = 2 ∨ Dk.pick a.do_ = 3 ∨ Dk.pick a.do_ = 4 ∨ Dk.pick a.do_ = 5 ∨ Dk.pick a.do_ = 6 ∨ Dk.pick a.do_ = 7 ∨ Dk.pick a.do_ = 8 ∨ Dk.pick a.do_ = 9 ∨ Dk.pick a.do_ = 10 := by omega
  rcases hc with e | e | e | e | e | e | e | e | e | e | e
  · have C := do_0 a.do_ a.f a.g a.n s ka kn kcap w0 w g D h hA.d0 hA.d1 e hA.n0 hA.n1 (by omega) (by omega)
    rw [hs1] at C
    refine C.mono fun x w' ⟨h1, h2⟩ => ?_
    unfold Dk.act
    rw [e]
    exact ⟨h1, h2⟩
  · have C := do_1 a.do_ a.f a.g a.n s ka kn kcap w0 w g D h hA.d0 hA.d1 e hA.n0 hA.n1 (by omega) (by omega)
    rw [hs1] at C
    refine C.mono fun x w' ⟨h1, h2⟩ => ?_
    unfold Dk.act
    rw [e]
    exact ⟨h1, h2⟩
  · have C := do_2 a.do_ a.f a.g a.n s ka kn kcap w0 w g D h hA.d0 hA.d1 e
    refine C.mono fun x w' ⟨h1, h2⟩ => ?_
    unfold Dk.act
    rw [e]
    exact ⟨h1, h2⟩
  · have C := do_3 a.do_ a.f a.g a.n s ka kn kcap w0 w g D h hA.d0 hA.d1 e
    refine C.mono fun x w' ⟨h1, h2⟩ => ?_
    unfold Dk.act
    rw [e]
    exact ⟨h1, h2⟩
  · have C := do_4 a.do_ a.f a.g a.n s ka kn kcap w0 w g D h hA.d0 hA.d1 e
    refine C.mono fun x w' ⟨h1, h2⟩ => ?_
    unfold Dk.act
    rw [e]
    exact ⟨h1, h2⟩
  · have C := do_5 a.do_ a.f a.g a.n s ka kn kcap kb koff a.keep w0 w g D h hA.d0 hA.d1 e hA.ir hA.len
    refine C.mono fun x w' ⟨h1, h2⟩ => ?_
    unfold Dk.act
    rw [e]
    exact ⟨h1, h2⟩
  · have C := do_6 a.do_ a.f a.g a.n s ka kn kcap w0 w g D h hA.d0 hA.d1 e hA.n1
    refine C.mono fun x w' ⟨h1, h2⟩ => ?_
    unfold Dk.act
    rw [e]
    exact ⟨h1, h2⟩
  · have C := do_7 a.do_ a.f a.g a.n s ka kn kcap w0 w g D h hA.d0 hA.d1 e
    refine C.mono fun x w' ⟨h1, h2⟩ => ?_
    unfold Dk.act
    rw [e]
    exact ⟨h1, h2⟩
  · have C := do_8 a.do_ a.f a.g a.n s ka kn kcap w0 w g D h hA.d0 hA.d1 e
    refine C.mono fun x w' ⟨h1, h2⟩ => ?_
    unfold Dk.act
    rw [e]
    exact ⟨h1, h2⟩
  · have C := do_9 a.do_ a.f a.g a.n s ka kn kcap w0 w g D h hA.d0 hA.d1 e
    refine C.mono fun x w' ⟨h1, h2⟩ => ?_
    unfold Dk.act
    rw [e]
    exact ⟨h1, h2⟩
  · have C := do_10 a.do_ a.f a.g a.n s ka kn kcap kb koff a.keep w0 w g D h hA.d0 hA.d1 e hA.n1 hA.ir hA.len hA.nil hkl
    refine C.mono fun x w' ⟨h1, h2⟩ => ?_
    unfold Dk.act
    rw [e]
    exact ⟨h1, h2⟩
end Go.Proofs.Ytbelmadbjiiodaa
namespace Go.Proofs.Ytbelmadbjiiodaa
open Go Go.RowKit
namespace Dk
theorem few_end {X : List Act} (hall : ∀ a ∈ X, bad a = false) : few X = (decide (X.length ≤ 200) && decide (atot X X.length ≤ 5000)) := by
  unfold few
  have : X.all (fun a => !bad a) = true := List.all_eq_true.2 fun a ha => by simp [hall a ha]
  rw [this]; rfl
theorem few_long {X : List Act} (h : 200 < X.length) : few X = false := by
  unfold few
  rw [show decide (X.length ≤ 200) = false by simpa using h]
  simp
theorem atot_le {X : List Act} (hr : ∀ a ∈ X, a.s.length ≤ 140737488351232 ∧ a.keep.length ≤ 140737488351232) : ∀ k, atot X k ≤ k * 281474976702464
  | 0 => by rw [atot_zero]; omega
  | k + 1 => by
    have ih := atot_le hr k
    cases h : X[k]? with
    | none =>
      have : atot X (k + 1) = atot X k := by unfold atot; rw [List.take_add_one, h]; simp
      omega
    | some x =>
      have := hr x (List.mem_of_getElem? h)
      rw [atot_succ X k x h]
      omega
end Dk
theorem LA.reach {w : World} {xa : Option Addr} {b off : Nat} {X : List Dk.Act} (h : LA w xa b off X) : ∀ a ∈ X, a.s.length ≤ 140737488351232 ∧ a.keep.length ≤ 140737488351232 := fun a ha => by
  obtain ⟨j, hj, rfl⟩ := List.getElem_of_mem ha
  obtain ⟨ka, kb, koff, kn, kcap, h1, _⟩ := h.cell j X[j] (List.getElem?_eq_getElem hj)
  exact ⟨h1.rs, by rw [h1.len]; exact h1.rk⟩
theorem acells_at {w : World} {b o : Nat} {a : Dk.Act} {ka : Option Addr} {kn kcap : Nat} (h : ∀ i v, (acells a ka kn kcap)[i]? = some v → w.cell? ⟨b, o + i, none⟩ = some v) :
    w.cell? ⟨b, o, none⟩ = some (.int .i64 a.do_) ∧ w.cell? ⟨b, o + 1, none⟩ = some (.int .i64 a.f) ∧ w.cell? ⟨b, o + 2, none⟩ = some (.int .i64 a.g) ∧ w.cell? ⟨b, o + 3, none⟩ = some (.int .i64 a.n) ∧ w.cell? ⟨b, o + 4, none⟩ = some (.string (enc a.s)) ∧ w.cell? ⟨b, o + 5, none⟩ = some (.slice ka kn kcap) :=
  ⟨h 0 _ rfl, h 1 _ rfl, h 2 _ rfl, h 3 _ rfl, h 4 _ rfl, h 5 _ rfl⟩
set_option maxHeartbeats 1000000 in
set_option maxRecDepth 100000 in
theorem few_short (X : List Dk.Act) (n : Nat) (hn : X.length = n) (hN : n ≤ 9223372036854775807) (xa : Option Addr) (b off cap : Nat) (w : World) (hl : LA w xa b off X) (hbig : n ≤ 200) :
    Calls Try.prog 6 #[.slice xa n cap] w fun e w' => e = .returned (.bool (Dk.few X)) ∧ Below w.heap.size w w' := by
  have HL := Lib.hid hl
  have HN := Lib.hid hn
  clear hl hn
  go_enter Try.func6, Try.ntmps6
  go_wp2
  go_loopw [3, 4] (fun x3 i wr => ∃ k : Nat, i = .int .i64 k ∧ k ≤ n ∧ x3 = .int .i64 ((Dk.atot X k : Nat) : Int) ∧ Hid (∀ a ∈ X.take k, Dk.bad a = false) ∧ Hid (∃ q, wr = w.drewN q)) (fun _ i _ => n - (intOf i).toNat)
  case atStart => exact ⟨0, rfl, Nat.zero_le _, by rw [Dk.atot_zero]; rfl, (fun a ha => by simp at ha), ⟨0, rfl⟩⟩
  case round =>
    obtain ⟨k, rfl, hk, hs3, hB, hW⟩ := hrel
    have HBW := Lib.hid (show Below w.heap.size w wr from by obtain ⟨q, rfl⟩ := hW.out; exact below_drewN (Below.refl _ _) q)
    by_cases hlt : k < n
    · obtain ⟨a, ha⟩ : ∃ a, X[k]? = some a := ⟨_, List.getElem?_eq_getElem (by rw [HN.out]; exact hlt)⟩
      obtain rfl := HL.out.at_ (by rw [HN.out]; omega)
      obtain ⟨ka, kb, koff, kn, kcap, hac, hcs⟩ := (HL.out.below HBW.out).cell k a ha
      obtain ⟨c0, c1, c2, c3, c4, c5⟩ := acells_at hcs
      have hTS := Lib.hid (Dk.atot_succ X k a ha)
      have hTK := Lib.hid (show X.take (k + 1) = X.take k ++ [a] from by rw [List.take_add_one, ha]; rfl)
      have HA := Lib.hid ha
      obtain ⟨t, ht⟩ : ∃ t, enc a.s = t := ⟨_, rfl⟩
      have hts : t.size = a.s.length := by rw [← ht, Lib.size_eq]; rfl
      have htr : t.size ≤ 140737488351232 := by rw [hts]; exact hac.rs
      have hkr := hac.rk
      have hkl := hac.len
      rw [ht] at c4
      have HTS := Lib.hid hts
      have HKL := Lib.hid hkl
      obtain ⟨N, hNN⟩ : ∃ N, a.n = N := ⟨_, rfl⟩
      rw [hNN] at c3
      have HNN := Lib.hid hNN
      obtain rfl := hs3
      have h49 : Dk.atot X k ≤ 200 * 281474976702464 := Nat.le_trans (Dk.atot_le HL.out.reach k) (Nat.mul_le_mul_right _ (by omega))
      obtain ⟨z, hz⟩ : ∃ z, Dk.atot X k = z := ⟨_, rfl⟩
      rw [hz] at h49 hTS
      rw [hz]
      clear hz
      clear ha hac hcs ht hts hkl hNN c0 c1 c2
      by_cases b1 : (4000 : Int) ≤ N
      · by_cases b2 : N ≤ 16777216
        · have HF := Lib.hid (Dk.few_bad HA.out (show Dk.bad a = true from by unfold Dk.bad; rw [HNN.out]; simp [b1, b2]))
          go_wp2
          go_ret
          exact ⟨ret_bool HF.out.symm, HBW.out⟩
        · have HBD := Lib.hid (show Dk.bad a = false from by unfold Dk.bad; rw [HNN.out]; simp [b2] <;> omega)
          have b3 : decide (N ≤ (16777216 : Int)) = false := by simpa using b2
          go_wp2
          go_quiet (fail)
          go_wp2
          go_roundw
          case rel => exact ⟨k + 1, by go_num, by omega, by rw [hTS.out, ← HTS.out, HKL.out]; first | done | go_num, (fun x hx => by
            rw [hTK.out] at hx
            rcases List.mem_append.1 hx with h | h
            · exact hB.out x h
            · simp at h; subst h; exact HBD.out), by obtain ⟨q, rfl⟩ := hW.out; exact ⟨_, World.drewN_drewN _ _ _⟩⟩
          case measure => simp [intOf]; omega
      · have HBD := Lib.hid (show Dk.bad a = false from by unfold Dk.bad; rw [HNN.out]; simp; omega)
        have b3 : decide ((4000 : Int) ≤ N) = false := by simpa using b1
        go_wp2
        go_quiet (fail)
        go_wp2
        go_roundw
        case rel => exact ⟨k + 1, by go_num, by omega, by rw [hTS.out, ← HTS.out, HKL.out]; first | done | go_num, (fun x hx => by
          rw [hTK.out] at hx
          rcases List.mem_append.1 hx with h | h
          · exact hB.out x h
          · simp at h; subst h; exact HBD.out), by obtain ⟨q, rfl⟩ := hW.out; exact ⟨_, World.drewN_drewN _ _ _⟩⟩
        case measure => simp [intOf]; omega
    · obtain rfl : k = n := by omega
      obtain rfl := hs3
      have hfe := Dk.few_end (X := X) (fun a ha => hB.out a (by rw [List.take_of_length_le (by rw [HN.out]; exact Nat.le_refl _)]; exact ha))
      rw [HN.out] at hfe
      have d0 : decide (k ≤ 200) = true := by simpa using hbig
      rw [d0, Bool.true_and] at hfe
      have d1 : (k : Int) ≤ 200 := by omega
      obtain ⟨z, hz⟩ : ∃ z, Dk.atot X k = z := ⟨_, rfl⟩
      rw [hz] at hfe
      rw [hz]
      clear hz d0
      by_cases c1 : z ≤ 5000
      · have HF := Lib.hid (show Dk.few X = true from by rw [hfe]; simpa using c1)
        have d3 : (z : Int) ≤ 5000 := by omega
        clear hfe
        go_wp2
        go_ret
        exact ⟨ret_bool HF.out.symm, HBW.out⟩
      · have HF := Lib.hid (show Dk.few X = false from by rw [hfe]; simpa using c1)
        have d3 : ¬ ((z : Int) ≤ 5000) := by omega
        have d4 : decide ((z : Int) ≤ 5000) = false := by simpa using d3
        clear hfe
        go_wp2
        go_ret
        exact ⟨ret_bool HF.out.symm, HBW.out⟩
set_option maxHeartbeats 1000000 in
set_option maxRecDepth 100000 in
theorem few_long (X : List Dk.Act) (n : Nat) (hn : X.length = n) (hN : n ≤ 9223372036854775807) (xa : Option Addr) (b off cap : Nat) (w : World) (hl : LA w xa b off X) (hbig : 200 < n) :
    Calls Try.prog 6 #[.slice xa n cap] w fun e w' => e = .returned (.bool (Dk.few X)) ∧ Below w.heap.size w w' := by
  have HL := Lib.hid hl
  have HN := Lib.hid hn
  clear hl hn
  go_enter Try.func6, Try.ntmps6
  go_wp2
  go_loopw [3, 4] (fun x3 i wr => ∃ k : Nat, i = .int .i64 k ∧ k ≤ n ∧ (∃ z, x3 = .int .i64 z) ∧ Hid (∀ a ∈ X.take k, Dk.bad a = false) ∧ Hid (∃ q, wr = w.drewN q)) (fun _ i _ => n - (intOf i).toNat)
  case atStart => exact ⟨0, rfl, Nat.zero_le _, ⟨0, rfl⟩, (fun a ha => by simp at ha), ⟨0, rfl⟩⟩
  case round =>
    obtain ⟨k, rfl, hk, hs3, hB, hW⟩ := hrel
    have HBW := Lib.hid (show Below w.heap.size w wr from by obtain ⟨q, rfl⟩ := hW.out; exact below_drewN (Below.refl _ _) q)
    by_cases hlt : k < n
    · obtain ⟨a, ha⟩ : ∃ a, X[k]? = some a := ⟨_, List.getElem?_eq_getElem (by rw [HN.out]; exact hlt)⟩
      obtain rfl := HL.out.at_ (by rw [HN.out]; omega)
      obtain ⟨ka, kb, koff, kn, kcap, hac, hcs⟩ := (HL.out.below HBW.out).cell k a ha
      obtain ⟨c0, c1, c2, c3, c4, c5⟩ := acells_at hcs
      have hTS := Lib.hid (Dk.atot_succ X k a ha)
      have hTK := Lib.hid (show X.take (k + 1) = X.take k ++ [a] from by rw [List.take_add_one, ha]; rfl)
      have HA := Lib.hid ha
      obtain ⟨t, ht⟩ : ∃ t, enc a.s = t := ⟨_, rfl⟩
      have hts : t.size = a.s.length := by rw [← ht, Lib.size_eq]; rfl
      have htr : t.size ≤ 140737488351232 := by rw [hts]; exact hac.rs
      have hkr := hac.rk
      have hkl := hac.len
      rw [ht] at c4
      have HTS := Lib.hid hts
      have HKL := Lib.hid hkl
      obtain ⟨N, hNN⟩ : ∃ N, a.n = N := ⟨_, rfl⟩
      rw [hNN] at c3
      have HNN := Lib.hid hNN
      obtain ⟨z, rfl⟩ := hs3
      clear ha hac hcs ht hts hkl hNN c0 c1 c2
      by_cases b1 : (4000 : Int) ≤ N
      · by_cases b2 : N ≤ 16777216
        · have HF := Lib.hid (Dk.few_bad HA.out (show Dk.bad a = true from by unfold Dk.bad; rw [HNN.out]; simp [b1, b2]))
          go_wp2
          go_ret
          exact ⟨ret_bool HF.out.symm, HBW.out⟩
        · have HBD := Lib.hid (show Dk.bad a = false from by unfold Dk.bad; rw [HNN.out]; simp [b2] <;> omega)
          have b3 : decide (N ≤ (16777216 : Int)) = false := by simpa using b2
          go_wp2
          go_quiet (fail)
          go_wp2
          go_roundw
          case rel => exact ⟨k + 1, by go_num, by omega, ⟨_, rfl⟩, (fun x hx => by
            rw [hTK.out] at hx
            rcases List.mem_append.1 hx with h | h
            · exact hB.out x h
            · simp at h; subst h; exact HBD.out), by obtain ⟨q, rfl⟩ := hW.out; exact ⟨_, World.drewN_drewN _ _ _⟩⟩
          case measure => simp [intOf]; omega
      · have HBD := Lib.hid (show Dk.bad a = false from by unfold Dk.bad; rw [HNN.out]; simp; omega)
        have b3 : decide ((4000 : Int) ≤ N) = false := by simpa using b1
        go_wp2
        go_quiet (fail)
        go_wp2
        go_roundw
        case rel => exact ⟨k + 1, by go_num, by omega, ⟨_, rfl⟩, (fun x hx => by
          rw [hTK.out] at hx
          rcases List.mem_append.1 hx with h | h
          · exact hB.out x h
          · simp at h; subst h; exact HBD.out), by obtain ⟨q, rfl⟩ := hW.out; exact ⟨_, World.drewN_drewN _ _ _⟩⟩
        case measure => simp [intOf]; omega
    · obtain rfl : k = n := by omega
      obtain ⟨z, rfl⟩ := hs3
      have HF := Lib.hid (Dk.few_long (X := X) (by rw [HN.out]; exact hbig))
      have d1 : ¬ ((k : Int) ≤ 200) := by omega
      have d2 : decide ((k : Int) ≤ 200) = false := by simpa using d1
      go_wp2
      go_ret
      exact ⟨ret_bool HF.out.symm, HBW.out⟩
theorem few_any (X : List Dk.Act) (n : Nat) (hn : X.length = n) (hN : n ≤ 9223372036854775807) (xa : Option Addr) (b off cap : Nat) (w : World) (hl : LA w xa b off X) :
    Calls Try.prog 6 #[.slice xa n cap] w fun e w' => e = .returned (.bool (Dk.few X)) ∧ Below w.heap.size w w' := by
  by_cases h : n ≤ 200
  · exact few_short X n hn hN xa b off cap w hl h
  · exact few_long X n hn hN xa b off cap w hl (by omega)
end Go.Proofs.Ytbelmadbjiiodaa
