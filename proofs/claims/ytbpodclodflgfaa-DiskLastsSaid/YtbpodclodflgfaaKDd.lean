/-
  DiskDown, its parts.
-/
import Derived.Test.YtbpodclodflgfaaKAo
import Derived.Test.YtbpodclodflgfaaKX2
namespace Go.Proofs.Ytbpodclodflgfaa
open Go Go.RowKit
namespace Dk
theorem act_queue (D : Disk) (h0 : 0 ≤ D.armed) (a : Act) : (act D a).2.queue.length ≤ D.queue.length + a.s.length := by
  have hw := write_queue D h0 a.f a.n a.s
  have hf := flush_queue D h0 a.f
  have hc := cut_queue D h0 a.f a.n
  have ht := turn_queue D h0 a.f a.g
  have hr := crash_queue D a.keep
  unfold act
  split
  · exact hw
  split
  · show (flush D a.f).2.queue.length ≤ _
    omega
  split
  · show (cut D a.f a.n).2.queue.length ≤ _
    omega
  split
  · show (turn D a.f a.g).2.queue.length ≤ _
    omega
  split
  · show (crash D a.keep).queue.length ≤ _
    omega
  split
  · exact Nat.le_add_right _ _
  split
  · exact Nat.le_add_right _ _
  split
  · exact Nat.le_add_right _ _
  split
  · exact Nat.le_add_right _ _
  · exact Nat.le_add_right _ _
/-- The machine that DiskDown comes to. -/
def rest (D : Disk) : Disk := start (arm D 0 [])
theorem rest_down (D : Disk) : (rest D).down = false := rfl
theorem rest_armed (D : Disk) : (rest D).armed = 0 := rfl
theorem crashed_down (D : Disk) (ks : List Int) : (crash D ks).down = true := by
  unfold crash
  split
  · assumption
  · rfl
theorem few_all {X : List Act} (h : few X = true) : X.length ≤ 200 ∧ atot X X.length ≤ 5000 := by
  unfold few at h
  simp at h
  omega
theorem atot_each {X : List Act} : ∀ (n k : Nat) (a : Act), X[k]? = some a → k < n → atot X k + a.s.length + a.keep.length ≤ atot X n
  | 0, _, _, _, h => by omega
  | n + 1, k, a, ha, h => by
    rcases Nat.lt_or_ge k n with h1 | h1
    · have ih := atot_each n k a ha h1
      cases hn : X[n]? with
      | none =>
        have : atot X (n + 1) = atot X n := by unfold atot; rw [List.take_add_one, hn]; simp
        omega
      | some x => have := atot_succ X n x hn; omega
    · obtain rfl : k = n := by omega
      rw [atot_succ X k a ha]
      exact Nat.le_refl _
end Dk
theorem Mine.armed {w0 w : World} {g : Nat} {D : Dk.Disk} (h : Mine w0 w g D) : 0 ≤ D.armed := by
  obtain ⟨vs, q, k, hv⟩ := h.at_
  exact hv.good.armed0
theorem la_made {w : World} {a : Dk.Act} {ka : Option Addr} {kb koff kn kcap : Nat} (h : AC w a ka kb koff kn kcap) : LA (w.alloc (.cells (acells a ka kn kcap).toArray 32)) (some ⟨w.heap.size, 0, none⟩) w.heap.size 0 [a] :=
  ⟨fun _ => rfl, fun j x hj => by
    have hj0 : j < 1 := (List.getElem?_eq_some_iff.1 hj).1
    obtain rfl : j = 0 := by omega
    obtain rfl : a = x := by simpa using hj
    refine ⟨ka, kb, koff, kn, kcap, h.below (below_new w _), fun i v hv => ?_⟩
    have := (Blk.made w (acells a ka kn kcap).toArray 32).cell (j := i) (by simpa using hv)
    rw [show 0 + 0 * 6 + i = i by omega]
    exact this, fun _ => by rw [alloc_size]; omega⟩
section
variable {w0 w : World} {d c : Nat} {D E : Dk.Disk}
theorem two_crash_lit (h : Two w0 w d c D E) (ks : List Int) (hl : ks.length ≤ 1000) :
    Calls Try.prog 13 #[.pointer (some ⟨d, 0, none⟩), .slice (some ⟨w.heap.size, 0, none⟩) ks.length ks.length] (w.alloc (.cells (iv ks).toArray 3)) fun e w' => (∃ v, e = .returned v) ∧ Two w0 w' d c (Dk.crash D ks) E := by
  have h2 := h.quiet (below_new w (.cells (iv ks).toArray 3))
  obtain ⟨vs, q, k, hv⟩ := h.one.at_
  have hb : (w.alloc (.cells (iv ks).toArray 3)).heap[w.heap.size]? = some (.cells (iv ks).toArray 3 (0, 0)) := heap_alloc_new w _
  have hn : ¬ Foot (w.alloc (.cells (iv ks).toArray 3)) d w.heap.size := (hv.alloc _).not_foot hb (by decide) (by decide) (by decide)
  have C := crash_any d D (some ⟨w.heap.size, 0, none⟩) w.heap.size 0 ks.length ks.length ks (w.alloc (.cells (iv ks).toArray 3)) h2.one.at_ (ir_made w ks hl) rfl (fun _ => hn)
  exact C.mono fun _ _ ⟨x, y, z⟩ => ⟨x, h2.left y z⟩
theorem two_write (h : Two w0 w d c D E) (f at_ : Int) (h0 : -9223372036854775808 ≤ at_) (h1 : at_ ≤ 9223372036854775807) (s : ByteArray) (hs : s.size ≤ 1000000) (hq : D.queue.length + s.size ≤ 1000000) :
    Calls Try.prog 12 #[.pointer (some ⟨d, 0, none⟩), .int .i64 f, .int .i64 at_, .string s] w fun e w' => e = .returned (.int .i64 (Dk.ec (Dk.write D f at_ s.data.toList).1)) ∧ Two w0 w' d c (Dk.write D f at_ s.data.toList).2 E :=
  (write_any d D f at_ h0 h1 s hs hq w h.one.at_).mono fun _ _ ⟨x, y, z⟩ => ⟨x, h.left y z⟩
theorem two_cut (h : Two w0 w d c D E) (f n : Int) : Calls Try.prog 32 #[.pointer (some ⟨d, 0, none⟩), .int .i64 f, .int .i64 n] w fun e w' => e = .returned (.int .i64 (Dk.ec (Dk.cut D f n).1)) ∧ Two w0 w' d c (Dk.cut D f n).2 E :=
  (cut_any d D f n w h.one.at_).mono fun _ _ ⟨x, y, z⟩ => ⟨x, h.left y z⟩
theorem two_turn (h : Two w0 w d c D E) (f n : Int) : Calls Try.prog 31 #[.pointer (some ⟨d, 0, none⟩), .int .i64 f, .int .i64 n] w fun e w' => e = .returned (.int .i64 (Dk.ec (Dk.turn D f n).1)) ∧ Two w0 w' d c (Dk.turn D f n).2 E :=
  (turn_any d D f n w h.one.at_).mono fun _ _ ⟨x, y, z⟩ => ⟨x, h.left y z⟩
theorem two_down (h : Two w0 w d c D E) : Calls Try.prog 17 #[.pointer (some ⟨d, 0, none⟩)] w fun e w' => e = .returned (.bool D.down) ∧ w = w' := mine_down h.one
end
/-- A machine that is down, with a second disk beside it. -/
structure TD (w0 w : World) (d c : Nat) (D E : Dk.Disk) : Prop where
  two : Two w0 w d c D E
  down : D.down = true
  q : D.queue.length ≤ 5000
section
variable {w0 w : World} {d c : Nat} {D E : Dk.Disk}
theorem td_read (h : TD w0 w d c D E) (f : Int) : Calls Try.prog 23 #[.pointer (some ⟨d, 0, none⟩), .int .i64 f] w fun e w' => e = .returned (.tuple #[.string ⟨#[]⟩, .int .i64 8]) ∧ TD w0 w' d c D E :=
  (two_read h.two f).mono fun _ _ ⟨x, y⟩ => by
    rw [Dk.down_read h.down] at x
    exact ⟨x, y, h.down, h.q⟩
theorem td_crash (h : TD w0 w d c D E) : Calls Try.prog 13 #[.pointer (some ⟨d, 0, none⟩), .slice (some ⟨w.heap.size, 0, none⟩) 2 2] (w.alloc (.cells #[.int .i64 1, .int .i64 1] 3)) fun e w' => (∃ v, e = .returned v) ∧ TD w0 w' d c D E :=
  (two_crash_lit h.two [1, 1] (by decide)).mono fun _ _ ⟨x, y⟩ => by
    rw [Dk.down_crash h.down] at y
    exact ⟨x, y, h.down, h.q⟩
theorem td_write (h : TD w0 w d c D E) (f at_ : Int) (h0 : -9223372036854775808 ≤ at_) (h1 : at_ ≤ 9223372036854775807) (s : ByteArray) (hs : s.size ≤ 5000) :
    Calls Try.prog 12 #[.pointer (some ⟨d, 0, none⟩), .int .i64 f, .int .i64 at_, .string s] w fun e w' => e = .returned (.int .i64 8) ∧ TD w0 w' d c D E :=
  (two_write h.two f at_ h0 h1 s (by omega) (by have := h.q; omega)).mono fun _ _ ⟨x, y⟩ => by
    rw [Dk.down_write h.down] at x y
    exact ⟨x, y, h.down, h.q⟩
theorem td_flush (h : TD w0 w d c D E) (f : Int) : Calls Try.prog 29 #[.pointer (some ⟨d, 0, none⟩), .int .i64 f] w fun e w' => e = .returned (.int .i64 8) ∧ TD w0 w' d c D E :=
  (two_flush h.two f).mono fun _ _ ⟨x, y⟩ => by
    rw [Dk.down_flush h.down] at x y
    exact ⟨x, y, h.down, h.q⟩
theorem td_cut (h : TD w0 w d c D E) (f n : Int) : Calls Try.prog 32 #[.pointer (some ⟨d, 0, none⟩), .int .i64 f, .int .i64 n] w fun e w' => e = .returned (.int .i64 8) ∧ TD w0 w' d c D E :=
  (two_cut h.two f n).mono fun _ _ ⟨x, y⟩ => by
    rw [Dk.down_cut h.down] at x y
    exact ⟨x, y, h.down, h.q⟩
theorem td_turn (h : TD w0 w d c D E) (f n : Int) : Calls Try.prog 31 #[.pointer (some ⟨d, 0, none⟩), .int .i64 f, .int .i64 n] w fun e w' => e = .returned (.int .i64 8) ∧ TD w0 w' d c D E :=
  (two_turn h.two f n).mono fun _ _ ⟨x, y⟩ => by
    rw [Dk.down_turn h.down] at x y
    exact ⟨x, y, h.down, h.q⟩
theorem td_down (h : TD w0 w d c D E) : Calls Try.prog 17 #[.pointer (some ⟨d, 0, none⟩)] w fun e w' => e = .returned (.bool true) ∧ w = w' :=
  (two_down h.two).mono fun _ _ ⟨x, y⟩ => ⟨by rw [x, h.down], y⟩
end
/-- A machine at rest: up, nothing armed. -/
structure MR (w0 w : World) (d : Nat) (D : Dk.Disk) : Prop where
  mine : Mine w0 w d D
  down : D.down = false
  armed : D.armed = 0
  q : D.queue.length ≤ 5000
section
variable {w0 w : World} {d : Nat} {D : Dk.Disk} {f : Int}
theorem mr_write (h : MR w0 w d D) (hf : f < 0 ∨ 11 < f) (at_ : Int) (h0 : -9223372036854775808 ≤ at_) (h1 : at_ ≤ 9223372036854775807) (s : ByteArray) (hs : s.size ≤ 5000) :
    Calls Try.prog 12 #[.pointer (some ⟨d, 0, none⟩), .int .i64 f, .int .i64 at_, .string s] w fun e w' => e = .returned (.int .i64 1) ∧ MR w0 w' d D :=
  (mine_write h.mine f at_ h0 h1 s (by omega) (by have := h.q; omega)).mono fun _ _ ⟨x, y⟩ => by
    rw [Dk.arg_write h.down h.armed hf] at x y
    exact ⟨x, y, h.down, h.armed, h.q⟩
theorem mr_flush (h : MR w0 w d D) (hf : f < 0 ∨ 11 < f) : Calls Try.prog 29 #[.pointer (some ⟨d, 0, none⟩), .int .i64 f] w fun e w' => e = .returned (.int .i64 1) ∧ MR w0 w' d D :=
  (mine_flush h.mine f).mono fun _ _ ⟨x, y⟩ => by
    rw [Dk.arg_flush h.down h.armed hf] at x y
    exact ⟨x, y, h.down, h.armed, h.q⟩
theorem mr_cut (h : MR w0 w d D) (hf : f < 0 ∨ 11 < f) (n : Int) : Calls Try.prog 32 #[.pointer (some ⟨d, 0, none⟩), .int .i64 f, .int .i64 n] w fun e w' => e = .returned (.int .i64 1) ∧ MR w0 w' d D :=
  (mine_cut h.mine f n).mono fun _ _ ⟨x, y⟩ => by
    rw [Dk.arg_cut h.down h.armed hf] at x y
    exact ⟨x, y, h.down, h.armed, h.q⟩
theorem mr_turn (h : MR w0 w d D) (hf : f < 0 ∨ 11 < f) (n : Int) : Calls Try.prog 31 #[.pointer (some ⟨d, 0, none⟩), .int .i64 f, .int .i64 n] w fun e w' => e = .returned (.int .i64 1) ∧ MR w0 w' d D :=
  (mine_turn h.mine f n).mono fun _ _ ⟨x, y⟩ => by
    rw [Dk.arg_turn h.down h.armed hf] at x y
    exact ⟨x, y, h.down, h.armed, h.q⟩
theorem mr_turn2 (h : MR w0 w d D) (hf : f < 0 ∨ 11 < f) : Calls Try.prog 31 #[.pointer (some ⟨d, 0, none⟩), .int .i64 1, .int .i64 f] w fun e w' => e = .returned (.int .i64 1) ∧ MR w0 w' d D :=
  (mine_turn h.mine 1 f).mono fun _ _ ⟨x, y⟩ => by
    rw [Dk.arg_turn2 h.down h.armed (by decide) (by decide) hf] at x y
    exact ⟨x, y, h.down, h.armed, h.q⟩
theorem mr_size (h : MR w0 w d D) (hf : f < 0 ∨ 11 < f) : Calls Try.prog 19 #[.pointer (some ⟨d, 0, none⟩), .int .i64 f] w fun e w' => e = .returned (.int .i64 0) ∧ MR w0 w' d D :=
  (mine_size h.mine f).mono fun _ _ ⟨x, y⟩ => by
    have hz : Dk.size D f = 0 := by unfold Dk.size; rw [if_neg (by omega)]
    rw [hz] at x
    exact ⟨x, y, h.down, h.armed, h.q⟩
end
/-- The act that came in lies in a block of the call's own. -/
structure PA (w : World) (p : Nat) (a : Dk.Act) (ka : Option Addr) (kn kcap : Nat) : Prop where
  cells : w.cell? ⟨p, 0, none⟩ = some (.int .i64 a.do_) ∧ w.cell? ⟨p, 1, none⟩ = some (.int .i64 a.f) ∧ w.cell? ⟨p, 2, none⟩ = some (.int .i64 a.g) ∧ w.cell? ⟨p, 3, none⟩ = some (.int .i64 a.n) ∧ w.cell? ⟨p, 4, none⟩ = some (.string (enc a.s)) ∧ w.cell? ⟨p, 5, none⟩ = some (.slice ka kn kcap)
  lt : p < w.heap.size
theorem PA.below {w w' : World} {p : Nat} {a : Dk.Act} {ka : Option Addr} {kn kcap : Nat} (h : PA w p a ka kn kcap) (hb : Below w.heap.size w w') : PA w' p a ka kn kcap := by
  obtain ⟨c0, c1, c2, c3, c4, c5⟩ := h.cells
  exact ⟨⟨(hb.cell (p := ⟨p, 0, none⟩) h.lt).trans c0, (hb.cell (p := ⟨p, 1, none⟩) h.lt).trans c1, (hb.cell (p := ⟨p, 2, none⟩) h.lt).trans c2, (hb.cell (p := ⟨p, 3, none⟩) h.lt).trans c3, (hb.cell (p := ⟨p, 4, none⟩) h.lt).trans c4, (hb.cell (p := ⟨p, 5, none⟩) h.lt).trans c5⟩, Nat.lt_of_lt_of_le h.lt hb.size⟩
theorem pa_made (w : World) (a : Dk.Act) (ka : Option Addr) (kn kcap : Nat) : PA (w.alloc (.cells (acells a ka kn kcap).toArray 32)) w.heap.size a ka kn kcap := by
  have B := Blk.made w (acells a ka kn kcap).toArray 32
  exact ⟨⟨B.cell (j := 0) rfl, B.cell (j := 1) rfl, B.cell (j := 2) rfl, B.cell (j := 3) rfl, B.cell (j := 4) rfl, B.cell (j := 5) rfl⟩, by rw [alloc_size]; omega⟩
/-- The base behind 'small': the arguments, and the act's own block. -/
structure Base (w w2 : World) (xa : Option Addr) (b off : Nat) (X : List Dk.Act) (a : Dk.Act) (ka : Option Addr) (kb koff kn kcap : Nat) : Prop where
  up : Below w.heap.size w w2
  la : LA w2 xa b off X
  ac : AC w2 a ka kb koff kn kcap
  pa : PA w2 w.heap.size a ka kn kcap
theorem base_of {w w2 : World} {xa : Option Addr} {b off : Nat} {X : List Dk.Act} {a : Dk.Act} {ka : Option Addr} {kb koff kn kcap : Nat} (hl : LA w xa b off X) (hA : AC w a ka kb koff kn kcap)
    (hb : Below (w.alloc (.cells #[.int .i64 a.do_, .int .i64 a.f, .int .i64 a.g, .int .i64 a.n, .string (enc a.s), .slice ka kn kcap] 32)).heap.size (w.alloc (.cells #[.int .i64 a.do_, .int .i64 a.f, .int .i64 a.g, .int .i64 a.n, .string (enc a.s), .slice ka kn kcap] 32)) w2) : Base w w2 xa b off X a ka kb koff kn kcap := by
  have hu : Below w.heap.size w w2 := below_to (below_new w _) (Nat.le_refl _) hb
  exact ⟨hu, hl.below hu, hA.below hu, (pa_made w a ka kn kcap).below hb⟩
theorem few_len {a : Dk.Act} (h : Dk.few [a] = true) : a.s.length ≤ 5000 := by
  obtain ⟨_, h2⟩ := Dk.few_all h
  have := Dk.atot_each (X := [a]) 1 0 a rfl (by omega)
  have e : Dk.atot [a] [a].length = Dk.atot [a] 1 := rfl
  omega
section
variable {w0 w : World} {d c : Nat} {D E : Dk.Disk}
theorem rest_start (h : Mine w0 w d (Dk.arm D 0 [])) (hq : D.queue.length ≤ 5000) : Calls Try.prog 21 #[.pointer (some ⟨d, 0, none⟩)] w fun e w' => (∃ v, e = .returned v) ∧ MR w0 w' d (Dk.rest D) :=
  (mine_start h).mono fun _ _ ⟨x, y⟩ => ⟨x, y, rfl, rfl, hq⟩
/-- A machine that is down. -/
structure MC (w0 w : World) (d : Nat) (D : Dk.Disk) : Prop where
  mine : Mine w0 w d D
  down : D.down = true
  q : D.queue.length ≤ 5000
theorem mr_crash (h : MR w0 w d D) : Calls Try.prog 13 #[.pointer (some ⟨d, 0, none⟩), .slice none 0 0] w fun e w' => (∃ v, e = .returned v) ∧ MC w0 w' d (Dk.crash D []) :=
  (mine_crash_nil h.mine).mono fun _ _ ⟨x, y⟩ => ⟨x, y, Dk.crashed_down D [], by have := Dk.crash_queue D []; have := h.q; omega⟩
theorem mc_copy (h : MC w0 w d D) : Calls Try.prog 11 #[.pointer (some ⟨d, 0, none⟩)] w fun e w' => e = .returned (.pointer (some ⟨w.heap.size, 0, none⟩)) ∧ TD w0 w' d w.heap.size D D :=
  (two_copy h.mine).mono fun _ _ ⟨x, y⟩ => ⟨x, y, h.down, h.q⟩
theorem td_start2 (h : TD w0 w d c D E) : Calls Try.prog 21 #[.pointer (some ⟨c, 0, none⟩)] w fun e w' => (∃ v, e = .returned v) ∧ TD w0 w' d c D (Dk.start E) :=
  (two_start h.two.swap).mono fun _ _ ⟨x, y⟩ => ⟨x, y.swap, h.down, h.q⟩
/-- Two machines that are up, and the same. -/
structure TU (w0 w : World) (d c : Nat) (D : Dk.Disk) : Prop where
  two : Two w0 w d c D D
  down : D.down = false
theorem td_start (h : TD w0 w d c D (Dk.start D)) : Calls Try.prog 21 #[.pointer (some ⟨d, 0, none⟩)] w fun e w' => (∃ v, e = .returned v) ∧ TU w0 w' d c (Dk.start D) :=
  (two_start h.two).mono fun _ _ ⟨x, y⟩ => ⟨x, y, rfl⟩
theorem tu_read (h : TU w0 w d c D) (f : Int) : Calls Try.prog 23 #[.pointer (some ⟨d, 0, none⟩), .int .i64 f] w fun e w' => e = .returned (.tuple #[.string (enc (Dk.readE D f).1), .int .i64 (Dk.ec (Dk.readE D f).2)]) ∧ TU w0 w' d c D :=
  (two_read h.two f).mono fun _ _ ⟨x, y⟩ => ⟨x, y, h.down⟩
theorem tu_read2 (h : TU w0 w d c D) (f : Int) : Calls Try.prog 23 #[.pointer (some ⟨c, 0, none⟩), .int .i64 f] w fun e w' => e = .returned (.tuple #[.string (enc (Dk.readE D f).1), .int .i64 (Dk.ec (Dk.readE D f).2)]) ∧ TU w0 w' d c D :=
  (two_read h.two.swap f).mono fun _ _ ⟨x, y⟩ => ⟨x, y.swap, h.down⟩
theorem tu_down (h : TU w0 w d c D) : Calls Try.prog 17 #[.pointer (some ⟨d, 0, none⟩)] w fun e w' => e = .returned (.bool false) ∧ w = w' :=
  (two_down h.two).mono fun _ _ ⟨x, y⟩ => ⟨by rw [x, h.down], y⟩
end
end Go.Proofs.Ytbpodclodflgfaa
