/-
  A disk of the call's own: each call on it, in one form.
-/
import Derived.Test.YtbpodclodflgfaaKR2
import Derived.Test.YtbpodclodflgfaaKS
import Derived.Test.YtbpodclodflgfaaKT
namespace Go.Proofs.Ytbpodclodflgfaa
open Go Go.RowKit
/-- The world is as w0 was, but for new blocks; the disk g is new too. -/
structure Mine (w0 w : World) (g : Nat) (D : Dk.Disk) : Prop where
  at_ : DiskAt w g D
  below : Below w0.heap.size w0 w
  foot : ∀ b, Foot w g b → w0.heap.size ≤ b
theorem below_mv {w0 w w' : World} {g : Nat} (h : Below w0.heap.size w0 w) (hf : ∀ b, Foot w g b → w0.heap.size ≤ b) (m : Mv g w w') : Below w0.heap.size w0 w' :=
  h.trans ⟨m.os, m.tape, m.output, m.size, fun i hi => m.block i (Nat.lt_of_lt_of_le hi h.size) (fun hx => by have := hf i hx; omega)⟩
theorem Mine.step {w0 w w' : World} {g : Nat} {D D' : Dk.Disk} (h : Mine w0 w g D) (d : DiskAt w' g D') (m : Mv g w w') : Mine w0 w' g D' :=
  ⟨d, below_mv h.below h.foot m, fun b hb => by
    rcases m.foot b hb with h1 | h1
    · exact h.foot b h1
    · exact Nat.le_trans h.below.size h1⟩
theorem DiskAt.below {w w' : World} {g : Nat} {D : Dk.Disk} (h : DiskAt w g D) (hb : Below w.heap.size w w') : DiskAt w' g D ∧ Mv g w w' := by
  obtain ⟨vs, q, k, h⟩ := h
  exact ⟨⟨vs, q, k, h.below hb⟩, Mv.of_below hb h.lt⟩
theorem Mine.quiet {w0 w w' : World} {g : Nat} {D : Dk.Disk} (h : Mine w0 w g D) (hb : Below w.heap.size w w') : Mine w0 w' g D := h.step (h.at_.below hb).1 (h.at_.below hb).2
theorem Mine.alloc {w0 w : World} {g : Nat} {D : Dk.Disk} (h : Mine w0 w g D) (o : Obj) : Mine w0 (w.alloc o) g D := h.quiet (below_new w o)
section
variable {w0 w : World} {g : Nat} {D : Dk.Disk}
theorem mine_new (w : World) : Calls Try.prog 7 #[] w fun e w' => e = .returned (.pointer (some ⟨w.heap.size, 0, none⟩)) ∧ Mine w w' w.heap.size Dk.new :=
  (new_any w).mono fun _ _ ⟨h1, h2, h3, h4⟩ => ⟨h1, h2, h3, h4⟩
theorem mine_write (h : Mine w0 w g D) (f at_ : Int) (h0 : -9223372036854775808 ≤ at_) (h1 : at_ ≤ 9223372036854775807) (s : ByteArray) (hs : s.size ≤ 1000000) (hq : D.queue.length + s.size ≤ 1000000) :
    Calls Try.prog 12 #[.pointer (some ⟨g, 0, none⟩), .int .i64 f, .int .i64 at_, .string s] w fun e w' => e = .returned (.int .i64 (Dk.ec (Dk.write D f at_ s.data.toList).1)) ∧ Mine w0 w' g (Dk.write D f at_ s.data.toList).2 :=
  (write_any g D f at_ h0 h1 s hs hq w h.at_).mono fun _ _ ⟨a, b, c⟩ => ⟨a, h.step b c⟩
theorem mine_read (h : Mine w0 w g D) (f : Int) :
    Calls Try.prog 23 #[.pointer (some ⟨g, 0, none⟩), .int .i64 f] w fun e w' => e = .returned (.tuple #[.string (enc (Dk.readE D f).1), .int .i64 (Dk.ec (Dk.readE D f).2)]) ∧ Mine w0 w' g D :=
  (read_any g D f w h.at_).mono fun _ _ ⟨a, b⟩ => ⟨a, h.quiet b⟩
theorem mine_size (h : Mine w0 w g D) (f : Int) :
    Calls Try.prog 19 #[.pointer (some ⟨g, 0, none⟩), .int .i64 f] w fun e w' => e = .returned (.int .i64 (Dk.size D f : Int)) ∧ Mine w0 w' g D :=
  (size_any g D f w h.at_).mono fun _ _ ⟨a, b⟩ => ⟨a, h.quiet b⟩
theorem mine_flush (h : Mine w0 w g D) (f : Int) :
    Calls Try.prog 29 #[.pointer (some ⟨g, 0, none⟩), .int .i64 f] w fun e w' => e = .returned (.int .i64 (Dk.ec (Dk.flush D f).1)) ∧ Mine w0 w' g (Dk.flush D f).2 :=
  (flush_any g D f w h.at_).mono fun _ _ ⟨a, b, c⟩ => ⟨a, h.step b c⟩
theorem mine_cut (h : Mine w0 w g D) (f n : Int) :
    Calls Try.prog 32 #[.pointer (some ⟨g, 0, none⟩), .int .i64 f, .int .i64 n] w fun e w' => e = .returned (.int .i64 (Dk.ec (Dk.cut D f n).1)) ∧ Mine w0 w' g (Dk.cut D f n).2 :=
  (cut_any g D f n w h.at_).mono fun _ _ ⟨a, b, c⟩ => ⟨a, h.step b c⟩
theorem mine_turn (h : Mine w0 w g D) (f n : Int) :
    Calls Try.prog 31 #[.pointer (some ⟨g, 0, none⟩), .int .i64 f, .int .i64 n] w fun e w' => e = .returned (.int .i64 (Dk.ec (Dk.turn D f n).1)) ∧ Mine w0 w' g (Dk.turn D f n).2 :=
  (turn_any g D f n w h.at_).mono fun _ _ ⟨a, b, c⟩ => ⟨a, h.step b c⟩
theorem mine_start (h : Mine w0 w g D) :
    Calls Try.prog 21 #[.pointer (some ⟨g, 0, none⟩)] w fun e w' => (∃ v, e = .returned v) ∧ Mine w0 w' g (Dk.start D) := by
  obtain ⟨vs, q, k, hv⟩ := h.at_
  exact (start_any g vs q k D w hv).mono fun _ _ ⟨a, b, c⟩ => ⟨a, h.step ⟨_, _, _, b⟩ c⟩
theorem mine_lose (h : Mine w0 w g D) (n : Int) (hn : n ≤ 9223372036854775807) :
    Calls Try.prog 30 #[.pointer (some ⟨g, 0, none⟩), .int .i64 n] w fun e w' => (∃ v, e = .returned v) ∧ Mine w0 w' g (Dk.lose D n) := by
  obtain ⟨vs, q, k, hv⟩ := h.at_
  exact (lose_any g vs q k D n w hv hn).mono fun _ _ ⟨a, b, c⟩ => ⟨a, h.step ⟨_, _, _, b⟩ c⟩
theorem mine_down (h : Mine w0 w g D) :
    Calls Try.prog 17 #[.pointer (some ⟨g, 0, none⟩)] w fun e w' => e = .returned (.bool D.down) ∧ w = w' := by
  obtain ⟨vs, q, k, hv⟩ := h.at_
  exact down_any g vs q k D w hv
theorem ir_empty (w : World) (a : Option Addr) : IR w a 0 0 [] where
  addr := fun h => absurd h (Nat.lt_irrefl _)
  cell := fun _ hj => absurd hj (Nat.not_lt_zero _)
  lt := fun h => absurd h (Nat.lt_irrefl _)
  fit := Nat.zero_le _
theorem mine_crash_nil (h : Mine w0 w g D) :
    Calls Try.prog 13 #[.pointer (some ⟨g, 0, none⟩), .slice none 0 0] w fun e w' => (∃ v, e = .returned v) ∧ Mine w0 w' g (Dk.crash D []) :=
  (crash_any g D none 0 0 0 0 [] w h.at_ (ir_empty w none) rfl (fun hp => by cases hp)).mono fun _ _ ⟨a, b, c⟩ => ⟨a, h.step b c⟩
theorem mine_arm_nil (h : Mine w0 w g D) (n : Int) (hn : n ≤ 9223372036854775807) :
    Calls Try.prog 27 #[.pointer (some ⟨g, 0, none⟩), .int .i64 n, .slice none 0 0] w fun e w' => (∃ v, e = .returned v) ∧ Mine w0 w' g (Dk.arm D n []) :=
  (arm_any g D n hn none 0 0 0 0 [] w h.at_ (ir_empty w none) rfl (fun _ => rfl) (by omega)).mono fun _ _ ⟨a, b, c⟩ => ⟨a, h.step b c⟩
theorem mine_crash_arg (h : Mine w0 w g D) (a : Option Addr) (b off n cap : Nat) (ks : List Int) (hk : IR w0 a b off ks) (hn : ks.length = n) :
    Calls Try.prog 13 #[.pointer (some ⟨g, 0, none⟩), .slice a n cap] w fun e w' => (∃ v, e = .returned v) ∧ Mine w0 w' g (Dk.crash D ks) :=
  (crash_any g D a b off n cap ks w h.at_ (hk.below h.below) hn (fun hp hf => by have := h.foot b hf; have := hk.lt hp; omega)).mono fun _ _ ⟨x, y, z⟩ => ⟨x, h.step y z⟩
theorem mine_arm_arg (h : Mine w0 w g D) (m : Int) (hm : m ≤ 9223372036854775807) (a : Option Addr) (b off n cap : Nat) (ks : List Int) (hk : IR w0 a b off ks) (hn : ks.length = n) (hnil : a = none → cap = 0) (hl : n ≤ 100000000) :
    Calls Try.prog 27 #[.pointer (some ⟨g, 0, none⟩), .int .i64 m, .slice a n cap] w fun e w' => (∃ v, e = .returned v) ∧ Mine w0 w' g (Dk.arm D m ks) :=
  (arm_any g D m hm a b off n cap ks w h.at_ (hk.below h.below) hn hnil hl).mono fun _ _ ⟨x, y, z⟩ => ⟨x, h.step y z⟩
theorem ir_made (w : World) (ks : List Int) (hl : ks.length ≤ 1000) : IR (w.alloc (.cells (iv ks).toArray 3)) (some ⟨w.heap.size, 0, none⟩) w.heap.size 0 ks :=
  ⟨fun _ => rfl, fun j hj => by
    rw [Nat.zero_add]
    exact (Blk.made w (iv ks).toArray 3).cell (by simp [iv, hj]), fun _ => by rw [alloc_size]; omega, by omega⟩
/-- Crash of a list that is written out. -/
theorem mine_crash_lit (h : Mine w0 w g D) (ks : List Int) (hl : ks.length ≤ 1000) :
    Calls Try.prog 13 #[.pointer (some ⟨g, 0, none⟩), .slice (some ⟨w.heap.size, 0, none⟩) ks.length ks.length] (w.alloc (.cells (iv ks).toArray 3)) fun e w' => (∃ v, e = .returned v) ∧ Mine w0 w' g (Dk.crash D ks) := by
  have h2 := h.alloc (.cells (iv ks).toArray 3)
  obtain ⟨vs, q, k, hv⟩ := h.at_
  have hb : (w.alloc (.cells (iv ks).toArray 3)).heap[w.heap.size]? = some (.cells (iv ks).toArray 3 (0, 0)) := heap_alloc_new w _
  have hn : ¬ Foot (w.alloc (.cells (iv ks).toArray 3)) g w.heap.size := (hv.alloc _).not_foot hb (by decide) (by decide) (by decide)
  have C := crash_any g D (some ⟨w.heap.size, 0, none⟩) w.heap.size 0 ks.length ks.length ks (w.alloc (.cells (iv ks).toArray 3)) h2.at_ (ir_made w ks hl) rfl (fun _ => hn)
  exact C.mono fun _ _ ⟨x, y, z⟩ => ⟨x, h2.step y z⟩
end
end Go.Proofs.Ytbpodclodflgfaa
