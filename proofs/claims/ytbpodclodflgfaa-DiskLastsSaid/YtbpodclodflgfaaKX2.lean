/-
  Two disks that share no memory that either writes.
-/
import Derived.Test.YtbpodclodflgfaaKW
namespace Go.Proofs.Ytbpodclodflgfaa
open Go Go.RowKit
theorem DiskAt.lt {w : World} {g : Nat} {D : Dk.Disk} (h : DiskAt w g D) : g < w.heap.size := by
  obtain ⟨vs, q, k, h⟩ := h
  exact h.lt
theorem DiskAt.foot_lt {w : World} {g : Nat} {D : Dk.Disk} (h : DiskAt w g D) {b : Nat} (hb : Foot w g b) : b < w.heap.size := by
  obtain ⟨vs, q, k, h⟩ := h
  exact h.foot_lt hb
theorem DiskAt.not_foot {w : World} {g : Nat} {D : Dk.Disk} (h : DiskAt w g D) {b : Nat} {cs : Array Value} {t : TypeId} {z : Nat × Nat} (hb : w.heap[b]? = some (.cells cs t z)) (h1 : t ≠ 56) (h2 : t ≠ 5) (h3 : t ≠ 63) : ¬ Foot w g b := by
  obtain ⟨vs, q, k, h⟩ := h
  exact h.not_foot hb h1 h2 h3
/-- What happens to one disk is nothing to another. -/
theorem DiskAt.other {w w' : World} {c d : Nat} {D E : Dk.Disk} (h : DiskAt w c D) (hd : DiskAt w d E) (m : Mv d w w') (hap : ∀ b, Foot w c b → ¬ Foot w d b) : DiskAt w' c D ∧ ∀ b, Foot w' c b → Foot w c b := by
  obtain ⟨vs, q, k, hv⟩ := h
  have hs : ∀ b, Foot w c b → w'.heap[b]? = w.heap[b]? := fun b hb => m.block b (hv.foot_lt hb) (hap b hb)
  refine ⟨⟨vs, q, k, hv.frame hs fun b ha hk => m.block b (hv.keep_lt ha hk) ?_⟩, fun b hb => foot_same (hs c (.inl rfl)) hb⟩
  rcases (hv.keep ha).2 with ⟨rfl, _⟩ | ⟨g', cap, cur, rfl, _, hg, _⟩
  · cases hk
  · injection hk with hk
    change g' = b at hk
    subst hk
    exact hd.not_foot hg (by decide) (by decide) (by decide)
/-- Two disks of the call's own. -/
structure Two (w0 w : World) (d c : Nat) (D E : Dk.Disk) : Prop where
  one : Mine w0 w d D
  two : Mine w0 w c E
  apart : ∀ b, Foot w d b → ¬ Foot w c b
theorem Two.swap {w0 w : World} {d c : Nat} {D E : Dk.Disk} (h : Two w0 w d c D E) : Two w0 w c d E D := ⟨h.two, h.one, fun b h1 h2 => h.apart b h2 h1⟩
theorem Two.left {w0 w w' : World} {d c : Nat} {D D' E : Dk.Disk} (h : Two w0 w d c D E) (hd : DiskAt w' d D') (m : Mv d w w') : Two w0 w' d c D' E := by
  obtain ⟨x, y⟩ := h.two.at_.other h.one.at_ m (fun b h1 h2 => h.apart b h2 h1)
  refine ⟨h.one.step hd m, ⟨x, below_mv h.one.below h.one.foot m, fun b hb => h.two.foot b (y b hb)⟩, fun b h1 h2 => ?_⟩
  rcases m.foot b h1 with h3 | h3
  · exact h.apart b h3 (y b h2)
  · have := h.two.at_.foot_lt (y b h2)
    omega
theorem Two.right {w0 w w' : World} {d c : Nat} {D E E' : Dk.Disk} (h : Two w0 w d c D E) (hd : DiskAt w' c E') (m : Mv c w w') : Two w0 w' d c D E' := (h.swap.left hd m).swap
theorem Two.quiet {w0 w w' : World} {d c : Nat} {D E : Dk.Disk} (h : Two w0 w d c D E) (hb : Below w.heap.size w w') : Two w0 w' d c D E := h.left (h.one.at_.below hb).1 (h.one.at_.below hb).2
section
variable {w0 w : World} {d c : Nat} {D E : Dk.Disk}
theorem two_copy (h : Mine w0 w d D) : Calls Try.prog 11 #[.pointer (some ⟨d, 0, none⟩)] w fun e w' => e = .returned (.pointer (some ⟨w.heap.size, 0, none⟩)) ∧ Two w0 w' d w.heap.size D D :=
  (copy_any d D w h.at_).mono fun _ _ ⟨a, b, c, f⟩ => ⟨a, h.quiet c, ⟨b, h.below.trans ⟨c.os, c.tape, c.output, c.size, fun i hi => c.block i (Nat.lt_of_lt_of_le hi h.below.size)⟩, fun x hx => Nat.le_trans h.below.size (f x hx)⟩, fun x h1 h2 => by
    have h3 := f x h2
    have h4 := foot_same (c.block d h.at_.lt) h1
    have := h.at_.foot_lt h4
    omega⟩
theorem two_flush (h : Two w0 w d c D E) (f : Int) : Calls Try.prog 29 #[.pointer (some ⟨d, 0, none⟩), .int .i64 f] w fun e w' => e = .returned (.int .i64 (Dk.ec (Dk.flush D f).1)) ∧ Two w0 w' d c (Dk.flush D f).2 E :=
  (flush_any d D f w h.one.at_).mono fun _ _ ⟨x, y, z⟩ => ⟨x, h.left y z⟩
theorem two_start (h : Two w0 w d c D E) : Calls Try.prog 21 #[.pointer (some ⟨d, 0, none⟩)] w fun e w' => (∃ v, e = .returned v) ∧ Two w0 w' d c (Dk.start D) E := by
  obtain ⟨vs, q, k, hv⟩ := h.one.at_
  exact (start_any d vs q k D w hv).mono fun _ _ ⟨x, y, z⟩ => ⟨x, h.left ⟨_, _, _, y⟩ z⟩
theorem two_crash_nil (h : Two w0 w d c D E) : Calls Try.prog 13 #[.pointer (some ⟨d, 0, none⟩), .slice none 0 0] w fun e w' => (∃ v, e = .returned v) ∧ Two w0 w' d c (Dk.crash D []) E :=
  (crash_any d D none 0 0 0 0 [] w h.one.at_ (ir_empty w none) rfl (fun hp => by cases hp)).mono fun _ _ ⟨x, y, z⟩ => ⟨x, h.left y z⟩
theorem two_read (h : Two w0 w d c D E) (f : Int) : Calls Try.prog 23 #[.pointer (some ⟨d, 0, none⟩), .int .i64 f] w fun e w' => e = .returned (.tuple #[.string (enc (Dk.readE D f).1), .int .i64 (Dk.ec (Dk.readE D f).2)]) ∧ Two w0 w' d c D E :=
  (read_any d D f w h.one.at_).mono fun _ _ ⟨x, y⟩ => ⟨x, h.quiet y⟩
end
end Go.Proofs.Ytbpodclodflgfaa
