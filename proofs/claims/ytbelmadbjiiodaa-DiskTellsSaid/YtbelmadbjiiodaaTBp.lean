/-
  Copies of both disks; what an act adds to the queue.
-/
import Derived.Test.YtbelmadbjiiodaaTBo
import Derived.Test.YtbelmadbjiiodaaKGo
namespace Go.Proofs.Ytbelmadbjiiodaa
open Go Go.RowKit
theorem DiskAt.lt {w : World} {g : Nat} {D : Dk.Disk} (h : DiskAt w g D) : g < w.heap.size := by
  obtain ⟨vs, q, k, h⟩ := h
  exact h.lt
theorem DiskAt.foot_lt {w : World} {g : Nat} {D : Dk.Disk} (h : DiskAt w g D) {b : Nat} (hb : Foot w g b) : b < w.heap.size := by
  obtain ⟨vs, q, k, h⟩ := h
  exact h.foot_lt hb
theorem DiskAt.not_foot {w : World} {g : Nat} {D : Dk.Disk} (h : DiskAt w g D) {b : Nat} {cs : Array Value} {t : TypeId} {z : Nat × Nat} (hb : w.heap[b]? = some (.cells cs t z)) (h1 : t ≠ 49) (h2 : t ≠ 5) (h3 : t ≠ 57) : ¬ Foot w g b := by
  obtain ⟨vs, q, k, h⟩ := h
  exact h.not_foot hb h1 h2 h3
/-- What happens to one disk is nothing to another. -/
theorem DiskAt.other {w w' : World} {c d : Nat} {D E : Dk.Disk} (h : DiskAt w c D) (hd : DiskAt w d E) (m : Mv d w w') (hap : ∀ b, Foot w c b → ¬ Foot w d b) : DiskAt w' c D ∧ ∀ b, Foot w' c b → Foot w c b := by
  obtain ⟨vs, q, k, hv⟩ := h
  have hs : ∀ b, Foot w c b → w'.heap[b]? = w.heap[b]? := fun b hb => m.block b (hv.foot_lt hb) (hap b hb)
  refine ⟨⟨vs, q, k, hv.frame hs fun b ha hk => m.block b (hv.keep_lt ha hk) ?_⟩, fun b hb => foot_same (hs c (.inl rfl)) hb⟩
  rcases (hv.keep ha).2 with ⟨rfl, _⟩ | ⟨g', cap, cur, rfl, _, hg, _⟩
  · cases hk
  · injection hk with hk
    change g' = b at hk
    subst hk
    exact hd.not_foot hg (by decide) (by decide) (by decide)
namespace Dk
theorem act_queue (D : Disk) (h0 : 0 ≤ D.armed) (a : Act) : (act D a).2.queue.length ≤ D.queue.length + a.s.length := by
  have hw := write_queue D h0 a.f a.n a.s
  have hf := flush_queue D h0 a.f
  have hc := cut_queue D h0 a.f a.n
  have ht := turn_queue D h0 a.f a.g
  have hr := crash_queue D a.keep
  unfold act
  split
  · exact hw
  split
  · show (flush D a.f).2.queue.length ≤ _
    omega
  split
  · show (cut D a.f a.n).2.queue.length ≤ _
    omega
  split
  · show (turn D a.f a.g).2.queue.length ≤ _
    omega
  split
  · show (crash D a.keep).queue.length ≤ _
    omega
  split
  · exact Nat.le_add_right _ _
  split
  · exact Nat.le_add_right _ _
  split
  · exact Nat.le_add_right _ _
  split
  · exact Nat.le_add_right _ _
  · exact Nat.le_add_right _ _
end Dk
namespace Dk
theorem crash_keep (D : Disk) (ks : List Int) : (crash D ks).keep = D.keep := by unfold crash; split <;> rfl
theorem comes_keep (D : Disk) (x : Option (Int × Int × B)) : (comes D x).keep = D.keep := by
  unfold comes
  split
  · rfl
  split
  · rfl
  split
  · rw [crash_keep]; split <;> rfl
  · rw [crash_keep]
end Dk
/-- The old disk, its copy, and the reference's. -/
structure Three (w0 w : World) (d c x : Nat) (D C E : Dk.Disk) : Prop where
  b : Both w0 w d x D E
  cp : Mine w0 w c C
  ap : ∀ y, Foot w c y → ¬ Foot w d y
theorem Three.left {w0 w w' : World} {d c x : Nat} {D D' C E : Dk.Disk} (h : Three w0 w d c x D C E) (hd : DiskAt w' d D') (m : Mv d w w') : Three w0 w' d c x D' C E := by
  obtain ⟨a1, a2⟩ := h.cp.at_.other h.b.p.at_ m h.ap
  have h1 : MM w0 w w' d D' := ⟨h.b.p.step hd m, m⟩
  refine ⟨h.b.left h1, ⟨a1, h1.mine.below, fun y hy => h.cp.foot y (a2 y hy)⟩, fun y hy hf => ?_⟩
  rcases m.foot y hf with h2 | h2
  · exact h.ap y (a2 y hy) h2
  · have := h.cp.at_.foot_lt (a2 y hy)
    omega
theorem Three.new {w0 w : World} {d c x : Nat} {D C E : Dk.Disk} (h : Three w0 w d c x D C E) : Both w0 w c x C E := ⟨h.cp, h.b.r⟩
section
variable {w0 w : World} {d c x : Nat} {D C E : Dk.Disk}
theorem both_copy (h : Both w0 w d x D E) : Calls Try.prog 9 #[.pointer (some ⟨d, 0, none⟩)] w fun e w' => ∃ c, e = .returned (.pointer (some ⟨c, 0, none⟩)) ∧ Three w0 w' d c x D D E :=
  (copy_any d D w h.p.at_).mono fun _ _ ⟨a, b, c, f⟩ => ⟨_, a, h.quiet c, ⟨b, h.p.below.trans ⟨c.os, c.tape, c.output, c.size, fun i hi => c.block i (Nat.lt_of_lt_of_le hi h.p.below.size)⟩, fun y hy => Nat.le_trans h.p.below.size (f y hy)⟩, fun y h1 h2 => by
    have h3 := f y h1
    have h4 := foot_same (c.block d h.p.at_.lt) h2
    have := h.p.at_.foot_lt h4
    omega⟩
theorem three_write (h : Three w0 w d c x D C E) (s : ByteArray) (hs : s.size ≤ 100) (hq : D.queue.length ≤ 100000) : Calls Try.prog 10 #[.pointer (some ⟨d, 0, none⟩), .int .i64 0, .int .i64 0, .string s] w fun e w' => (∃ v, e = .returned v) ∧ ∃ D', Three w0 w' d c x D' C E :=
  (write_any d D 0 0 (by decide) (by decide) s (by omega) (by omega) w h.b.p.at_).mono fun _ _ ⟨p, q, r⟩ => ⟨⟨_, p⟩, _, h.left q r⟩
theorem three_crash (h : Three w0 w d c x D C E) : Calls Try.prog 11 #[.pointer (some ⟨d, 0, none⟩), .slice none 0 0] w fun e w' => (∃ v, e = .returned v) ∧ Both w0 w' c x C E :=
  (crash_any d D none 0 0 0 0 [] w h.b.p.at_ (ir_empty w none) rfl (fun hp => by cases hp)).mono fun _ _ ⟨p, q, r⟩ => ⟨p, (h.left q r).new⟩
theorem both_rcopy (h : Both w0 w d x D E) (hq : E.queue.length ≤ 100000000) (hk : E.keep.length ≤ 100000000) : Calls Try.prog 12 #[.pointer (some ⟨x, 0, none⟩)] w fun e w' => ∃ y, e = .returned (.pointer (some ⟨y, 0, none⟩)) ∧ Both w0 w' d y D E :=
  (rcopy_any h.r.at_ hq hk).mono fun _ _ ⟨c, a, b, e, f⟩ => ⟨c, a, h.p.quiet e, b, h.r.below.trans (e.mono h.r.below.size), fun y hy => Nat.le_trans h.r.below.size (f y hy)⟩
theorem both_start (h : Both w0 w d x D E) : Calls Try.prog 19 #[.pointer (some ⟨d, 0, none⟩)] w fun e w' => (∃ v, e = .returned v) ∧ Both w0 w' d x (Dk.start D) E := (mm_start h.mm).mono fun _ _ ⟨a, b⟩ => ⟨a, h.left b⟩
theorem both_rstart (h : Both w0 w d x D E) : Calls Try.prog 20 #[.pointer (some ⟨x, 0, none⟩)] w fun e w' => (∃ v, e = .returned v) ∧ Both w0 w' d x D (Dk.start E) := (rmm_start h.rmm).mono fun _ _ ⟨a, b⟩ => ⟨a, h.right b⟩
theorem both_down (h : Both w0 w d x D E) : Calls Try.prog 15 #[.pointer (some ⟨d, 0, none⟩)] w fun e w' => e = .returned (.bool D.down) ∧ w = w' := mine_down h.p
theorem both_rdown (h : Both w0 w d x D E) : Calls Try.prog 16 #[.pointer (some ⟨x, 0, none⟩)] w fun e w' => e = .returned (.bool E.down) ∧ w = w' := rdown_any h.r.at_
theorem both_size (h : Both w0 w d x D E) (f : Int) : Calls Try.prog 17 #[.pointer (some ⟨d, 0, none⟩), .int .i64 f] w fun e w' => e = .returned (.int .i64 (Dk.size D f : Int)) ∧ Below w.heap.size w w' ∧ Both w0 w' d x D E := (size_any d D f w h.p.at_).mono fun _ _ ⟨a, b⟩ => ⟨a, b, h.quiet b⟩
theorem both_rsize (h : Both w0 w d x D E) (f : Int) : Calls Try.prog 18 #[.pointer (some ⟨x, 0, none⟩), .int .i64 f] w fun e w' => e = .returned (.int .i64 (Dk.size E f : Int)) ∧ Below w.heap.size w w' ∧ Both w0 w' d x D E := (rsize_any h.r.at_ f).mono fun _ _ ⟨a, b⟩ => ⟨a, b, h.quiet b⟩
theorem both_read (h : Both w0 w d x D E) (f : Int) : Calls Try.prog 21 #[.pointer (some ⟨d, 0, none⟩), .int .i64 f] w fun e w' => e = .returned (.tuple #[.string (enc (Dk.readE D f).1), .int .i64 (Dk.ec (Dk.readE D f).2)]) ∧ Both w0 w' d x D E := (read_any d D f w h.p.at_).mono fun _ _ ⟨a, b⟩ => ⟨a, h.quiet b⟩
theorem both_rread (h : Both w0 w d x D E) (f : Int) : Calls Try.prog 22 #[.pointer (some ⟨x, 0, none⟩), .int .i64 f] w fun e w' => e = .returned (.tuple #[.string (enc (Dk.readE E f).1), .int .i64 (Dk.ec (Dk.readE E f).2)]) ∧ Both w0 w' d x D E := (rreadE_any h.r.at_ f).mono fun _ _ ⟨a, b⟩ => ⟨a, h.quiet b⟩
end
end Go.Proofs.Ytbelmadbjiiodaa
