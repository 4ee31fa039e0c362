/-
  The reader's block of memory; what the library's own variables hold.
-/
import Derived.Test.YthknahghmlfegaaDoorProg
import Derived.Test.YthknahghmlfegaaDoorWPlain
import Derived.WalkKit
import Derived.WalkSpells
import Derived.WalkLawsBesides
import Derived.Outline
import Derived.OneCell
import Derived.Lib.Hide
import Derived.Lib.ItoaMem
import Derived.Lib.SmallJoins
import Derived.Deep.QuietTactic
import Derived.BigQuiet
import Derived.LoopTactic
import Derived.Deep.DeepMust
namespace Go.Proofs.YthknahghmlfegaaDoor
open Go Go.RowKit

theorem ret_int {k : IntKind} {a b : Int} (h : a = b) : Ending.returned (.int k a) = .returned (.int k b) := by rw [h]
theorem ret_bool {a b : Bool} (h : a = b) : Ending.returned (.bool a) = .returned (.bool b) := by rw [h]
theorem ret_str {a b : ByteArray} (h : a = b) : Ending.returned (.string a) = .returned (.string b) := by rw [h]

/-- Block g is a reader: what is left, and whether it has failed. -/
def Rd (W : World) (g : Nat) (r : ByteArray) (bad : Bool) : Prop := W.heap[g]? = some (.cells #[.string r, .bool bad] 54 (0, 0))
theorem Rd.c0 {W : World} {g : Nat} {r : ByteArray} {bad : Bool} (h : Rd W g r bad) : W.cell? ⟨g, 0, none⟩ = some (.string r) := by unfold Rd at h; simp [World.cell?, h]
theorem Rd.c1 {W : World} {g : Nat} {r : ByteArray} {bad : Bool} (h : Rd W g r bad) : W.cell? ⟨g, 1, none⟩ = some (.bool bad) := by unfold Rd at h; simp [World.cell?, h]
theorem Rd.f0 {W : World} {g : Nat} {r : ByteArray} {bad : Bool} (h : Rd W g r bad) : W.frozen? ⟨g, 0, none⟩ = false := by unfold Rd at h; simp [World.frozen?, h]
theorem Rd.f1 {W : World} {g : Nat} {r : ByteArray} {bad : Bool} (h : Rd W g r bad) : W.frozen? ⟨g, 1, none⟩ = false := by unfold Rd at h; simp [World.frozen?, h]
theorem Rd.lt {W : World} {g : Nat} {r : ByteArray} {bad : Bool} (h : Rd W g r bad) : g < W.heap.size := lt_of_block h
theorem Rd.set0 {W : World} {g : Nat} {r : ByteArray} {bad : Bool} (h : Rd W g r bad) (q : ByteArray) : Rd (W.setCell ⟨g, 0, none⟩ (.string q)) g q bad := heap_setCell_same W g 0 _ _ _ h
theorem Rd.set1 {W : World} {g : Nat} {r : ByteArray} {bad : Bool} (h : Rd W g r bad) (q : Bool) : Rd (W.setCell ⟨g, 1, none⟩ (.bool q)) g r q := heap_setCell_same W g 1 _ _ _ h
theorem Rd.below {W w' : World} {g : Nat} {r : ByteArray} {bad : Bool} (h : Rd W g r bad) (hb : Below W.heap.size W w') : Rd w' g r bad := (hb.block g h.lt).trans h
theorem Rd.drews {W : World} {g : Nat} {r : ByteArray} {bad : Bool} (h : Rd W g r bad) (n : Nat) : Rd (W.drewN n) g r bad := h

/-- Only block g may have been written, and new blocks made. -/
abbrev Gr (g : Nat) (W w' : World) : Prop := W.grownBy w' (some g)
theorem Gr.refl (g : Nat) (W : World) : Gr g W W := ⟨rfl, rfl, rfl, Nat.le_refl _, fun _ _ _ => rfl⟩
theorem Gr.trans {g : Nat} {a b c : World} (h : Gr g a b) (k : Gr g b c) : Gr g a c :=
  ⟨k.os.trans h.os, k.tape.trans h.tape, k.output.trans h.output, Nat.le_trans h.size k.size, fun i hi hn => (k.block i (Nat.lt_of_lt_of_le hi h.size) hn).trans (h.block i hi hn)⟩
theorem Gr.of_below {g : Nat} {a b : World} (h : Below a.heap.size a b) : Gr g a b := ⟨h.os, h.tape, h.output, h.size, fun i hi _ => h.block i hi⟩
theorem Gr.set {g : Nat} (W : World) (o : Nat) (v : Value) : Gr g W (W.setCell ⟨g, o, none⟩ v) :=
  ⟨rfl, rfl, rfl, by simp [World.setCell], fun i _ hn => Below.heap_setCell _ _ _ _ (fun e => hn (by rw [e]))⟩
theorem Gr.below {g B : Nat} {a b : World} (h : Gr g a b) (hB : B ≤ a.heap.size) (hg : B ≤ g) : Below B a b :=
  ⟨h.os, h.tape, h.output, h.size, fun k hk => h.block k (by omega) (fun e => by injection e; omega)⟩
theorem Rd.other {W w' : World} {g k : Nat} {r : ByteArray} {bad : Bool} (h : Rd W g r bad) (hb : Gr k W w') (hne : g ≠ k) : Rd w' g r bad := (hb.block g h.lt (fun e => by injection e; omega)).trans h
theorem below_drewN {B : Nat} {a w : World} (h : Below B a w) (n : Nat) : Below B a (w.drewN n) := ⟨h.os, h.tape, h.output, h.size, h.block⟩

/-- The library's own variables: the table of powers, the two errors, MaxLen. -/
structure Env (W : World) : Prop where
  max : ∃ m : Int, W.cell? ⟨1, 0, none⟩ = some (.int .i64 m)
  pow : Lib.TabIs Tryd.prog W "internal/strconv.uint64pow10" .u64 Lib.pow10Tab
  syn : ∃ te pe, W.cell? ⟨2, 0, none⟩ = some (.iface te pe)
  rng : ∃ te pe, W.cell? ⟨3, 0, none⟩ = some (.iface te pe)
  size : 6 ≤ W.heap.size
theorem tab_kept {P : Program} {w w' : World} {g : Nat} {n : String} {k : IntKind} {zs : List Int} (hg : P.globalNamed n = some g) (h : Lib.TabIs P w n k zs) (hb : w'.heap[g]? = w.heap[g]?) : Lib.TabIs P w' n k zs := by
  unfold Lib.TabIs World.var? at *
  rw [hg] at h ⊢
  simpa [hb] using h
theorem Env.below {B : Nat} {w w' : World} (h : Env w) (hb : Below B w w') (hB : 6 ≤ B) : Env w' :=
  ⟨h.max.imp fun _ e => (hb.cell (p := ⟨1, 0, none⟩) (by show 1 < B; omega)).trans e,
   tab_kept (g := 0) (by kernel_rfl) h.pow (hb.block _ (by omega)),
   h.syn.imp fun _ e => e.imp fun _ e => (hb.cell (p := ⟨2, 0, none⟩) (by show 2 < B; omega)).trans e,
   h.rng.imp fun _ e => e.imp fun _ e => (hb.cell (p := ⟨3, 0, none⟩) (by show 3 < B; omega)).trans e,
   Nat.le_trans h.size hb.size⟩
theorem Env.gr {g : Nat} {w w' : World} (h : Env w) (hb : Gr g w w') (hg : 6 ≤ g) : Env w' := h.below (Gr.below hb h.size hg) (Nat.le_refl _)
theorem Env.new {w w' : World} (h : Env w) (hb : Below w.heap.size w w') : Env w' := h.below hb h.size
theorem Env.drews {w : World} (h : Env w) (n : Nat) : Env (w.drewN n) := h.new (below_drewN (Below.refl _ _) n)

set_option maxHeartbeats 1000000 in
set_option maxRecDepth 100000 in
/-- fail: nothing is left, and the mark is set. -/
theorem fail_any (g : Nat) (r : ByteArray) (bad : Bool) (W : World) (h : Rd W g r bad) :
    Calls Tryd.prog 50 #[.pointer (some ⟨g, 0, none⟩)] W fun e w' => (∃ v, e = .returned v) ∧ Rd w' g ⟨#[]⟩ true ∧ Gr g W w' := by
  have hc0 := h.c0
  have hc1 := h.c1
  have hf0 := h.f0
  have hf1 := h.f1
  have HR := Lib.hid h
  clear h
  go_enter Tryd.func50, Tryd.ntmps50
  go_wp2
  go_end0
  exact ⟨⟨_, rfl⟩, (HR.out.set0 _).set1 _, Gr.trans (Gr.set _ _ _) (Gr.set _ _ _)⟩

set_option maxHeartbeats 1000000 in
set_option maxRecDepth 100000 in
theorem left_any (g : Nat) (r : ByteArray) (bad : Bool) (W : World) (h : Rd W g r bad) :
    Calls Tryd.prog 36 #[.pointer (some ⟨g, 0, none⟩)] W fun e w' => e = .returned (.int .i64 r.size) ∧ W = w' := by
  have hc0 := h.c0
  clear h
  go_enter Tryd.func36, Tryd.ntmps36
  go_wp2
  go_ret
  exact ⟨rfl, rfl⟩

set_option maxHeartbeats 1000000 in
set_option maxRecDepth 100000 in
theorem done_any (g : Nat) (r : ByteArray) (bad : Bool) (W : World) (h : Rd W g r bad) :
    Calls Tryd.prog 38 #[.pointer (some ⟨g, 0, none⟩)] W fun e w' => e = .returned (.bool (!bad && r.toList.isEmpty)) ∧ W = w' := by
  have hc0 := h.c0
  have hc1 := h.c1
  clear h
  cases bad
  all_goals
    go_enter Tryd.func38, Tryd.ntmps38
    go_wp2
    go_ret
    exact ⟨by first | rfl | simp, rfl⟩

set_option maxHeartbeats 1000000 in
set_option maxRecDepth 100000 in
theorem open_any (s : ByteArray) (W : World) :
    Calls Tryd.prog 21 #[.string s] W fun e w' => e = .returned (.pointer (some ⟨W.heap.size, 0, none⟩)) ∧ Rd w' W.heap.size s false ∧ Below W.heap.size W w' := by
  go_enter Tryd.func21, Tryd.ntmps21
  go_wp2
  go_ret
  exact ⟨rfl, by unfold Rd; exact heap_alloc_new _ _, (Below.refl _ _).alloc (Nat.le_refl _) _⟩
end Go.Proofs.YthknahghmlfegaaDoor
