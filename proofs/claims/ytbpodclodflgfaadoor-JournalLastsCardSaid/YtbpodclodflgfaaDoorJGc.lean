/-
  The disk beside what is not of it.
  A log in memory.
  The log's small functions.
  Rows are added to a log: add, Append.
  add, Append.
-/
import Derived.Test.YtbpodclodflgfaaDoorJGb
namespace Go.Proofs.YtbpodclodflgfaaDoor
open Go Go.RowKit
/-- A block, if any, that no disk is made of. -/
def Aside (w : World) (r : Option Nat) : Prop := ∀ b, r = some b → ∃ cs t z, w.heap[b]? = some (.cells cs t z) ∧ t ≠ 70 ∧ t ≠ 5 ∧ t ≠ 86 ∧ t ≠ 3
theorem aside_own {w : World} {base : Nat} {e : TypeId} {sz : Nat} {v : Value} {n : Nat} {xs : List Value} (h : w.ownsRow base e sz v n xs) (h1 : e ≠ 70) (h2 : e ≠ 5) (h3 : e ≠ 86) (h4 : e ≠ 3) : Aside w v.ownBlock := fun b hb => by
  obtain ⟨_, ⟨rfl, _⟩ | ⟨g, cap, cur, rfl, _, hg, _⟩⟩ := h
  · cases hb
  · injection hb with hb
    change g = b at hb
    subst hb
    exact ⟨cur, e, _, hg, h1, h2, h3, h4⟩
theorem DiskAt.aside {w w' : World} {g : Nat} {D : Dk.Disk} {r : Option Nat} (h : DiskAt w g D) (hg : w.grownBy w' r) (hr : Aside w r) : DiskAt w' g D ∧ ∀ b, Foot w' g b → Foot w g b := by
  obtain ⟨vs, q, k, hv⟩ := h
  have hs : ∀ b, Foot w g b → w'.heap[b]? = w.heap[b]? := fun b hb => hg.block b (hv.foot_lt hb) fun e => by
    obtain ⟨cs, t, z, hbk, h1, h2, h3, _⟩ := hr b e.symm
    exact hv.not_foot hbk h1 h2 h3 hb
  refine ⟨⟨vs, q, k, hv.frame hs fun b ha hk => hg.block b (hv.keep_lt ha hk) fun e => ?_⟩, fun b hb => foot_same (hs g (.inl rfl)) hb⟩
  obtain ⟨cs, t, z, hbk, _, _, _, h4⟩ := hr b e.symm
  rcases (hv.keep ha).2 with ⟨rfl, _⟩ | ⟨g', cap, cur, rfl, _, hg', _⟩
  · cases hk
  · injection hk with hk
    change g' = b at hk
    subst hk
    rw [hg'] at hbk
    injection hbk with hbk
    injection hbk with _ hbk _
    exact h4 hbk.symm
theorem Mine.aside {w0 w w' : World} {g : Nat} {D : Dk.Disk} {r : Option Nat} (h : Mine w0 w g D) (hg : w.grownBy w' r) (hr : Aside w r) (hb : ∀ b, r = some b → w0.heap.size ≤ b) : Mine w0 w' g D := by
  obtain ⟨x, y⟩ := h.at_.aside hg hr
  exact ⟨x, below_grown h.below (Nat.le_refl _) hg hb, fun b hx => h.foot b (y b hx)⟩
/-- A row of another kind is left alone by what a disk does. -/
theorem own_mv {w w' : World} {g base : Nat} {D : Dk.Disk} {e : TypeId} {sz : Nat} {v : Value} {n : Nat} {xs : List Value} (h : w.ownsRow base e sz v n xs) (hd : DiskAt w g D) (m : Mv g w w') (h1 : e ≠ 70) (h2 : e ≠ 5) (h3 : e ≠ 86) : w'.ownsRow base e sz v n xs := by
  obtain ⟨vs, q, k, hv⟩ := hd
  obtain ⟨y1, h | ⟨b, cap, cur, rfl, y2, hb, y3, y4, y5, y6⟩⟩ := h
  · exact ⟨y1, .inl h⟩
  · exact ⟨y1, .inr ⟨b, cap, cur, rfl, y2, (m.block b (Array.getElem?_eq_some_iff.1 hb).1 (hv.not_foot hb h1 h2 h3)).trans hb, y3, y4, y5, y6⟩⟩
theorem blk_mv {w w' : World} {g b : Nat} {D : Dk.Disk} {t : TypeId} {L : List Value} (h : Blk w b t L) (hd : DiskAt w g D) (m : Mv g w w') (h1 : t ≠ 70) (h2 : t ≠ 5) (h3 : t ≠ 86) : Blk w' b t L := by
  obtain ⟨vs, q, k, hv⟩ := hd
  exact (m.block b h.lt (hv.not_foot h h1 h2 h3)).trans h
/-- Mine, and nothing but the disk was changed since wb. -/
structure MM (w0 wb w : World) (g : Nat) (D : Dk.Disk) : Prop where
  mine : Mine w0 w g D
  mv : Mv g wb w
section
variable {w0 wb w : World} {g : Nat} {D : Dk.Disk}
theorem MM.step {w' : World} {D' : Dk.Disk} (h : MM w0 wb w g D) (d : DiskAt w' g D') (m : Mv g w w') : MM w0 wb w' g D' := ⟨h.mine.step d m, h.mv.trans m⟩
theorem MM.quiet {w' : World} (h : MM w0 wb w g D) (hb : Below w.heap.size w w') : MM w0 wb w' g D := h.step (h.mine.at_.below hb).1 (h.mine.at_.below hb).2
theorem MM.alloc (h : MM w0 wb w g D) (o : Obj) : MM w0 wb (w.alloc o) g D := h.quiet (below_new w o)
theorem mm_write (h : MM w0 wb w g D) (f at_ : Int) (h0 : -9223372036854775808 ≤ at_) (h1 : at_ ≤ 9223372036854775807) (s : ByteArray) (hs : s.size ≤ 1000000) (hq : D.queue.length + s.size ≤ 1000000) : Calls Tryd.prog 37 #[.pointer (some ⟨g, 0, none⟩), .int .i64 f, .int .i64 at_, .string s] w fun e w' => e = .returned (.int .i64 (Dk.ec (Dk.write D f at_ s.data.toList).1)) ∧ MM w0 wb w' g (Dk.write D f at_ s.data.toList).2 :=
  (write_any g D f at_ h0 h1 s hs hq w h.mine.at_).mono fun _ _ ⟨a, b, c⟩ => ⟨a, h.step b c⟩
theorem mm_read (h : MM w0 wb w g D) (f : Int) : Calls Tryd.prog 30 #[.pointer (some ⟨g, 0, none⟩), .int .i64 f] w fun e w' => e = .returned (.tuple #[.string (enc (Dk.readE D f).1), .int .i64 (Dk.ec (Dk.readE D f).2)]) ∧ MM w0 wb w' g D :=
  (read_any g D f w h.mine.at_).mono fun _ _ ⟨a, b⟩ => ⟨a, h.quiet b⟩
theorem mm_flush (h : MM w0 wb w g D) (f : Int) : Calls Tryd.prog 77 #[.pointer (some ⟨g, 0, none⟩), .int .i64 f] w fun e w' => e = .returned (.int .i64 (Dk.ec (Dk.flush D f).1)) ∧ MM w0 wb w' g (Dk.flush D f).2 :=
  (flush_any g D f w h.mine.at_).mono fun _ _ ⟨a, b, c⟩ => ⟨a, h.step b c⟩
theorem mm_cut (h : MM w0 wb w g D) (f n : Int) : Calls Tryd.prog 54 #[.pointer (some ⟨g, 0, none⟩), .int .i64 f, .int .i64 n] w fun e w' => e = .returned (.int .i64 (Dk.ec (Dk.cut D f n).1)) ∧ MM w0 wb w' g (Dk.cut D f n).2 :=
  (cut_any g D f n w h.mine.at_).mono fun _ _ ⟨a, b, c⟩ => ⟨a, h.step b c⟩
theorem mm_turn (h : MM w0 wb w g D) (f n : Int) : Calls Tryd.prog 58 #[.pointer (some ⟨g, 0, none⟩), .int .i64 f, .int .i64 n] w fun e w' => e = .returned (.int .i64 (Dk.ec (Dk.turn D f n).1)) ∧ MM w0 wb w' g (Dk.turn D f n).2 :=
  (turn_any g D f n w h.mine.at_).mono fun _ _ ⟨a, b, c⟩ => ⟨a, h.step b c⟩
theorem mm_start (h : MM w0 wb w g D) : Calls Tryd.prog 23 #[.pointer (some ⟨g, 0, none⟩)] w fun e w' => (∃ v, e = .returned v) ∧ MM w0 wb w' g (Dk.start D) :=
  by
  obtain ⟨vs, q, k, hv⟩ := h.mine.at_
  exact (start_any g vs q k D w hv).mono fun _ _ ⟨a, b, c⟩ => ⟨a, h.step ⟨_, _, _, b⟩ c⟩
theorem mm_lose (h : MM w0 wb w g D) (n : Int) (hn : n ≤ 9223372036854775807) : Calls Tryd.prog 25 #[.pointer (some ⟨g, 0, none⟩), .int .i64 n] w fun e w' => (∃ v, e = .returned v) ∧ MM w0 wb w' g (Dk.lose D n) :=
  by
  obtain ⟨vs, q, k, hv⟩ := h.mine.at_
  exact (lose_any g vs q k D n w hv hn).mono fun _ _ ⟨a, b, c⟩ => ⟨a, h.step ⟨_, _, _, b⟩ c⟩
theorem mm_crash_nil (h : MM w0 wb w g D) : Calls Tryd.prog 21 #[.pointer (some ⟨g, 0, none⟩), .slice none 0 0] w fun e w' => (∃ v, e = .returned v) ∧ MM w0 wb w' g (Dk.crash D []) :=
  (crash_any g D none 0 0 0 0 [] w h.mine.at_ (ir_empty w none) rfl (fun hp => by cases hp)).mono fun _ _ ⟨a, b, c⟩ => ⟨a, h.step b c⟩
theorem mm_arm_nil (h : MM w0 wb w g D) (n : Int) (hn : n ≤ 9223372036854775807) : Calls Tryd.prog 35 #[.pointer (some ⟨g, 0, none⟩), .int .i64 n, .slice none 0 0] w fun e w' => (∃ v, e = .returned v) ∧ MM w0 wb w' g (Dk.arm D n []) :=
  (arm_any g D n hn none 0 0 0 0 [] w h.mine.at_ (ir_empty w none) rfl (fun _ => rfl) (by omega)).mono fun _ _ ⟨a, b, c⟩ => ⟨a, h.step b c⟩
theorem mm_crash_arg (h : MM w0 wb w g D) (a : Option Addr) (b off n cap : Nat) (ks : List Int) (hk : IR w0 a b off ks) (hn : ks.length = n) : Calls Tryd.prog 21 #[.pointer (some ⟨g, 0, none⟩), .slice a n cap] w fun e w' => (∃ v, e = .returned v) ∧ MM w0 wb w' g (Dk.crash D ks) :=
  (crash_any g D a b off n cap ks w h.mine.at_ (hk.below h.mine.below) hn (fun hp hf => by have := h.mine.foot b hf; have := hk.lt hp; omega)).mono fun _ _ ⟨x, y, z⟩ => ⟨x, h.step y z⟩
theorem mm_arm_arg (h : MM w0 wb w g D) (m : Int) (hm : m ≤ 9223372036854775807) (a : Option Addr) (b off n cap : Nat) (ks : List Int) (hk : IR w0 a b off ks) (hn : ks.length = n) (hnil : a = none → cap = 0) (hl : n ≤ 100000000) : Calls Tryd.prog 35 #[.pointer (some ⟨g, 0, none⟩), .int .i64 m, .slice a n cap] w fun e w' => (∃ v, e = .returned v) ∧ MM w0 wb w' g (Dk.arm D m ks) :=
  (arm_any g D m hm a b off n cap ks w h.mine.at_ (hk.below h.mine.below) hn hnil hl).mono fun _ _ ⟨x, y, z⟩ => ⟨x, h.step y z⟩
end
end Go.Proofs.YtbpodclodflgfaaDoor
namespace Go.Proofs.YtbpodclodflgfaaDoor
open Go Go.RowKit
def lcells (g f sure : Nat) (v : Value) (R : List (List UInt8)) : List Value := [.pointer (some ⟨g, 0, none⟩), .int .i64 (f : Int), v, .int .i64 (sure : Int), .int .i64 ((16 + (Jn.forms R).length : Nat) : Int)]
/-- The log lb of the file f of the disk g: what it holds; its rows' header is .slice pa _ pc. -/
structure JV (w0 w : World) (g lb f : Nat) (D : Dk.Disk) (R : List (List UInt8)) (sure : Nat) (pa : Option Addr) (pc : Nat) : Prop where
  mine : Mine w0 w g D
  env : EnvJ w0
  ge : w0.heap.size ≤ lb
  blk : Blk w lb 77 (lcells g f sure (.slice pa R.length pc) R)
  row : SOwn w w0.heap.size (.slice pa R.length pc) R
  bound : (Jn.forms R).length ≤ 16777216
abbrev JL (w0 w : World) (g lb f : Nat) (D : Dk.Disk) (R : List (List UInt8)) (sure : Nat) : Prop := ∃ pa pc, JV w0 w g lb f D R sure pa pc
/-- The blocks that a log is made of. -/
def JFoot (w : World) (g lb b : Nat) : Prop := Foot w g b ∨ b = lb ∨ ∃ v, w.cell? ⟨lb, 2, none⟩ = some v ∧ v.ownBlock = some b
structure JMv (g lb : Nat) (w w' : World) : Prop where
  os : w'.os = w.os
  tape : w'.tape = w.tape
  output : w'.output = w.output
  size : w.heap.size ≤ w'.heap.size
  block : ∀ b, b < w.heap.size → ¬ JFoot w g lb b → w'.heap[b]? = w.heap[b]?
  foot : ∀ b, JFoot w' g lb b → JFoot w g lb b ∨ w.heap.size ≤ b
theorem JMv.refl (g lb : Nat) (w : World) : JMv g lb w w := ⟨rfl, rfl, rfl, Nat.le_refl _, fun _ _ _ => rfl, fun _ h => .inl h⟩
theorem JMv.trans {g lb : Nat} {a b c : World} (h : JMv g lb a b) (k : JMv g lb b c) : JMv g lb a c :=
  ⟨k.os.trans h.os, k.tape.trans h.tape, k.output.trans h.output, Nat.le_trans h.size k.size,
   fun x hx hn => (k.block x (Nat.lt_of_lt_of_le hx h.size) (fun hf => by
    rcases h.foot x hf with h1 | h1
    · exact hn h1
    · omega)).trans (h.block x hx hn),
   fun x hx => by
    rcases k.foot x hx with h1 | h1
    · exact h.foot x h1
    · have := h.size; exact .inr (by omega)⟩
/-- A row is left alone where another block is written. -/
theorem SOwn.other {w w' : World} {base : Nat} {v : Value} {l : List (List UInt8)} {r : Option Nat} (h : SOwn w base v l) (hg : w.grownBy w' r) (hr : v.ownBlock ≠ r) : SOwn w' base v l := by
  obtain ⟨y1, y | ⟨b, cap, cur, rfl, y2, hb, y3⟩⟩ := h
  · exact ⟨y1, .inl y⟩
  · exact ⟨y1, .inr ⟨b, cap, cur, rfl, y2, (hg.block b (Array.getElem?_eq_some_iff.1 hb).1 (fun e => hr e)).trans hb, y3⟩⟩
section
variable {w0 w w' : World} {g lb f sure : Nat} {D D' : Dk.Disk} {R : List (List UInt8)} {pa : Option Addr} {pc : Nat}
theorem JV.g_lt (h : JV w0 w g lb f D R sure pa pc) : g < w.heap.size := by
  obtain ⟨vs, q, k, hv⟩ := h.mine.at_
  exact hv.lt
theorem JV.cells (h : JV w0 w g lb f D R sure pa pc) : w.cell? ⟨lb, 0, none⟩ = some (.pointer (some ⟨g, 0, none⟩)) ∧ w.cell? ⟨lb, 1, none⟩ = some (.int .i64 (f : Int)) ∧ w.cell? ⟨lb, 2, none⟩ = some (.slice pa R.length pc) ∧ w.cell? ⟨lb, 3, none⟩ = some (.int .i64 (sure : Int)) ∧ w.cell? ⟨lb, 4, none⟩ = some (.int .i64 ((16 + (Jn.forms R).length : Nat) : Int)) :=
  ⟨h.blk.cell (j := 0) rfl, h.blk.cell (j := 1) rfl, h.blk.cell (j := 2) rfl, h.blk.cell (j := 3) rfl, h.blk.cell (j := 4) rfl⟩
theorem jfoot_same (he : w'.heap[g]? = w.heap[g]?) (hl : w'.heap[lb]? = w.heap[lb]?) {b : Nat} (h : JFoot w' g lb b) : JFoot w g lb b := by
  rcases h with h | h | ⟨v, hc, hv⟩
  · exact .inl (foot_same he h)
  · exact .inr (.inl h)
  · exact .inr (.inr ⟨v, by rw [← hc]; exact (World.cell?_of_block (a := ⟨lb, 2, none⟩) hl).symm, hv⟩)
theorem JV.quiet (h : JV w0 w g lb f D R sure pa pc) (hb : Below w.heap.size w w') : JV w0 w' g lb f D R sure pa pc ∧ JMv g lb w w' :=
  ⟨⟨h.mine.quiet hb, h.env, h.ge, (hb.block lb h.blk.lt).trans h.blk, h.row.below hb, h.bound⟩,
   hb.os, hb.tape, hb.output, hb.size, fun b hb' _ => hb.block b hb', fun _ hf => .inl (jfoot_same (hb.block g h.g_lt) (hb.block lb h.blk.lt) hf)⟩
theorem JV.envw (h : JV w0 w g lb f D R sure pa pc) : EnvJ w := h.env.below h.mine.below
/-- What the disk does. -/
theorem JV.mv (h : JV w0 w g lb f D R sure pa pc) (m : MM w0 w w' g D') : JV w0 w' g lb f D' R sure pa pc ∧ JMv g lb w w' := by
  have hb := blk_mv h.blk h.mine.at_ m.mv (by decide) (by decide) (by decide)
  have e : w'.heap[lb]? = w.heap[lb]? := hb.trans h.blk.symm
  refine ⟨⟨m.mine, h.env, h.ge, hb, own_mv h.row h.mine.at_ m.mv (by decide) (by decide) (by decide), h.bound⟩, m.mv.os, m.mv.tape, m.mv.output, m.mv.size, fun b hb' hn => m.mv.block b hb' (fun hf => hn (.inl hf)), fun b hf => ?_⟩
  rcases hf with hf | hf | ⟨v, hc, hv⟩
  · rcases m.mv.foot b hf with h1 | h1
    · exact .inl (.inl h1)
    · exact .inr h1
  · exact .inl (.inr (.inl hf))
  · exact .inl (.inr (.inr ⟨v, by rw [← hc]; exact (World.cell?_of_block (a := ⟨lb, 2, none⟩) e).symm, hv⟩))
theorem JV.mm (h : JV w0 w g lb f D R sure pa pc) : MM w0 w w g D := ⟨h.mine, Mv.refl _ _⟩
/-- All rows are sure. -/
theorem JV.trust (h : JV w0 w g lb f D R sure pa pc) : JV w0 (w.setCell ⟨lb, 3, none⟩ (.int .i64 (R.length : Int))) g lb f D R R.length pa pc ∧ JMv g lb w (w.setCell ⟨lb, 3, none⟩ (.int .i64 (R.length : Int))) := by
  have hg := grown_set (grown_refl w (some lb)) 3 (.int .i64 (R.length : Int))
  have hb : Blk (w.setCell ⟨lb, 3, none⟩ (.int .i64 (R.length : Int))) lb 77 (lcells g f R.length (.slice pa R.length pc) R) := h.blk.set 3 _
  have hnr : (Value.slice pa R.length pc).ownBlock ≠ some lb := fun hv => by
    obtain ⟨_, ⟨h1, _⟩ | ⟨r, cap, cur, h1, _, h2, _⟩⟩ := h.row
    · rw [h1] at hv; cases hv
    · rw [h1] at hv
      injection hv with hv
      change r = lb at hv
      subst hv
      have h3 := h.blk
      unfold Blk at h3
      rw [h2] at h3
      injection h3 with h3
      injection h3 with _ h3 _
      exact absurd h3 (by decide)
  have ha : Aside w (some lb) := fun b hb' => by
    obtain rfl := Option.some.inj hb'
    exact ⟨_, _, _, h.blk, by decide, by decide, by decide, by decide⟩
  have hgl : g ≠ lb := fun e => by
    obtain ⟨vs, q, k, hv⟩ := h.mine.at_
    exact hv.not_foot h.blk (by decide) (by decide) (by decide) (.inl e.symm)
  refine ⟨⟨h.mine.aside hg ha (fun b hb' => by obtain rfl := Option.some.inj hb'; exact h.ge), h.env, h.ge, hb, h.row.other hg (fun e => hnr e), h.bound⟩, rfl, rfl, rfl, by rw [set_size]; exact Nat.le_refl _, fun b hb' hn => set_other _ _ _ _ _ (fun e => hn (.inr (.inl e))), fun b hf => .inl ?_⟩
  rcases hf with hf | hf | ⟨v, hc, hv⟩
  · exact .inl (foot_same (set_other _ _ _ _ _ hgl) hf)
  · exact .inr (.inl hf)
  · refine .inr (.inr ⟨v, ?_, hv⟩)
    rw [hb.cell (j := 2) rfl] at hc
    rw [h.cells.2.2.1]
    exact hc
end
end Go.Proofs.YtbpodclodflgfaaDoor
namespace Go.Proofs.YtbpodclodflgfaaDoor
open Go Go.RowKit
theorem JV.drewn {w0 w : World} {g lb f sure : Nat} {D : Dk.Disk} {R : List (List UInt8)} {pa : Option Addr} {pc : Nat} (h : JV w0 w g lb f D R sure pa pc) : JV w0 w.drew g lb f D R sure pa pc := (h.quiet (below_drew (Below.refl _ _))).1
theorem enc_add (a b : List UInt8) : enc a ++ enc b = enc (a ++ b) := ba_ext (by simp [enc])
section
variable {w0 w : World} {g lb f sure : Nat} {D : Dk.Disk} {R : List (List UInt8)} {pa : Option Addr} {pc : Nat}
set_option maxHeartbeats 1000000 in
set_option maxRecDepth 100000 in
theorem header_any (h : JV w0 w g lb f D R sure pa pc) : Calls Tryd.prog 56 #[.pointer (some ⟨lb, 0, none⟩)] w fun e w' => e = .returned (.string (enc (Jn.header R))) ∧ Below w.heap.size w w' := by
  have H := Lib.hid h.drewn
  obtain ⟨c0, c1, c2, c3, c4⟩ := h.cells
  have HM := Lib.hid (show Jn.header R = Jn.num ((16 + (Jn.forms R).length : Nat) : Int) ++ Jn.num (R.length : Int) by unfold Jn.header; push_cast; rfl)
  have C1 := Lib.hid (fun w1 : World => formOf_any ((16 + (Jn.forms R).length : Nat) : Int) w1)
  have C2 := Lib.hid (fun w1 : World => formOf_any (R.length : Int) w1)
  have l1 := Jn.num_length ((16 + (Jn.forms R).length : Nat) : Int)
  have l2 := Jn.num_length (R.length : Int)
  obtain ⟨m1, hm1⟩ : ∃ m, Jn.num ((16 + (Jn.forms R).length : Nat) : Int) = m := ⟨_, rfl⟩
  obtain ⟨m2, hm2⟩ : ∃ m, Jn.num (R.length : Int) = m := ⟨_, rfl⟩
  obtain ⟨en, hen⟩ : ∃ en : Int, ((16 + (Jn.forms R).length : Nat) : Int) = en := ⟨_, rfl⟩
  rw [hm1] at HM C1 l1
  rw [hm2] at HM C2 l2
  rw [hen] at C1 c4
  rw [HM.out]
  have hadd := fun w' : World => run_string_add_sum (P := Tryd.prog) (w := w') (enc m1) (enc m2) (by rw [Lib.size_eq, Lib.size_eq, enc_list, enc_list]; omega)
  rw [enc_add] at hadd
  have KEEP := Lib.hid (fun (w1 : World) (hb : Below w.drew.heap.size w.drew w1) => show w1.cell? ⟨lb, 2, none⟩ = some (.slice pa R.length pc) ∧ w1.cell? ⟨lb, 4, none⟩ = some (.int .i64 en) from by
    have := (H.out.quiet hb).1.cells
    rw [hen] at this
    exact ⟨this.2.2.1, this.2.2.2.2⟩)
  clear hm1 hm2 hen h l1 l2
  go_enter Tryd.func56, Tryd.ntmps56
  go_wp2
  go_region_with (go_at_call 84; first
    | (with_reducible refine (C2.out _).mono ?_; rintro _ w3 ⟨rfl, hb3⟩; have hb9 := below_to hb8 (Nat.le_refl _) hb3)
    | (with_reducible refine (C1.out _).mono ?_; rintro _ w2 ⟨rfl, hb2⟩; have hb8 := hb2; obtain ⟨k2, k4⟩ := KEEP.out _ hb2)
    | (with_reducible refine (C2.out _).mono ?_; rintro _ w2 ⟨rfl, hb2⟩; have hb8 := hb2; obtain ⟨k2, k4⟩ := KEEP.out _ hb2)
    | (with_reducible refine (C1.out _).mono ?_; rintro _ w3 ⟨rfl, hb3⟩; have hb9 := below_to hb8 (Nat.le_refl _) hb3))
  all_goals go_wp2
  all_goals go_ret
  all_goals exact ⟨rfl, (below_drew (Below.refl _ _)).trans hb9⟩
set_option maxHeartbeats 1000000 in
set_option maxRecDepth 100000 in
theorem sure_any (h : JV w0 w g lb f D R sure pa pc) : Calls Tryd.prog 34 #[.pointer (some ⟨lb, 0, none⟩)] w fun e w' => e = .returned (.int .i64 (sure : Int)) ∧ w = w' := by
  obtain ⟨c0, c1, c2, c3, c4⟩ := h.cells
  clear h
  go_enter Tryd.func34, Tryd.ntmps34
  go_wp2
  go_ret
  exact ⟨rfl, rfl⟩
set_option maxHeartbeats 1000000 in
set_option maxRecDepth 100000 in
theorem all_any (h : JV w0 w g lb f D R sure pa pc) : Calls Tryd.prog 33 #[.pointer (some ⟨lb, 0, none⟩)] w fun e w' => ∃ xa xc, e = .returned (.slice xa R.length xc) ∧ SOwn w' w.heap.size (.slice xa R.length xc) R ∧ Below w.heap.size w w' := by
  obtain ⟨c0, c1, c2, c3, c4⟩ := h.cells
  obtain ⟨b, hl, _, hnil⟩ := h.row.lv
  have C := Lib.hid (cloneS_any pa b 0 R.length pc R w hl rfl hnil (by have := Jn.forms_count R; have := h.bound; omega))
  clear h hl hnil
  go_enter Tryd.func33, Tryd.ntmps33
  go_wp2_with (go_at_call 52; with_reducible refine C.out.mono ?_; rintro _ w2 ⟨xa, xc, rfl, ho, hb⟩; have HO := Lib.hid ho; have HB := Lib.hid hb; clear ho hb)
  go_ret
  exact ⟨xa, xc, rfl, HO.out, HB.out⟩
set_option maxHeartbeats 1000000 in
set_option maxRecDepth 100000 in
theorem trust_any (h : JV w0 w g lb f D R sure pa pc) : Calls Tryd.prog 43 #[.pointer (some ⟨lb, 0, none⟩)] w fun e w' => e = .returned (.int .i64 0) ∧ JV w0 w' g lb f D R R.length pa pc ∧ JMv g lb w w' := by
  obtain ⟨c0, c1, c2, c3, c4⟩ := h.cells
  have fr := h.blk.free 3
  have H := Lib.hid h.trust
  clear h
  go_enter Tryd.func43, Tryd.ntmps43
  go_wp2
  go_ret
  exact ⟨rfl, H.out.1, H.out.2⟩
set_option maxHeartbeats 1000000 in
set_option maxRecDepth 100000 in
theorem flushFile_any (h : JV w0 w g lb f D R sure pa pc) : Calls Tryd.prog 41 #[.pointer (some ⟨lb, 0, none⟩)] w fun e w' => e = .returned (.int .i64 (Dk.ec (Dk.flush D f).1)) ∧ JV w0 w' g lb f (Dk.flush D f).2 R sure pa pc ∧ JMv g lb w w' := by
  obtain ⟨c0, c1, c2, c3, c4⟩ := h.cells
  have C := Lib.hid (fun (w1 : World) (hb : JV w0 w1 g lb f D R sure pa pc) => mm_flush hb.mm (f : Int))
  have H := Lib.hid h
  have H1 := Lib.hid h.drewn
  obtain ⟨re, hre⟩ : ∃ re, Dk.ec (Dk.flush D f).1 = re := ⟨_, rfl⟩
  rw [hre] at C ⊢
  clear h hre
  go_enter Tryd.func41, Tryd.ntmps41
  go_wp2
  go_region_with (go_at_call 77; with_reducible refine (C.out _ H1.out).mono ?_; rintro _ w2 ⟨rfl, hm⟩)
  all_goals go_wp2
  all_goals go_ret
  all_goals exact ⟨rfl, (H1.out.mv hm).1, (H.out.quiet (below_drew (Below.refl _ _))).2.trans (H1.out.mv hm).2⟩
set_option maxHeartbeats 1000000 in
set_option maxRecDepth 100000 in
theorem writeHeader_any (h : JV w0 w g lb f D R sure pa pc) (hq : D.queue.length ≤ 900000) : Calls Tryd.prog 42 #[.pointer (some ⟨lb, 0, none⟩)] w fun e w' => e = .returned (.int .i64 (Dk.ec (Dk.write D f 0 (Jn.header R)).1)) ∧ JV w0 w' g lb f (Dk.write D f 0 (Jn.header R)).2 R sure pa pc ∧ JMv g lb w w' := by
  obtain ⟨c0, c1, c2, c3, c4⟩ := h.cells
  have hl : (enc (Jn.header R)).size = 16 := by rw [Lib.size_eq, enc_list, Jn.header_length]
  have C := Lib.hid (fun (w1 : World) (hb : JV w0 w1 g lb f D R sure pa pc) => mm_write hb.mm (f : Int) 0 (by decide) (by decide) (enc (Jn.header R)) (by omega) (by omega))
  have CH := Lib.hid (fun (w1 : World) (hb : JV w0 w1 g lb f D R sure pa pc) => header_any hb)
  have H := Lib.hid h
  have H1 := Lib.hid h.drewn
  rw [show (enc (Jn.header R)).data.toList = Jn.header R from rfl] at C
  obtain ⟨re, hre⟩ : ∃ re, Dk.ec (Dk.write D f 0 (Jn.header R)).1 = re := ⟨_, rfl⟩
  rw [hre] at C ⊢
  clear h hre hl
  go_enter Tryd.func42, Tryd.ntmps42
  go_wp2
  go_region_with (first | (go_at_call 37; with_reducible refine (C.out _ H2.out).mono ?_; rintro _ w3 ⟨rfl, hm⟩) | (go_at_call 56; with_reducible refine (CH.out _ H1.out).mono ?_; rintro _ w2 ⟨rfl, hb2⟩; have H2 := Lib.hid (H1.out.quiet hb2).1; have M2 := Lib.hid (H1.out.quiet hb2).2; obtain ⟨k0, k1, k2, k3, k4⟩ := H2.out.cells))
  all_goals go_wp2
  all_goals go_ret
  all_goals exact ⟨rfl, (H2.out.mv hm).1, ((H.out.quiet (below_drew (Below.refl _ _))).2.trans M2.out).trans (H2.out.mv hm).2⟩
end
end Go.Proofs.YtbpodclodflgfaaDoor
namespace Go.Proofs.YtbpodclodflgfaaDoor
open Go Go.RowKit
section
variable {w : World} {ops : Array Oper} {o : Oper} {a : Act} {Q : Exit → Act → World → Prop}
/-- Strings are appended; the row lies where it lay or in a new block. -/
theorem wpList_append_sf {rest : List Oper} (hgd : o.guard = none) (s x : Operand) (ho : o.op = .call { callee := .builtin .append, args := #[s, x], argTypes := #[36, 36] })
    (base : Nat) (v : Value) (L : List (List UInt8)) (hs : a.eval s = v) (hown : SOwn w base v L) (ad : Addr) (m c : Nat) (news : List (List UInt8)) (hx : a.eval x = .slice (some ad) m c) (hl : news.length = m)
    (hnews : ∀ j u, (sv news)[j]? = some u → w.cell? (ad.add j) = some u) (hbig : L.length + m ≤ 1000000000) (hbase : base ≤ w.heap.size)
    (h : ∀ pa pn pc w', Hid (SOwn w' base (.slice pa pn pc) (L ++ news)) → Hid (w.grownBy w' v.ownBlock) → Hid (SF w v (.slice pa pn pc)) → wpList Tryd.prog ops Q rest (a.put o.dst (.slice pa pn pc)) w') : wpList Tryd.prog ops Q (o :: rest) a w :=
  wpList_plain hgd fun _ hK => by
    obtain ⟨i0, hi, hz0, hz1, hz2⟩ := info_parts infoS
    obtain ⟨v', w', hr, h2, h3, h4⟩ := app_same w o.type i0 _ 16 Tryd.underlying36 hi hz0 hz1 hz2 rfl (by omega) hown ad m c (sv news) (by rw [sv_length, hl]; simp) hnews (sv_cells _) (by unfold maxLen; omega) (by omega) hbase
    have e1 : (L ++ news).length = L.length + m := by rw [List.length_append, hl]
    have e2 : sv (L ++ news) = sv L ++ sv news := by simp [sv]
    have h5 : SOwn w' base v' (L ++ news) := by
      unfold SOwn
      rw [e1, e2]
      exact h2
    obtain ⟨xa, b, cap, rfl, _⟩ := h5.row
    unfold Oper.wp execOp
    simp only [ho, resolve, invoke, builtin, Sem.run_bind, Sem.run_pure, Result.andThen_ok, List.map_toArray, List.map_cons, List.map_nil, hs, hx, hr]
    exact hK _ _ (h xa _ cap w' (Lib.hid h5) (Lib.hid h3) (Lib.hid h4))
end
theorem Lv.jmv {w w' : World} {g lb : Nat} {xa : Option Addr} {b off cap : Nat} {X : List (List UInt8)} (h : Lv w xa b off cap X) (m : JMv g lb w w') (hn : 0 < X.length → ¬ JFoot w g lb b) : Lv w' xa b off cap X :=
  ⟨h.at_, fun j hj => (World.cell?_of_block (a := ⟨b, off + j, none⟩) (m.block b (h.lt (by omega)) (hn (by omega)))).trans (h.cell j hj), fun hp => Nat.lt_of_lt_of_le (h.lt hp) m.size, h.le⟩
section
variable {w0 w w1 : World} {g lb f sure : Nat} {D : Dk.Disk} {R X : List (List UInt8)} {pa qa : Option Addr} {pc qn qc : Nat}
theorem JV.noself (h : JV w0 w g lb f D R sure pa pc) : (Value.slice pa R.length pc).ownBlock ≠ some lb ∧ g ≠ lb := by
  refine ⟨fun hv => ?_, fun e => ?_⟩
  · obtain ⟨_, ⟨h1, _⟩ | ⟨r, cap, cur, h1, _, h2, _⟩⟩ := h.row
    · rw [h1] at hv; cases hv
    · rw [h1] at hv
      injection hv with hv
      change r = lb at hv
      subst hv
      have h3 := h.blk
      unfold Blk at h3
      rw [h2] at h3
      injection h3 with h3
      injection h3 with _ h3 _
      exact absurd h3 (by decide)
  · obtain ⟨vs, q, k, hv⟩ := h.mine.at_
    exact hv.not_foot h.blk (by decide) (by decide) (by decide) (.inl e.symm)
/-- The rows' row grows, and the log's two fields are set. -/
theorem JV.added (h : JV w0 w g lb f D R sure pa pc) (hg : w.grownBy w1 (Value.slice pa R.length pc).ownBlock) (ho : SOwn w1 w0.heap.size (.slice qa qn qc) (R ++ X)) (hsf : SF w (.slice pa R.length pc) (.slice qa qn qc)) (hb : (Jn.forms (R ++ X)).length ≤ 16777216) :
    JV w0 ((w1.setCell ⟨lb, 2, none⟩ (.slice qa qn qc)).setCell ⟨lb, 4, none⟩ (.int .i64 ((16 + (Jn.forms (R ++ X)).length : Nat) : Int))) g lb f D (R ++ X) sure qa qc ∧
      JMv g lb w ((w1.setCell ⟨lb, 2, none⟩ (.slice qa qn qc)).setCell ⟨lb, 4, none⟩ (.int .i64 ((16 + (Jn.forms (R ++ X)).length : Nat) : Int))) := by
  obtain ⟨hn1, hgl⟩ := h.noself
  have hm1 := h.mine.aside hg (aside_own h.row (by decide) (by decide) (by decide) (by decide)) (own_from h.row)
  have hb1 : Blk w1 lb 77 (lcells g f sure (.slice pa R.length pc) R) := (hg.block lb h.blk.lt (fun e => hn1 e.symm)).trans h.blk
  obtain ⟨b9, hl9, hlen, _⟩ := ho.lv
  subst hlen
  have ha1 : ∀ {c : World} {L : List Value}, Blk c lb 77 L → Aside c (some lb) := fun hk b hb' => by
    obtain rfl := Option.some.inj hb'
    exact ⟨_, _, _, hk, by decide, by decide, by decide, by decide⟩
  have hge : ∀ b, some lb = some b → w0.heap.size ≤ b := fun b hb' => by obtain rfl := Option.some.inj hb'; exact h.ge
  have hb2 := hb1.set 2 (.slice qa (R ++ X).length qc)
  have hb3 := hb2.set 4 (.int .i64 ((16 + (Jn.forms (R ++ X)).length : Nat) : Int))
  have hm2 := hm1.aside (grown_set (grown_refl w1 (some lb)) 2 (.slice qa (R ++ X).length qc)) (ha1 hb1) hge
  have hm3 := hm2.aside (grown_set (grown_refl _ (some lb)) 4 (.int .i64 ((16 + (Jn.forms (R ++ X)).length : Nat) : Int))) (ha1 hb2) hge
  have hnr : (Value.slice qa (R ++ X).length qc).ownBlock ≠ some lb := fun hv => by
    obtain ⟨_, ⟨h1, _⟩ | ⟨r, cap, cur, h1, _, h2, _⟩⟩ := ho
    · rw [h1] at hv; cases hv
    · rw [h1] at hv
      injection hv with hv
      change r = lb at hv
      subst hv
      unfold Blk at hb1
      rw [h2] at hb1
      injection hb1 with h3
      injection h3 with _ h3 _
      exact absurd h3 (by decide)
  have ho2 := (ho.other (grown_set (grown_refl w1 (some lb)) 2 (.slice qa (R ++ X).length qc)) hnr).other (grown_set (grown_refl _ (some lb)) 4 (.int .i64 ((16 + (Jn.forms (R ++ X)).length : Nat) : Int))) hnr
  refine ⟨⟨hm3, h.env, h.ge, hb3, ho2, hb⟩, hg.os, hg.tape, hg.output, by rw [set_size, set_size]; exact hg.size, fun b hb' hn => ?_, fun b hf => ?_⟩
  · rw [set_other _ _ _ _ _ (fun e => hn (.inr (.inl e))), set_other _ _ _ _ _ (fun e => hn (.inr (.inl e)))]
    exact hg.block b hb' (fun e => hn (.inr (.inr ⟨_, h.cells.2.2.1, e.symm⟩)))
  · rcases hf with hf | hf | ⟨v, hc, hv⟩
    · have hgs : w1.heap[g]? = w.heap[g]? := hg.block g h.g_lt (fun e => by
        obtain ⟨vs, q, k, hd⟩ := h.mine.at_
        obtain ⟨cs, t, z, hbk, h1, h2, h3, _⟩ := aside_own h.row (by decide) (by decide) (by decide) (by decide) g e.symm
        exact hd.not_foot hbk h1 h2 h3 (.inl rfl))
      exact .inl (.inl (foot_same (((set_other _ _ _ _ _ hgl).trans (set_other _ _ _ _ _ hgl)).trans hgs) hf))
    · exact .inl (.inr (.inl hf))
    · rw [hb3.cell (j := 2) rfl] at hc
      injection hc with hc
      subst hc
      rcases hsf with h1 | ⟨b2, h1, h2⟩
      · exact .inl (.inr (.inr ⟨_, h.cells.2.2.1, h1 ▸ hv⟩))
      · rw [h1] at hv
        injection hv with hv
        subst hv
        exact .inr h2
end
end Go.Proofs.YtbpodclodflgfaaDoor
namespace Go.Proofs.YtbpodclodflgfaaDoor
open Go Go.RowKit
namespace Jn
/-- The rows of the log behind an addition. -/
def addRows (e : Dk.E) (R X : List B) : List B := if e = .ok then R ++ X else R
theorem ec_ok {e : Dk.E} : Dk.ec e = 0 ↔ e = .ok := by cases e <;> simp [Dk.ec]
theorem ok_write {D : Dk.Disk} {f at_ : Int} {s : B} (h : (Dk.write D f at_ s).1 = .ok) : at_ + s.length ≤ 16777216 := by
  unfold Dk.write Dk.writeB at h
  split at h
  · split at h
    · cases h
    · split at h
      · next hf =>
        unfold Dk.fits at hf
        simp at hf
        omega
      · cases h
  · next hm => exact absurd h hm
end Jn
section
variable {w0 w : World} {g lb f sure : Nat} {D : Dk.Disk} {R X : List (List UInt8)} {pa xa : Option Addr} {pc b off cap n : Nat}
set_option maxHeartbeats 4000000 in
set_option maxRecDepth 100000 in
theorem add_any (h : JV w0 w g lb f D R sure pa pc) (hL : Lv w xa b off cap X) (hnf : 0 < X.length → ¬ JFoot w g lb b) (hn : X.length = n) (hp : 0 < n) (hX : (Jn.forms X).length ≤ 500000) (hq : D.queue.length ≤ 400000) :
    Calls Tryd.prog 49 #[.pointer (some ⟨lb, 0, none⟩), .slice xa n cap] w fun e w' => e = .returned (.int .i64 (Dk.ec (Dk.write D f ((16 + (Jn.forms R).length : Nat) : Int) (Jn.forms X)).1)) ∧ JL w0 w' g lb f (Dk.write D f ((16 + (Jn.forms R).length : Nat) : Int) (Jn.forms X)).2 (Jn.addRows (Dk.write D f ((16 + (Jn.forms R).length : Nat) : Int) (Jn.forms X)).1 R X) sure ∧ JMv g lb w w' := by
  obtain ⟨c0, c1, c2, c3, c4⟩ := h.cells
  obtain rfl := hL.at_ (by omega)
  have hfl : (enc (Jn.forms X)).size = (Jn.forms X).length := by rw [Lib.size_eq, enc_list]
  have hRb := h.bound
  have CF := Lib.hid (formsOf_any X n hn (by omega) (some ⟨b, off, none⟩) b off cap w hL h.envw)
  have CW := Lib.hid (fun (w1 : World) (hv : JV w0 w1 g lb f D R sure pa pc) => mm_write hv.mm (f : Int) ((16 + (Jn.forms R).length : Nat) : Int) (by omega) (by omega) (enc (Jn.forms X)) (by omega) (by omega))
  rw [enc_list] at CW
  have H := Lib.hid h
  have HL := Lib.hid hL
  have HNF := Lib.hid (hnf (by omega))
  have HN := Lib.hid hn
  have HW := Lib.hid (fun h => Jn.ok_write (D := D) (f := (f : Int)) (at_ := ((16 + (Jn.forms R).length : Nat) : Int)) (s := Jn.forms X) h)
  have HFA := Lib.hid (Jn.forms_append R X)
  have HRN := Lib.hid (Jn.forms_count R)
  have HXN := Lib.hid (Jn.forms_count X)
  obtain ⟨D', hD'⟩ : ∃ D', (Dk.write D f ((16 + (Jn.forms R).length : Nat) : Int) (Jn.forms X)).2 = D' := ⟨_, rfl⟩
  obtain ⟨er, her⟩ : ∃ er, (Dk.write D f ((16 + (Jn.forms R).length : Nat) : Int) (Jn.forms X)).1 = er := ⟨_, rfl⟩
  rw [her] at HW CW
  rw [hD'] at CW
  rw [hD', her]
  obtain ⟨re, hre⟩ : ∃ re, Dk.ec er = re := ⟨_, rfl⟩
  rw [hre] at CW ⊢
  have HRE := Lib.hid (show re = 0 ↔ er = .ok by rw [← hre]; exact Jn.ec_ok)
  obtain ⟨en, hen⟩ : ∃ en : Nat, 16 + (Jn.forms R).length = en := ⟨_, rfl⟩
  obtain ⟨S, hS⟩ : ∃ S, enc (Jn.forms X) = S := ⟨_, rfl⟩
  rw [hen] at CW c4 HW
  rw [hS] at CF CW hfl
  have HEN := Lib.hid hen
  have HFL := Lib.hid hfl
  have hen2 : en ≤ 16777232 := by omega
  have hS2 : S.size ≤ 500000 := by omega
  have HB9 := Lib.hid (show R.length + n ≤ 1000000000 by have := HRN.out; have := HXN.out; omega)
  clear h hL hnf hn hX hq hD' her hre hen hS hfl hRb
  go_enter Tryd.func49, Tryd.ntmps49
  go_wp2_with (go_at_call 51; with_reducible refine CF.out.mono ?_; rintro _ w1 ⟨rfl, hb1⟩; have H1 := Lib.hid (H.out.quiet hb1).1; have M1 := Lib.hid (H.out.quiet hb1).2; have H2 := Lib.hid H1.out.drewn; have M2 := Lib.hid (M1.out.trans (H1.out.quiet (below_drew (Below.refl _ _))).2); obtain ⟨k0, k1, k2, k3, k4⟩ := H1.out.cells; rw [HEN.out] at k4; clear hb1)
  go_region_with (go_at_call 37; with_reducible refine (CW.out _ H2.out).mono ?_; rintro _ w3 ⟨rfl, hm⟩; have H3 := Lib.hid (H2.out.mv hm).1; have M3 := Lib.hid (M2.out.trans (H2.out.mv hm).2))
  all_goals (
    obtain ⟨k0, k1, k2, k3, k4⟩ := H3.out.cells
    rw [HEN.out] at k4
    by_cases he : re = 0
    · subst he
      have hok := HRE.out.1 rfl
      subst hok
      have hb3 : en + S.size ≤ 16777216 := by have := HW.out rfl; have := HFL.out; omega
      have HB3 := Lib.hid hb3
      have HFIN : RowKit.Hid (((16 + (Jn.forms (R ++ X)).length : Nat) : Int) = (en : Int) + (S.size : Int)) := Lib.hid (by rw [HFA.out, List.length_append]; have := HEN.out; have := HFL.out; omega)
      have HLv := Lib.hid (HL.out.jmv M3.out (fun _ => HNF.out))
      have fr2 := H3.out.blk.free 2
      have fr4 := H3.out.blk.free 4
      go_wp2_with (at_builtin; refine wpList_append_sf rfl (.tmp 30) (.tmp 31) rfl w0.heap.size _ R rfl H3.out.row ⟨b, off, none⟩ n cap X rfl HN.out HLv.out.news HB9.out H3.out.mine.below.size ?_; intro qa qn qc w4 HO4 HG4 HS4; have bk4 : Blk w4 lb 77 (lcells g f sure (.slice pa R.length pc) R) := (HG4.out.block lb H3.out.blk.lt (fun e => H3.out.noself.1 e.symm)).trans H3.out.blk; have bk5 := bk4.set 2 (.slice qa qn qc); have fq2 := bk4.free 2; have fq4 := bk5.free 4; have kq2 := bk4.cell (j := 2) rfl; have kq4 := bk5.cell (j := 4) rfl; rw [HEN.out] at kq4; have HA := Lib.hid (H3.out.added (X := X) HG4.out HO4.out HS4.out (by rw [HFA.out, List.length_append]; have := HEN.out; have := HFL.out; have := HB3.out; omega)); rw [HFIN.out] at HA; clear bk4 bk5)
      go_ret
      refine ⟨rfl, ⟨qa, qc, HA.out.1⟩, M3.out.trans HA.out.2⟩
    · have he2 : (re != 0) = true := by simpa using he
      go_wp2
      go_ret
      refine ⟨rfl, ⟨pa, pc, ?_⟩, M3.out⟩
      have e : Jn.addRows er R X = R := by unfold Jn.addRows; rw [if_neg (fun h => he (HRE.out.2 h))]
      rw [e]
      exact H3.out)
end
end Go.Proofs.YtbpodclodflgfaaDoor
