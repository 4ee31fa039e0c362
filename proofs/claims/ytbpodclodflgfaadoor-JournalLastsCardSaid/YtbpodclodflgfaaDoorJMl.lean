/-
  A log beside a list of lists of strings; what the law holds of them.
-/
import Derived.Test.YtbpodclodflgfaaDoorJLi
import Derived.Deep.RegionHeld3
namespace Go.Proofs.YtbpodclodflgfaaDoor
open Go Go.RowKit
/-- A list of strings in memory: the header, and where it lies. -/
structure ME where
  xa : Option Addr
  b : Nat
  off : Nat
  n : Nat
  c : Nat
  X : List (List UInt8)
def mev (e : ME) : Value := .slice e.xa e.n e.c
/-- It reads, and lies apart of the log and of the row v. -/
structure Safe (w : World) (g lb : Nat) (v : Value) (e : ME) : Prop where
  lv : Lv w e.xa e.b e.off e.c e.X
  len : e.X.length = e.n
  nil : e.xa = none → e.c = 0
  ap : 0 < e.X.length → ¬ JFoot w g lb e.b ∧ v.ownBlock ≠ some e.b
theorem mev_cells (M : List ME) : ∀ u ∈ M.map mev, u.oneCell' = true := fun u hu => by
  obtain ⟨e, _, rfl⟩ := List.mem_map.1 hu
  rfl
section
variable {w0 w w' w1 : World} {g lb f sure : Nat} {D D' : Dk.Disk} {R R' : List (List UInt8)} {pa : Option Addr} {pc sure' : Nat}
theorem owns_jmv {base : Nat} {e : TypeId} {sz : Nat} {v : Value} {n : Nat} {xs : List Value} (ho : w.ownsRow base e sz v n xs) (m : JMv g lb w w') (ha : ∀ b, v.ownBlock = some b → ¬ JFoot w g lb b) : w'.ownsRow base e sz v n xs ∧ ∀ b, v.ownBlock = some b → ¬ JFoot w' g lb b := by
  have hlt := fun b hb => (World.ownsRow.lt ho b hb).2
  refine ⟨?_, fun b hb hf => ?_⟩
  · obtain ⟨y1, y | ⟨b, cap, cur, rfl, y2, hb, y3⟩⟩ := ho
    · exact ⟨y1, .inl y⟩
    · exact ⟨y1, .inr ⟨b, cap, cur, rfl, y2, (m.block b (hlt b rfl) (ha b rfl)).trans hb, y3⟩⟩
  · rcases m.foot b hf with h1 | h1
    · exact ha b hb h1
    · have := hlt b hb
      omega
/-- A row beside the log is written. -/
theorem JV.beside' {e : TypeId} {sz : Nat} {v : Value} {n : Nat} {xs : List Value} (h : JV w0 w g lb f D R sure pa pc) (ho : w.ownsRow w0.heap.size e sz v n xs) (h1 : e ≠ 70) (h2 : e ≠ 5) (h3 : e ≠ 86) (h4 : e ≠ 3) (ha : ∀ b, v.ownBlock = some b → ¬ JFoot w g lb b) (hg : w.grownBy w1 v.ownBlock) : JV w0 w1 g lb f D R sure pa pc ∧ ∀ b, JFoot w1 g lb b → JFoot w g lb b := by
  have hlb : w1.heap[lb]? = w.heap[lb]? := hg.block lb h.blk.lt (fun e => ha lb e.symm (.inr (.inl rfl)))
  have hgb : w1.heap[g]? = w.heap[g]? := hg.block g h.g_lt (fun e => ha g e.symm (.inl (.inl rfl)))
  have hrow : SOwn w1 w0.heap.size (.slice pa R.length pc) R := by
    have hlt := fun b hb => (World.ownsRow.lt h.row b hb).2
    have hc := h.cells.2.2.1
    obtain ⟨y1, y | ⟨b, cap, cur, y0, y2, hb, y3⟩⟩ := h.row
    · exact ⟨y1, .inl y⟩
    · refine ⟨y1, .inr ⟨b, cap, cur, y0, y2, (hg.block b (hlt b (by rw [y0]; rfl)) (fun e => ha b e.symm (.inr (.inr ⟨_, hc, by rw [y0]; rfl⟩)))).trans hb, y3⟩⟩
  exact ⟨⟨h.mine.aside hg (aside_own ho h1 h2 h3 h4) (own_from ho), h.env, h.ge, hlb.trans h.blk, hrow, h.bound⟩, fun b hf => jfoot_same hgb hlb hf⟩
theorem Safe.jmv {v : Value} {e : ME} (h : Safe w g lb v e) (m : JMv g lb w w') : Safe w' g lb v e :=
  ⟨h.lv.jmv m (fun hp => (h.ap hp).1), h.len, h.nil, fun hp => ⟨fun hf => by
    rcases m.foot _ hf with h1 | h1
    · exact (h.ap hp).1 h1
    · have := h.lv.lt hp; omega, (h.ap hp).2⟩⟩
/-- The maybe row grows. -/
theorem Safe.grown {v v' : Value} {e : ME} (h : Safe w g lb v e) (hg : w.grownBy w1 v.ownBlock) (hf : ∀ b, JFoot w1 g lb b → JFoot w g lb b) (hsf : SF w v v') : Safe w1 g lb v' e := by
  refine ⟨⟨h.lv.at_, fun j hj => ?_, fun hp => Nat.lt_of_lt_of_le (h.lv.lt hp) hg.size, h.lv.le⟩, h.len, h.nil, fun hp => ⟨fun hq => (h.ap hp).1 (hf _ hq), fun hv => ?_⟩⟩
  · rw [← h.lv.cell j hj]
    exact World.cell?_of_block (a := ⟨e.b, e.off + j, none⟩) (hg.block e.b (h.lv.lt (by omega)) (fun q => (h.ap (by omega)).2 q.symm))
  · rcases hsf with q | ⟨c, q, hc⟩
    · exact (h.ap hp).2 (q ▸ hv)
    · rw [q] at hv
      obtain rfl := Option.some.inj hv
      have := h.lv.lt hp
      omega
theorem Safe.nil_row {v : Value} {e : ME} (h : Safe w g lb v e) : Safe w g lb (.slice none 0 0) e := ⟨h.lv, h.len, h.nil, fun hp => ⟨(h.ap hp).1, fun q => by cases q⟩⟩
end
/-- The log; the law's list of lists v with the entries M; what it holds besides, H; the deed's block. -/
structure ML (w2 w : World) (g lb f : Nat) (D : Dk.Disk) (R : List (List UInt8)) (sure : Nat) (v : Value) (M H : List ME) : Prop where
  jv : JL w2 w g lb f D R sure
  own : w.ownsRow w2.heap.size 36 1 v M.length (M.map mev)
  ap : ∀ b, v.ownBlock = some b → ¬ JFoot w g lb b
  held : ∀ e, e ∈ M ∨ e ∈ H → Safe w g lb v e
section
variable {w2 w w' w1 : World} {g lb f sure : Nat} {D D' : Dk.Disk} {R R' : List (List UInt8)} {sure' : Nat} {v v' : Value} {M H H' : List ME}
theorem ML.below (h : ML w2 w g lb f D R sure v M H) : Below w2.heap.size w2 w := by
  obtain ⟨pa, pc, hj⟩ := h.jv
  exact hj.mine.below
theorem ML.call (h : ML w2 w g lb f D R sure v M H) (hj : JL w2 w' g lb f D' R' sure') (m : JMv g lb w w') : ML w2 w' g lb f D' R' sure' v M H := by
  obtain ⟨h1, h2⟩ := owns_jmv h.own m h.ap
  exact ⟨hj, h1, h2, fun e he => (h.held e he).jmv m⟩
theorem ML.quiet (h : ML w2 w g lb f D R sure v M H) (hb : Below w.heap.size w w') : ML w2 w' g lb f D R sure v M H := by
  obtain ⟨pa, pc, h0⟩ := h.jv
  obtain ⟨h1, h2⟩ := h0.quiet hb
  exact h.call ⟨pa, pc, h1⟩ h2
theorem ML.less (h : ML w2 w g lb f D R sure v M H) (hs : ∀ e ∈ H', e ∈ M ∨ e ∈ H) : ML w2 w g lb f D R sure v M H' :=
  ⟨h.jv, h.own, h.ap, fun e he => by
    rcases he with he | he
    · exact h.held e (.inl he)
    · exact h.held e (hs e he)⟩
/-- A list that was made since, in new memory, is held too. -/
theorem ML.hold (h : ML w2 w g lb f D R sure v M H) {e : ME} (hl : Lv w e.xa e.b e.off e.c e.X) (hn : e.X.length = e.n) (hnil : e.xa = none → e.c = 0) (hap : 0 < e.X.length → ¬ JFoot w g lb e.b ∧ v.ownBlock ≠ some e.b) : ML w2 w g lb f D R sure v M (e :: H) :=
  ⟨h.jv, h.own, h.ap, fun x hx => by
    rcases hx with hx | hx
    · exact h.held x (.inl hx)
    · rcases List.mem_cons.1 hx with rfl | hx
      · exact ⟨hl, hn, hnil, hap⟩
      · exact h.held x (.inr hx)⟩
/-- What came in is apart. -/
theorem ML.arg (h : ML w2 w g lb f D R sure v M H) {xa : Option Addr} {b off n c : Nat} {X : List (List UInt8)} (hl : Lv w2 xa b off c X) (hn : X.length = n) (hnil : xa = none → c = 0) : ML w2 w g lb f D R sure v M (⟨xa, b, off, n, c, X⟩ :: H) := by
  obtain ⟨pa, pc, h0⟩ := h.jv
  refine h.hold (e := ⟨xa, b, off, n, c, X⟩) (hl.below h.below) hn hnil fun hp => ⟨fun hf => ?_, fun hv => ?_⟩
  · have h1 := hl.lt hp
    rcases hf with hf | hf | ⟨u, hc, hv⟩
    · have := h0.mine.foot b hf; omega
    · have hf : b = lb := hf
      have := h0.ge; omega
    · rw [h0.cells.2.2.1] at hc
      injection hc with hc
      subst hc
      have := own_from h0.row b hv
      omega
  · have h1 := hl.lt hp
    have := own_from h.own b hv
    omega
/-- A row of the call's own, where it lies. -/
theorem SOwn.at_block {w : World} {base : Nat} {pa : Option Addr} {n pc : Nat} {X : List (List UInt8)} (h : SOwn w base (.slice pa n pc) X) : ∃ b, Lv w pa b 0 pc X ∧ X.length = n ∧ (pa = none → pc = 0) ∧ (0 < X.length → base ≤ b) := by
  obtain ⟨b, hl, hn, hnil⟩ := h.lv
  refine ⟨b, hl, hn, hnil, fun hp => own_from h b ?_⟩
  rw [hl.at_ hp]
  rfl
/-- A row made by a call that left all else alone. -/
theorem ML.fresh (h : ML w2 w g lb f D R sure v M H) (hb : Below w.heap.size w w') {pa : Option Addr} {n pc : Nat} {X : List (List UInt8)} (ho : SOwn w' w.heap.size (.slice pa n pc) X) : ∃ b, X.length = n ∧ ML w2 w' g lb f D R sure v M (⟨pa, b, 0, n, pc, X⟩ :: H) := by
  obtain ⟨pa0, pc0, h0⟩ := h.jv
  obtain ⟨b, hl, hn, hnil, hbb⟩ := ho.at_block
  refine ⟨b, hn, (h.quiet hb).hold (e := ⟨pa, b, 0, n, pc, X⟩) hl hn hnil fun hp => ⟨fun hf => ?_, fun hv => ?_⟩⟩
  · have h1 : b < w.heap.size := h0.foot_lt (jfoot_same (hb.block g h0.g_lt) (hb.block lb h0.blk.lt) hf)
    have h2 : w.heap.size ≤ b := hbb hp
    omega
  · have h1 : b < w.heap.size := (World.ownsRow.lt h.own b hv).2
    have h2 : w.heap.size ≤ b := hbb hp
    omega
/-- The list of lists is forgotten. -/
theorem ML.none_ (h : ML w2 w g lb f D R sure v M H) : ML w2 w g lb f D R sure (.slice none 0 0) [] (M ++ H) :=
  ⟨h.jv, World.ownsRow_nil _ _ _ _, fun b hb => (by cases hb), fun e he => by
    rcases he with he | he
    · cases he
    · exact (h.held e (List.mem_append.1 he)).nil_row⟩
theorem ML.grow (h : ML w2 w g lb f D R sure v M H) {e : ME} (he : e ∈ M ∨ e ∈ H) (hg : w.grownBy w1 v.ownBlock) (ho : w1.ownsRow w2.heap.size 36 1 v' (M ++ [e]).length ((M ++ [e]).map mev)) (hsf : SF w v v') : ML w2 w1 g lb f D R sure v' (M ++ [e]) H := by
  obtain ⟨pa, pc, h0⟩ := h.jv
  obtain ⟨h1, h2⟩ := h0.beside' h.own (by decide) (by decide) (by decide) (by decide) h.ap hg
  refine ⟨⟨pa, pc, h1⟩, ho, fun b hb hf => ?_, fun x hx => ?_⟩
  · have hf0 := h2 b hf
    rcases hsf with q | ⟨c, q, hc⟩
    · exact h.ap b (by rw [← q]; exact hb) hf0
    · rw [q] at hb
      obtain rfl := Option.some.inj hb
      have := h0.foot_lt hf0
      omega
  · have : x ∈ M ∨ x ∈ H := by
      rcases hx with hx | hx
      · rcases List.mem_append.1 hx with hx | hx
        · exact .inl hx
        · obtain rfl : x = e := by simpa using hx
          exact he
      · exact .inr hx
    exact (h.held x this).grown hg h2 hsf
/-- A list of one list, written out. -/
theorem ML.lit (h : ML w2 w g lb f D R sure v M H) {e : ME} (he : e ∈ M ∨ e ∈ H) : ML w2 (w.alloc (.cells #[mev e] 36)) g lb f D R sure (.slice (some ⟨w.heap.size, 0, none⟩) 1 1) [e] (M ++ H) := by
  have h1 := h.quiet (below_new w (.cells #[mev e] 36))
  obtain ⟨pa, pc, h0⟩ := h.jv
  refine ⟨h1.jv, ?_, fun b hb hf => ?_, fun x hx => ?_⟩
  · have := World.ownsRow_lit (e := 36) (size := 1) w #[mev e] 1 h.below.size (by unfold maxLen; omega) (by simp)
    simpa using this
  · injection hb with hb
    change w.heap.size = b at hb
    subst hb
    exact h0.fresh _ hf
  · have hx2 : x ∈ M ∨ x ∈ H := by
      rcases hx with hx | hx
      · obtain rfl : x = e := by simpa using hx
        exact he
      · exact List.mem_append.1 hx
    have hs := h1.held x hx2
    have hs0 := h.held x hx2
    refine ⟨hs.lv, hs.len, hs.nil, fun hp => ⟨(hs.ap hp).1, fun q => ?_⟩⟩
    injection q with q
    change w.heap.size = x.b at q
    have := hs0.lv.lt hp
    omega
end
end Go.Proofs.YtbpodclodflgfaaDoor
