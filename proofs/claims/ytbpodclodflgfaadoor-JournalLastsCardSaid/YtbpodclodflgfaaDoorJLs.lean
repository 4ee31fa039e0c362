/-
  A log beside the law's own list of rows, and the deed that is done.
-/
import Derived.Test.YtbpodclodflgfaaDoorJPm
namespace Go.Proofs.YtbpodclodflgfaaDoor
open Go Go.RowKit
section
variable {w : World} {ops : Array Oper} {o : Oper} {a : Act} {Q : Exit → Act → World → Prop}
/-- A list that reads is appended to a row of the call's own. -/
theorem wpList_app_lv {rest : List Oper} (hgd : o.guard = none) (s x : Operand) (ho : o.op = .call { callee := .builtin .append, args := #[s, x], argTypes := #[36, 36] })
    (base : Nat) (v : Value) (L : List (List UInt8)) (hs : a.eval s = v) (hown : SOwn w base v L) (xa : Option Addr) (b off n c : Nat) (X : List (List UInt8)) (hx : a.eval x = .slice xa n c) (hL : Lv w xa b off c X) (hl : X.length = n) (hnil : xa = none → c = 0)
    (hbig : L.length + n ≤ 1000000000) (hbase : base ≤ w.heap.size)
    (h : ∀ pa pn pc w', Hid (SOwn w' base (.slice pa pn pc) (L ++ X)) → Hid (w.grownBy w' v.ownBlock) → Hid (SF w v (.slice pa pn pc)) → wpList Tryd.prog ops Q rest (a.put o.dst (.slice pa pn pc)) w') : wpList Tryd.prog ops Q (o :: rest) a w := by
  cases xa with
  | none =>
    have hX0 : X = [] := by
      cases X with
      | nil => rfl
      | cons r X => have := hL.at_ (by simp); cases this
    subst hX0
    obtain rfl : n = 0 := hl.symm
    obtain rfl : c = 0 := hnil rfl
    refine wpList_plain hgd fun _ hK => ?_
    obtain ⟨i0, hi, hz0, hz1, hz2⟩ := info_parts infoS
    have hrun := run_append_owned_none (P := Tryd.prog) (w := w) base 36 o.type 9 i0 1 Tryd.underlying36 hi v L.length (sv L) hown
    obtain ⟨xa, b, cap, rfl, _⟩ := hown.row
    unfold Oper.wp
    simp [execOp, ho, resolve, invoke, builtin, hs, hx, hrun, Result.andThen]
    exact hK _ _ (h xa _ cap w (Lib.hid (by rw [List.append_nil]; exact hown)) (Lib.hid (World.grownBy.refl w _)) (Lib.hid (SF.refl _ _)))
  | some ad =>
    refine wpList_append_sf hgd s x ho base v L hs hown ad n c X hx hl (fun j u hj => ?_) hbig hbase h
    have hl2 : j < X.length := by have := (List.getElem?_eq_some_iff.1 hj).1; rw [sv_length] at this; exact this
    obtain rfl := Option.some.inj (hL.at_ (by omega))
    exact hL.news j u hj
end
section
variable {w0 w w' w1 : World} {g lb f sure : Nat} {D D' : Dk.Disk} {R R' : List (List UInt8)} {pa : Option Addr} {pc sure' : Nat}
theorem own_jmv {base : Nat} {v : Value} {Y : List (List UInt8)} (ho : SOwn w base v Y) (m : JMv g lb w w') (ha : ∀ b, v.ownBlock = some b → ¬ JFoot w g lb b) : SOwn w' base v Y ∧ ∀ b, v.ownBlock = some b → ¬ JFoot w' g lb b := by
  have hlt := fun b hb => (World.ownsRow.lt ho b hb).2
  refine ⟨?_, fun b hb hf => ?_⟩
  · obtain ⟨y1, y | ⟨b, cap, cur, rfl, y2, hb, y3⟩⟩ := ho
    · exact ⟨y1, .inl y⟩
    · exact ⟨y1, .inr ⟨b, cap, cur, rfl, y2, (m.block b (hlt b rfl) (ha b rfl)).trans hb, y3⟩⟩
  · rcases m.foot b hf with h1 | h1
    · exact ha b hb h1
    · have := hlt b hb
      omega
theorem JV.foot_type (h : JV w0 w g lb f D R sure pa pc) {b : Nat} {t : TypeId} {L : List Value} (hb : Blk w b t L) (h1 : t ≠ 70) (h2 : t ≠ 5) (h3 : t ≠ 86) (h4 : t ≠ 77) (h5 : t ≠ 9) : ¬ JFoot w g lb b := fun hf => by
  rcases hf with hf | hf | ⟨v, hc, hv⟩
  · obtain ⟨vs, q, k, hd⟩ := h.mine.at_
    exact hd.not_foot hb h1 h2 h3 hf
  · subst hf
    have e := h.blk
    unfold Blk at e hb
    rw [hb] at e
    injection e with e
    injection e with _ e _
    exact h4 e
  · rw [h.cells.2.2.1] at hc
    injection hc with hc
    subst hc
    obtain ⟨_, ⟨e, _⟩ | ⟨r, cap, cur, e, _, e2, _⟩⟩ := h.row
    · rw [e] at hv; cases hv
    · rw [e] at hv
      injection hv with hv
      change r = b at hv
      subst hv
      unfold Blk at hb
      rw [hb] at e2
      injection e2 with e2
      injection e2 with _ e2 _
      exact h5 e2
theorem blk_jmv {b : Nat} {t : TypeId} {L : List Value} (hb : Blk w b t L) (h : JV w0 w g lb f D R sure pa pc) (m : JMv g lb w w') (h1 : t ≠ 70) (h2 : t ≠ 5) (h3 : t ≠ 86) (h4 : t ≠ 77) (h5 : t ≠ 9) : Blk w' b t L :=
  (m.block b hb.lt (h.foot_type hb h1 h2 h3 h4 h5)).trans hb
/-- A row of strings beside the log is written. -/
theorem JV.beside {v : Value} {Y : List (List UInt8)} (h : JV w0 w g lb f D R sure pa pc) (ho : SOwn w w0.heap.size v Y) (ha : ∀ b, v.ownBlock = some b → ¬ JFoot w g lb b) (hg : w.grownBy w1 v.ownBlock) : JV w0 w1 g lb f D R sure pa pc ∧ ∀ b, JFoot w1 g lb b → JFoot w g lb b := by
  have hlb : w1.heap[lb]? = w.heap[lb]? := hg.block lb h.blk.lt (fun e => ha lb e.symm (.inr (.inl rfl)))
  have hgb : w1.heap[g]? = w.heap[g]? := hg.block g h.g_lt (fun e => ha g e.symm (.inl (.inl rfl)))
  have hrow : SOwn w1 w0.heap.size (.slice pa R.length pc) R := by
    have hlt := fun b hb => (World.ownsRow.lt h.row b hb).2
    have hc := h.cells.2.2.1
    obtain ⟨y1, y | ⟨b, cap, cur, y0, y2, hb, y3⟩⟩ := h.row
    · exact ⟨y1, .inl y⟩
    · refine ⟨y1, .inr ⟨b, cap, cur, y0, y2, (hg.block b (hlt b (by rw [y0]; rfl)) (fun e => ha b e.symm (.inr (.inr ⟨_, hc, by rw [y0]; rfl⟩)))).trans hb, y3⟩⟩
  exact ⟨⟨h.mine.aside hg (aside_own ho (by decide) (by decide) (by decide) (by decide)) (own_from ho), h.env, h.ge, hlb.trans h.blk, hrow, h.bound⟩, fun b hf => jfoot_same hgb hlb hf⟩
end
/-- The log, the law's own list of rows v, and the deed's block xb. -/
structure JS (w2 w : World) (g lb f : Nat) (D : Dk.Disk) (R : List (List UInt8)) (sure : Nat) (v : Value) (Y : List (List UInt8)) (xb : Nat) (L : List Value) : Prop where
  jv : JL w2 w g lb f D R sure
  own : SOwn w w2.heap.size v Y
  ap : ∀ b, v.ownBlock = some b → ¬ JFoot w g lb b
  xblk : Blk w xb 39 L
section
variable {w2 w w' w1 : World} {g lb f sure : Nat} {D D' : Dk.Disk} {R R' Y Y' : List (List UInt8)} {sure' xb : Nat} {v v' : Value} {L : List Value}
theorem JS.below (h : JS w2 w g lb f D R sure v Y xb L) : Below w2.heap.size w2 w := by
  obtain ⟨pa, pc, hj⟩ := h.jv
  exact hj.mine.below
theorem JS.call (h : JS w2 w g lb f D R sure v Y xb L) (hj : JL w2 w' g lb f D' R' sure') (m : JMv g lb w w') : JS w2 w' g lb f D' R' sure' v Y xb L := by
  obtain ⟨pa, pc, h0⟩ := h.jv
  obtain ⟨h1, h2⟩ := own_jmv h.own m h.ap
  exact ⟨hj, h1, h2, blk_jmv h.xblk h0 m (by decide) (by decide) (by decide) (by decide) (by decide)⟩
theorem JS.quiet (h : JS w2 w g lb f D R sure v Y xb L) (hb : Below w.heap.size w w') : JS w2 w' g lb f D R sure v Y xb L := by
  obtain ⟨pa, pc, h0⟩ := h.jv
  obtain ⟨h1, h2⟩ := h0.quiet hb
  exact h.call ⟨pa, pc, h1⟩ h2
theorem own_block {w : World} {base : Nat} {e : TypeId} {sz : Nat} {v : Value} {n : Nat} {xs : List Value} (h : w.ownsRow base e sz v n xs) {b : Nat} {t : TypeId} {L : List Value} (hb : Blk w b t L) (he : e ≠ t) : v.ownBlock ≠ some b := fun hv => by
  obtain ⟨_, ⟨rfl, _⟩ | ⟨g, cap, cur, rfl, _, hg, _⟩⟩ := h
  · cases hv
  · injection hv with hv
    change g = b at hv
    subst hv
    unfold Blk at hb
    rw [hg] at hb
    injection hb with hb
    injection hb with _ hb _
    exact he hb
/-- The law's list grows. -/
theorem JS.app (h : JS w2 w g lb f D R sure v Y xb L) (hg : w.grownBy w1 v.ownBlock) (ho : SOwn w1 w2.heap.size v' Y') (hsf : SF w v v') : JS w2 w1 g lb f D R sure v' Y' xb L := by
  obtain ⟨pa, pc, h0⟩ := h.jv
  obtain ⟨h1, h2⟩ := h0.beside h.own h.ap hg
  refine ⟨⟨pa, pc, h1⟩, ho, fun b hb hf => ?_, (hg.block xb h.xblk.lt (fun e => own_block h.own h.xblk (by decide) e.symm)).trans h.xblk⟩
  have hf0 := h2 b hf
  rcases hsf with e | ⟨c, e, hc⟩
  · exact h.ap b (by rw [← e]; exact hb) hf0
  · rw [e] at hb
    obtain rfl := Option.some.inj hb
    have := h0.foot_lt hf0
    omega
/-- Another list, of a new block, takes its place. -/
theorem JS.put (h : JS w2 w g lb f D R sure v Y xb L) (ho : SOwn w w2.heap.size v' Y') (hn : ∀ b, v'.ownBlock = some b → ¬ JFoot w g lb b) : JS w2 w g lb f D R sure v' Y' xb L := ⟨h.jv, ho, hn, h.xblk⟩
/-- The deed of the next round. -/
theorem JS.deed (h : JS w2 w g lb f D R sure v Y xb L) (L' : List Value) : JS w2 (w.alloc (.cells L'.toArray 39)) g lb f D R sure v Y w.heap.size L' := by
  have h1 := h.quiet (below_new w (.cells L'.toArray 39))
  exact ⟨h1.jv, h1.own, h1.ap, Blk.made w L'.toArray 39⟩
/-- An empty list is made. -/
theorem JS.empty (h : JS w2 w g lb f D R sure v Y xb L) : JS w2 (w.alloc (.cells #[] 9)) g lb f D R sure (.slice (some ⟨w.heap.size, 0, none⟩) 0 0) [] xb L := by
  obtain ⟨pa, pc, h0⟩ := h.jv
  have h1 := h.quiet (below_new w (.cells #[] 9))
  refine h1.put (sown_lit w (Nat.le_of_lt_succ (Nat.lt_succ_of_le h.below.size)) [] (by decide)) fun b hb => ?_
  injection hb with hb
  change w.heap.size = b at hb
  subst hb
  exact h0.fresh _
end
section
variable {w : World} {ops : Array Oper} {o : Oper} {a : Act} {Q : Exit → Act → World → Prop}
theorem wpList_js_app {rest : List Oper} (hgd : o.guard = none) (s x : Operand) (ho : o.op = .call { callee := .builtin .append, args := #[s, x], argTypes := #[36, 36] })
    {w2 : World} {g lb f sure xb : Nat} {D : Dk.Disk} {R Y : List (List UInt8)} {v : Value} {L : List Value} (hJ : JS w2 w g lb f D R sure v Y xb L) (hs : a.eval s = v) (xa : Option Addr) (b off n c : Nat) (X : List (List UInt8)) (hx : a.eval x = .slice xa n c) (hL : Lv w xa b off c X) (hl : X.length = n) (hnil : xa = none → c = 0)
    (hbig : Y.length + n ≤ 1000000000)
    (h : ∀ pa pn pc w', Hid (JS w2 w' g lb f D R sure (.slice pa pn pc) (Y ++ X) xb L) → Hid ((Y ++ X).length = pn) → wpList Tryd.prog ops Q rest (a.put o.dst (.slice pa pn pc)) w') : wpList Tryd.prog ops Q (o :: rest) a w :=
  wpList_app_lv hgd s x ho w2.heap.size v Y hs hJ.own xa b off n c X hx hL hl hnil hbig hJ.below.size fun pa pn pc w' h1 h2 h3 => h pa pn pc w' (Lib.hid (hJ.app h2.out h1.out h3.out)) (Lib.hid h1.out.lv.choose_spec.2.1)
end
section
variable {w2 w : World} {g lb f sure : Nat} {D : Dk.Disk} {R Y : List (List UInt8)} {xb : Nat} {v : Value} {L : List Value}
theorem js_flush (h : JS w2 w g lb f D R sure v Y xb L) (hq : D.queue.length ≤ 100000) : Calls Tryd.prog 15 #[.pointer (some ⟨lb, 0, none⟩)] w fun e w' => e = .returned (.int .i64 (Dk.ec (Jn.flushL D f R sure).e)) ∧ JS w2 w' g lb f (Jn.flushL D f R sure).d R (Jn.flushL D f R sure).s v Y xb L := by
  obtain ⟨pa, pc, h0⟩ := h.jv
  exact (flush_log h0 (by omega)).mono fun e w' ⟨x, y, z⟩ => ⟨x, h.call ⟨pa, pc, y⟩ z⟩
theorem js_batch (h : JS w2 w g lb f D R sure v Y xb L) {xa : Option Addr} {b off n cap : Nat} {X : List (List UInt8)} (hL : Lv w2 xa b off cap X) (hn : X.length = n) (hX : (Jn.forms X).length ≤ 300000) (hq : D.queue.length ≤ 100000) :
    Calls Tryd.prog 17 #[.pointer (some ⟨lb, 0, none⟩), .slice xa n cap] w fun e w' => e = .returned (.int .i64 (Dk.ec (Jn.batchL D f R sure X).e)) ∧ JS w2 w' g lb f (Jn.batchL D f R sure X).d (Jn.batchL D f R sure X).r (Jn.batchL D f R sure X).s v Y xb L := by
  obtain ⟨pa, pc, h0⟩ := h.jv
  exact (batch_any h0 (hL.below h.below) (fun hp hf => by
    have h1 := hL.lt hp
    rcases hf with hf | hf | ⟨u, hc, hv⟩
    · have := h0.mine.foot b hf; omega
    · have := h0.ge; omega
    · rw [h0.cells.2.2.1] at hc
      injection hc with hc
      subst hc
      have := own_from h0.row b hv
      omega) hn hX hq).mono fun e w' ⟨x, y, z⟩ => ⟨x, h.call y z⟩
theorem js_rewrite (h : JS w2 w g lb f D R sure v Y xb L) {xa : Option Addr} {b off n cap : Nat} {X : List (List UInt8)} (hL : Lv w2 xa b off cap X) (hn : X.length = n) (hnil : xa = none → cap = 0) (hf : f ≤ 6) (hX : (Jn.forms X).length ≤ 300000) (hq : D.queue.length ≤ 100000) :
    Calls Tryd.prog 19 #[.pointer (some ⟨lb, 0, none⟩), .slice xa n cap] w fun e w' => e = .returned (.int .i64 (Dk.ec (Jn.rewriteL D f ((f + 1 : Nat) : Int) R sure X).e)) ∧ JS w2 w' g lb f (Jn.rewriteL D f ((f + 1 : Nat) : Int) R sure X).d (Jn.rewriteL D f ((f + 1 : Nat) : Int) R sure X).r (Jn.rewriteL D f ((f + 1 : Nat) : Int) R sure X).s v Y xb L := by
  obtain ⟨pa, pc, h0⟩ := h.jv
  exact (rewrite_any h0 (hL.below h.below) hn hnil ((f + 1 : Nat) : Int) rfl hf hX hq).mono fun e w' ⟨x, y, z⟩ => ⟨x, h.call y z⟩
theorem js_append (h : JS w2 w g lb f D R sure v Y xb L) (r : ByteArray) (hr : r.size ≤ 300000) (hq : D.queue.length ≤ 100000) :
    Calls Tryd.prog 28 #[.pointer (some ⟨lb, 0, none⟩), .string r] w fun e w' => e = .returned (.int .i64 (Dk.ec (Dk.write D f ((16 + (Jn.forms R).length : Nat) : Int) (Jn.forms [r.data.toList])).1)) ∧ JS w2 w' g lb f (Dk.write D f ((16 + (Jn.forms R).length : Nat) : Int) (Jn.forms [r.data.toList])).2 (Jn.addRows (Dk.write D f ((16 + (Jn.forms R).length : Nat) : Int) (Jn.forms [r.data.toList])).1 R [r.data.toList]) sure v Y xb L := by
  obtain ⟨pa, pc, h0⟩ := h.jv
  have h1 := append_any h0 r.data.toList (by rw [← Lib.size_eq]; omega) (by omega)
  rw [show enc r.data.toList = r from ba_ext rfl] at h1
  exact h1.mono fun e w' ⟨x, y, z⟩ => ⟨x, h.call y z⟩
theorem js_all (h : JS w2 w g lb f D R sure v Y xb L) : Calls Tryd.prog 33 #[.pointer (some ⟨lb, 0, none⟩)] w fun e w' => ∃ xa xn xc, e = .returned (.slice xa xn xc) ∧ JS w2 w' g lb f D R sure v Y xb L ∧ SOwn w' w.heap.size (.slice xa xn xc) R ∧ R.length = xn := by
  obtain ⟨pa, pc, h0⟩ := h.jv
  exact (all_any h0).mono fun e w' ⟨xa, xc, x, y, z⟩ => ⟨xa, R.length, xc, x, h.quiet z, y, rfl⟩
theorem js_sure (h : JS w2 w g lb f D R sure v Y xb L) : Calls Tryd.prog 34 #[.pointer (some ⟨lb, 0, none⟩)] w fun e w' => e = .returned (.int .i64 (sure : Int)) ∧ w = w' := by
  obtain ⟨pa, pc, h0⟩ := h.jv
  exact sure_any h0
/-- Same of two rows of the call's own, the second one the law's list. -/
theorem js_same {va : Option Addr} {vn vc : Nat} (h : JS w2 w g lb f D R sure (.slice va vn vc) Y xb L) {base : Nat} {xa : Option Addr} {xn xc : Nat} {X : List (List UInt8)} (hx : SOwn w base (.slice xa xn xc) X) (hX : X.length ≤ 1000000) (hY : Y.length ≤ 1000000) {q : Bool} (hq : sameRows X Y = q) :
    Calls Tryd.prog 32 #[.slice xa xn xc, .slice va vn vc] w fun e w' => e = .returned (.bool q) ∧ JS w2 w' g lb f D R sure (.slice va vn vc) Y xb L := by
  obtain ⟨b1, l1, n1, _⟩ := hx.lv
  obtain ⟨b2, l2, n2, _⟩ := h.own.lv
  exact (same_any X Y xn vn n1 n2 (by omega) (by omega) xa va b1 0 xc b2 0 vc w l1 l2).mono fun e w' ⟨x, y⟩ => ⟨by rw [x, hq], h.quiet y⟩
end
/-- What is left of a whole number by 8. -/
theorem and_7 (x : Int) : bits .and .i64 x 7 = x % 8 := by
  show IntKind.i64.wrap ((BitVec.ofInt 64 x &&& BitVec.ofInt 64 7).toNat : Int) = _
  have e2 : (BitVec.ofInt 64 7).toNat = 2 ^ 3 - 1 := by decide
  rw [BitVec.toNat_and, e2, Nat.and_two_pow_sub_one_eq_mod, BitVec.toNat_ofInt, Jn.i64_wrap]
  unfold wrap64
  omega
end Go.Proofs.YtbpodclodflgfaaDoor
