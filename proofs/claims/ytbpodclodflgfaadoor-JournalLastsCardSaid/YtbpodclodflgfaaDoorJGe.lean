/-
  Rewrite, its parts.
  Rewrite.
  Rewrite: the six steps in order.
-/
import Derived.Test.YtbpodclodflgfaaDoorJGd
import Derived.Deep.RegionHeld3
namespace Go.Proofs.YtbpodclodflgfaaDoor
open Go Go.RowKit
theorem MM.drewn {w0 wb w : World} {g : Nat} {D : Dk.Disk} (h : MM w0 wb w.drew g D) : MM w0 wb w.drew g D := h
theorem MM.from_drew {w0 w w' : World} {g : Nat} {D D' : Dk.Disk} (h0 : Mine w0 w g D) (h : MM w0 w.drew w' g D') : MM w0 w w' g D' := by
  obtain ⟨vs, q, k, hv⟩ := h0.at_
  exact ⟨h.mine, (Mv.of_below (below_drew (Below.refl _ _)) hv.lt).trans h.mv⟩
section
variable {w0 w : World} {g lb nb f sure : Nat} {D : Dk.Disk} {R X : List (List UInt8)} {pa qa : Option Addr} {pc qc : Nat}
set_option maxHeartbeats 1000000 in
set_option maxRecDepth 100000 in
theorem flushFile_mm (h : JV w0 w g lb f D R sure pa pc) : Calls Tryd.prog 41 #[.pointer (some ⟨lb, 0, none⟩)] w fun e w' => e = .returned (.int .i64 (Dk.ec (Dk.flush D f).1)) ∧ MM w0 w w' g (Dk.flush D f).2 := by
  obtain ⟨c0, c1, c2, c3, c4⟩ := h.cells
  have H := Lib.hid h
  have C := Lib.hid (mm_flush h.drewn.mm (f : Int))
  obtain ⟨re, hre⟩ : ∃ re, Dk.ec (Dk.flush D f).1 = re := ⟨_, rfl⟩
  rw [hre] at C ⊢
  clear h hre
  go_enter Tryd.func41, Tryd.ntmps41
  go_wp2
  go_region_with (go_at_call 77; with_reducible refine C.out.mono ?_; rintro _ w2 ⟨rfl, hm⟩)
  all_goals go_wp2
  all_goals go_ret
  all_goals exact ⟨rfl, hm.from_drew H.out.mine⟩
end
/-- What Rewrite has in memory while it runs: the log, the next one, three captured variables. -/
structure RS (w0 w : World) (g lb nb f : Nat) (D : Dk.Disk) (R X : List (List UInt8)) (sure : Nat) (pa : Option Addr) (pc : Nat) (qa : Option Addr) (qc bl bf bn : Nat) : Prop where
  l : JV w0 w g lb f D R sure pa pc
  n : JV w0 w g nb (f + 1) D X 0 qa qc
  cl : Blk w bl 29 [.pointer (some ⟨lb, 0, none⟩)]
  cf : Blk w bf 9 [.string (enc (Jn.forms X))]
  cn : Blk w bn 29 [.pointer (some ⟨nb, 0, none⟩)]
  ne : nb ≠ lb
section
variable {w0 w w' : World} {g lb nb f sure : Nat} {D D' : Dk.Disk} {R X : List (List UInt8)} {pa qa : Option Addr} {pc qc bl bf bn : Nat}
theorem RS.mv (h : RS w0 w g lb nb f D R X sure pa pc qa qc bl bf bn) (m : MM w0 w w' g D') : RS w0 w' g lb nb f D' R X sure pa pc qa qc bl bf bn ∧ JMv g lb w w' :=
  ⟨⟨(h.l.mv m).1, (h.n.mv m).1, blk_mv h.cl h.l.mine.at_ m.mv (by decide) (by decide) (by decide), blk_mv h.cf h.l.mine.at_ m.mv (by decide) (by decide) (by decide), blk_mv h.cn h.l.mine.at_ m.mv (by decide) (by decide) (by decide), h.ne⟩, (h.l.mv m).2⟩
theorem RS.quiet (h : RS w0 w g lb nb f D R X sure pa pc qa qc bl bf bn) (hb : Below w.heap.size w w') : RS w0 w' g lb nb f D R X sure pa pc qa qc bl bf bn :=
  ⟨(h.l.quiet hb).1, (h.n.quiet hb).1, (hb.block bl h.cl.lt).trans h.cl, (hb.block bf h.cf.lt).trans h.cf, (hb.block bn h.cn.lt).trans h.cn, h.ne⟩
theorem RS.drewn (h : RS w0 w g lb nb f D R X sure pa pc qa qc bl bf bn) : RS w0 w.drew g lb nb f D R X sure pa pc qa qc bl bf bn := h.quiet (below_drew (Below.refl _ _))
set_option maxHeartbeats 1000000 in
set_option maxRecDepth 100000 in
theorem rw1_any (h : RS w0 w g lb nb f D R X sure pa pc qa qc bl bf bn) (fi : Int) (hfi : ((f + 1 : Nat) : Int) = fi) : Calls Tryd.prog 53 #[.pointer (some ⟨bl, 0, none⟩), .pointer (some ⟨bn, 0, none⟩)] w fun e w' => e = .returned (.int .i64 (Dk.ec (Dk.cut D fi 0).1)) ∧ MM w0 w w' g (Dk.cut D fi 0).2 := by
  obtain ⟨c0, c1, c2, c3, c4⟩ := h.l.cells
  obtain ⟨d0, d1, d2, d3, d4⟩ := h.n.cells
  have x0 := h.cl.cell (j := 0) rfl
  have x1 := h.cn.cell (j := 0) rfl
  have H := Lib.hid h
  have C := Lib.hid (mm_cut h.drewn.l.mm fi 0)
  obtain ⟨re, hre⟩ : ∃ re, Dk.ec (Dk.cut D fi 0).1 = re := ⟨_, rfl⟩
  rw [hre] at C ⊢
  rw [hfi] at d1
  clear h hre hfi
  go_enter Tryd.func53, Tryd.ntmps53
  go_wp2
  go_region_with (go_at_call 54; with_reducible refine C.out.mono ?_; rintro _ w2 ⟨rfl, hm⟩)
  all_goals go_wp2
  all_goals go_ret
  all_goals exact ⟨rfl, hm.from_drew H.out.l.mine⟩
set_option maxHeartbeats 1000000 in
set_option maxRecDepth 100000 in
theorem rw3_any (h : RS w0 w g lb nb f D R X sure pa pc qa qc bl bf bn) (fi : Int) (hfi : ((f + 1 : Nat) : Int) = fi) : Calls Tryd.prog 57 #[.pointer (some ⟨bl, 0, none⟩), .pointer (some ⟨bn, 0, none⟩)] w fun e w' => e = .returned (.int .i64 (Dk.ec (Dk.turn D f fi).1)) ∧ MM w0 w w' g (Dk.turn D f fi).2 := by
  obtain ⟨c0, c1, c2, c3, c4⟩ := h.l.cells
  obtain ⟨d0, d1, d2, d3, d4⟩ := h.n.cells
  have x0 := h.cl.cell (j := 0) rfl
  have x1 := h.cn.cell (j := 0) rfl
  have H := Lib.hid h
  have C := Lib.hid (mm_turn h.drewn.l.mm (f : Int) fi)
  obtain ⟨re, hre⟩ : ∃ re, Dk.ec (Dk.turn D f fi).1 = re := ⟨_, rfl⟩
  rw [hre] at C ⊢
  rw [hfi] at d1
  clear h hre hfi
  go_enter Tryd.func57, Tryd.ntmps57
  go_wp2
  go_still_tail 12, (by kernel_rfl)
  change wpList _ _ _ _ _ w.drew
  go_wp2_with (go_at_call 58; with_reducible refine C.out.mono ?_; rintro _ w2 ⟨rfl, hm⟩)
  go_ret
  exact ⟨rfl, hm.from_drew H.out.l.mine⟩
set_option maxHeartbeats 2000000 in
set_option maxRecDepth 100000 in
theorem rw2_any (h : RS w0 w g lb nb f D R X sure pa pc qa qc bl bf bn) (hX : (Jn.forms X).length ≤ 300000) (hq : D.queue.length ≤ 400000) (fi : Int) (hfi : ((f + 1 : Nat) : Int) = fi) : Calls Tryd.prog 55 #[.pointer (some ⟨bl, 0, none⟩), .pointer (some ⟨bn, 0, none⟩), .pointer (some ⟨bf, 0, none⟩)] w fun e w' => e = .returned (.int .i64 (Dk.ec (Dk.write D fi 0 (Jn.header X ++ Jn.forms X)).1)) ∧ MM w0 w w' g (Dk.write D fi 0 (Jn.header X ++ Jn.forms X)).2 := by
  obtain ⟨c0, c1, c2, c3, c4⟩ := h.l.cells
  obtain ⟨d0, d1, d2, d3, d4⟩ := h.n.cells
  have x0 := h.cl.cell (j := 0) rfl
  have x1 := h.cn.cell (j := 0) rfl
  have x2 := h.cf.cell (j := 0) rfl
  have H := Lib.hid h.drewn
  have H0 := Lib.hid h
  have hhl := Jn.header_length X
  have CH := Lib.hid (header_any h.drewn.n)
  have hsz : (enc (Jn.header X ++ Jn.forms X)).size ≤ 400000 := by rw [Lib.size_eq, enc_list, List.length_append]; omega
  have C := Lib.hid (fun (w1 : World) (hv : RS w0 w1 g lb nb f D R X sure pa pc qa qc bl bf bn) => mm_write hv.l.mm fi 0 (by decide) (by decide) (enc (Jn.header X ++ Jn.forms X)) (by omega) (by omega))
  rw [enc_list] at C
  have KEEP := Lib.hid (fun (w1 : World) (hb : Below w.drew.heap.size w.drew w1) => show RS w0 w1 g lb nb f D R X sure pa pc qa qc bl bf bn ∧ w1.cell? ⟨bf, 0, none⟩ = some (.string (enc (Jn.forms X))) from ⟨H.out.quiet hb, (H.out.quiet hb).cf.cell (j := 0) rfl⟩)
  have KC := Lib.hid (fun (w1 : World) (hb : Below w.drew.heap.size w.drew w1) => (⟨(H.out.quiet hb).l.cells, (H.out.quiet hb).n.cells, (H.out.quiet hb).cl.cell (j := 0) rfl, (H.out.quiet hb).cn.cell (j := 0) rfl⟩ : _ ∧ _ ∧ _ ∧ _))
  obtain ⟨re, hre⟩ : ∃ re, Dk.ec (Dk.write D fi 0 (Jn.header X ++ Jn.forms X)).1 = re := ⟨_, rfl⟩
  have hadd := fun w' : World => run_string_add_sum (P := Tryd.prog) (w := w') (enc (Jn.header X)) (enc (Jn.forms X)) (by rw [Lib.size_eq, Lib.size_eq, enc_list, enc_list]; omega)
  rw [enc_add] at hadd
  rw [hre] at C ⊢
  rw [hfi] at d1 KC
  obtain ⟨HH, hHH⟩ : ∃ HH, enc (Jn.header X) = HH := ⟨_, rfl⟩
  obtain ⟨FF, hFF⟩ : ∃ FF, enc (Jn.forms X) = FF := ⟨_, rfl⟩
  obtain ⟨HF, hHF⟩ : ∃ HF, enc (Jn.header X ++ Jn.forms X) = HF := ⟨_, rfl⟩
  rw [hHH] at CH hadd
  rw [hFF] at x2 KEEP hadd
  rw [hHF] at C hadd
  have HFFE := Lib.hid hFF
  have HFI := Lib.hid hfi
  clear h hre hfi hHH hFF hHF hsz hhl
  go_enter Tryd.func55, Tryd.ntmps55
  go_wp2
  go_region_held3 (fun w' => w'.cell? ⟨bl, 0, none⟩ = some (.pointer (some ⟨lb, 0, none⟩)) ∧ w'.cell? ⟨bn, 0, none⟩ = some (.pointer (some ⟨nb, 0, none⟩)) ∧ w'.cell? ⟨bf, 0, none⟩ = some (.string FF) ∧ w'.cell? ⟨lb, 0, none⟩ = some (.pointer (some ⟨g, 0, none⟩)) ∧ w'.cell? ⟨nb, 1, none⟩ = some (.int .i64 fi))
    (first | exact ⟨x0, x1, x2, c0, d1⟩ | exact ⟨y0, y1, y2, k0, m1⟩ | exact ⟨z0, z1, z2, z3, z4⟩)
    (first | (go_at_call 37; with_reducible refine (C.out _ HK.out).mono ?_; rintro _ w3 ⟨rfl, hm⟩; have HK3 := Lib.hid (HK.out.mv hm).1; have z0 := HK3.out.cl.cell (j := 0) rfl; have z1 := HK3.out.cn.cell (j := 0) rfl; have z2 := HK3.out.cf.cell (j := 0) rfl; rw [HFFE.out] at z2; have z3 := HK3.out.l.cells.1; have z4 := HK3.out.n.cells.2.1; rw [HFI.out] at z4) | (go_at_call 56; with_reducible refine CH.out.mono ?_; rintro _ w2 ⟨rfl, hb2⟩; have HK := Lib.hid (KEEP.out _ hb2).1; have HB2 := Lib.hid hb2; have y2 := (KEEP.out _ hb2).2; obtain ⟨⟨k0, k1, k2, k3, k4⟩, ⟨m0, m1, m2, m3, m4⟩, y0, y1⟩ := KC.out _ hb2) | fail)
  all_goals go_wp2
  all_goals go_ret
  all_goals exact ⟨rfl, MM.from_drew H0.out.l.mine ⟨hm.mine, (Mv.of_below HB2.out H.out.l.g_lt).trans hm.mv⟩⟩
end
end Go.Proofs.YtbpodclodflgfaaDoor
namespace Go.Proofs.YtbpodclodflgfaaDoor
open Go Go.RowKit
section
variable {w0 ws w w' : World} {g lb nb f sure : Nat} {D D' : Dk.Disk} {R X : List (List UInt8)} {pa qa : Option Addr} {pc qc bl bf bn : Nat}
/-- A field of the log is set: the disk, and rows elsewhere, stay. -/
theorem set_log {L : List Value} (hm : Mine w0 w g D) (hb : Blk w lb 77 L) (hge : w0.heap.size ≤ lb) (i : Nat) (v : Value) :
    Mine w0 (w.setCell ⟨lb, i, none⟩ v) g D ∧ Blk (w.setCell ⟨lb, i, none⟩ v) lb 77 (L.set i v) ∧ ∀ {base : Nat} {u : Value} {Y : List (List UInt8)}, SOwn w base u Y → SOwn (w.setCell ⟨lb, i, none⟩ v) base u Y := by
  have hg := grown_set (grown_refl w (some lb)) i v
  refine ⟨hm.aside hg (fun b hb' => ?_) (fun b hb' => ?_), hb.set i v, fun {base u Y} ho => ho.other hg fun hv => ?_⟩
  · obtain rfl := Option.some.inj hb'
    exact ⟨_, _, _, hb, by decide, by decide, by decide, by decide⟩
  · obtain rfl := Option.some.inj hb'
    exact hge
  · obtain ⟨_, ⟨h1, _⟩ | ⟨r, cap, cur, h1, _, h2, _⟩⟩ := ho
    · rw [h1] at hv; cases hv
    · rw [h1] at hv
      injection hv with hv
      change r = lb at hv
      subst hv
      unfold Blk at hb
      rw [h2] at hb
      injection hb with h3
      injection h3 with _ h3 _
      exact absurd h3 (by decide)
/-- The next log's rows become the log's. -/
theorem RS.swap (h : RS w0 w g lb nb f D R X sure pa pc qa qc bl bf bn) (M : JMv g lb ws w) (hs : ∀ b, (Value.slice qa X.length qc).ownBlock = some b → ws.heap.size ≤ b) :
    JV w0 ((w.setCell ⟨lb, 2, none⟩ (.slice qa X.length qc)).setCell ⟨lb, 4, none⟩ (.int .i64 ((16 + (Jn.forms X).length : Nat) : Int))) g lb f D X sure qa qc ∧
      JMv g lb ws ((w.setCell ⟨lb, 2, none⟩ (.slice qa X.length qc)).setCell ⟨lb, 4, none⟩ (.int .i64 ((16 + (Jn.forms X).length : Nat) : Int))) ∧
    JV w0 ((w.setCell ⟨lb, 4, none⟩ (.int .i64 ((16 + (Jn.forms X).length : Nat) : Int))).setCell ⟨lb, 2, none⟩ (.slice qa X.length qc)) g lb f D X sure qa qc ∧
      JMv g lb ws ((w.setCell ⟨lb, 4, none⟩ (.int .i64 ((16 + (Jn.forms X).length : Nat) : Int))).setCell ⟨lb, 2, none⟩ (.slice qa X.length qc)) := by
  have hgl := h.l.noself.2
  have key : ∀ {w2 : World}, Mine w0 w2 g D → Blk w2 lb 77 (lcells g f sure (.slice qa X.length qc) X) → SOwn w2 w0.heap.size (.slice qa X.length qc) X → w2.os = w.os → w2.tape = w.tape → w2.output = w.output → w2.heap.size = w.heap.size → (∀ b, b ≠ lb → w2.heap[b]? = w.heap[b]?) →
      JV w0 w2 g lb f D X sure qa qc ∧ JMv g lb ws w2 := fun hm hb ho e1 e2 e3 e4 e5 => by
    refine ⟨⟨hm, h.l.env, h.l.ge, hb, ho, h.n.bound⟩, e1.trans M.os, e2.trans M.tape, e3.trans M.output, by rw [e4]; exact M.size, fun b hb' hn => ?_, fun b hf => ?_⟩
    · rw [e5 b (fun e => hn (.inr (.inl e)))]
      exact M.block b hb' hn
    · rcases hf with hf | hf | ⟨v, hc, hv⟩
      · exact M.foot b (.inl (foot_same (e5 g hgl) hf))
      · exact .inl (.inr (.inl hf))
      · rw [hb.cell (j := 2) rfl] at hc
        injection hc with hc
        subst hc
        exact .inr (hs b hv)
  obtain ⟨a1, a2, a3⟩ := set_log h.l.mine h.l.blk h.l.ge 2 (.slice qa X.length qc)
  obtain ⟨a4, a5, a6⟩ := set_log a1 a2 h.l.ge 4 (.int .i64 ((16 + (Jn.forms X).length : Nat) : Int))
  obtain ⟨b1, b2, b3⟩ := set_log h.l.mine h.l.blk h.l.ge 4 (.int .i64 ((16 + (Jn.forms X).length : Nat) : Int))
  obtain ⟨b4, b5, b6⟩ := set_log b1 b2 h.l.ge 2 (.slice qa X.length qc)
  obtain ⟨x1, x2⟩ := key a4 a5 (a6 (a3 h.n.row)) rfl rfl rfl (by rw [set_size, set_size]) (fun b hb => by rw [set_other _ _ _ _ _ hb, set_other _ _ _ _ _ hb])
  obtain ⟨y1, y2⟩ := key b4 b5 (b6 (b3 h.n.row)) rfl rfl rfl (by rw [set_size, set_size]) (fun b hb => by rw [set_other _ _ _ _ _ hb, set_other _ _ _ _ _ hb])
  exact ⟨x1, x2, y1, y2⟩
theorem Blk.past {b lb i : Nat} {t : TypeId} {L : List Value} {v : Value} (h : Blk w b t L) (hne : b ≠ lb) : Blk (w.setCell ⟨lb, i, none⟩ v) b t L := (set_other w lb i b v hne).trans h
theorem RS.apart (h : RS w0 w g lb nb f D R X sure pa pc qa qc bl bf bn) : bl ≠ lb ∧ bn ≠ lb := by
  have key : ∀ {b : Nat} {L : List Value}, Blk w b 29 L → b ≠ lb := fun hb e => by
    subst e
    have h3 := h.l.blk
    unfold Blk at h3 hb
    rw [h3] at hb
    injection hb with hb
    injection hb with _ hb _
    exact absurd hb (by decide)
  exact ⟨key h.cl, key h.cn⟩
/-- What Rewrite's fourth step loads. -/
def Ld (bl bn lb nb : Nat) (r : Value) (en : Int) (w : World) : Prop := w.cell? ⟨bl, 0, none⟩ = some (.pointer (some ⟨lb, 0, none⟩)) ∧ w.cell? ⟨bn, 0, none⟩ = some (.pointer (some ⟨nb, 0, none⟩)) ∧ w.cell? ⟨nb, 2, none⟩ = some r ∧ w.cell? ⟨nb, 4, none⟩ = some (.int .i64 en)
theorem RS.ld (h : RS w0 w g lb nb f D R X sure pa pc qa qc bl bf bn) : Ld bl bn lb nb (.slice qa X.length qc) ((16 + (Jn.forms X).length : Nat) : Int) w ∧ ∀ (i : Nat) (v : Value), Ld bl bn lb nb (.slice qa X.length qc) ((16 + (Jn.forms X).length : Nat) : Int) (w.setCell ⟨lb, i, none⟩ v) ∧ ∀ (j : Nat) (u : Value), Ld bl bn lb nb (.slice qa X.length qc) ((16 + (Jn.forms X).length : Nat) : Int) ((w.setCell ⟨lb, i, none⟩ v).setCell ⟨lb, j, none⟩ u) := by
  obtain ⟨h1, h2⟩ := h.apart
  have key : ∀ {w2 : World}, Blk w2 bl 29 [.pointer (some ⟨lb, 0, none⟩)] → Blk w2 bn 29 [.pointer (some ⟨nb, 0, none⟩)] → Blk w2 nb 77 (lcells g (f + 1) 0 (.slice qa X.length qc) X) → Ld bl bn lb nb (.slice qa X.length qc) ((16 + (Jn.forms X).length : Nat) : Int) w2 := fun a b c => ⟨a.cell (j := 0) rfl, b.cell (j := 0) rfl, c.cell (j := 2) rfl, c.cell (j := 4) rfl⟩
  exact ⟨key h.cl h.cn h.n.blk, fun i v => ⟨key (h.cl.past h1) (h.cn.past h2) (h.n.blk.past h.ne), fun j u => key ((h.cl.past h1).past h1) ((h.cn.past h2).past h2) ((h.n.blk.past h.ne).past h.ne)⟩⟩
set_option maxHeartbeats 2000000 in
set_option maxRecDepth 100000 in
theorem rw4_any (h : RS w0 w g lb nb f D R X sure pa pc qa qc bl bf bn) (M : JMv g lb ws w) (hs : ∀ b, (Value.slice qa X.length qc).ownBlock = some b → ws.heap.size ≤ b) :
    Calls Tryd.prog 59 #[.pointer (some ⟨bn, 0, none⟩), .pointer (some ⟨bl, 0, none⟩)] w fun e w' => e = .returned (.int .i64 0) ∧ JV w0 w' g lb f D X sure qa qc ∧ JMv g lb ws w' ∧ ∀ b, b ≠ lb → w'.heap[b]? = w.heap[b]? := by
  obtain ⟨c0, c1, c2, c3, c4⟩ := h.l.cells
  obtain ⟨d0, d1, d2, d3, d4⟩ := h.n.cells
  have x0 := h.cl.cell (j := 0) rfl
  have x1 := h.cn.cell (j := 0) rfl
  have fr2 := h.l.blk.free 2
  have fr4 := h.l.blk.free 4
  have bk2 := h.l.blk.set 2 (.slice qa X.length qc)
  have bk4 := h.l.blk.set 4 (.int .i64 ((16 + (Jn.forms X).length : Nat) : Int))
  have fq4 := bk2.free 4
  have kq4 := bk2.cell (j := 4) rfl
  have fq2 := bk4.free 2
  have kq2 := bk4.cell (j := 2) rfl
  have HD := Lib.hid (h.drewn.swap (M.trans (h.l.quiet (below_drew (Below.refl _ _))).2) hs)
  have HL := Lib.hid h.drewn.ld
  clear h M hs bk2 bk4
  obtain ⟨en, hen⟩ : ∃ en : Int, ((16 + (Jn.forms X).length : Nat) : Int) = en := ⟨_, rfl⟩
  rw [hen] at d4 HD fq2 kq2 HL
  clear hen
  go_enter Tryd.func59, Tryd.ntmps59
  go_wp2
  go_region_held3 (fun w' => w'.cell? ⟨bl, 0, none⟩ = some (.pointer (some ⟨lb, 0, none⟩)) ∧ w'.cell? ⟨bn, 0, none⟩ = some (.pointer (some ⟨nb, 0, none⟩)) ∧ w'.cell? ⟨nb, 2, none⟩ = some (.slice qa X.length qc) ∧ w'.cell? ⟨nb, 4, none⟩ = some (.int .i64 en))
    (first | exact ⟨x0, x1, d2, d4⟩ | exact (HL.out.2 _ _).1 | exact (HL.out.2 _ _).2 _ _)
    (first | fail)
  all_goals go_wp2
  all_goals go_ret
  all_goals (first | exact ⟨rfl, HD.out.1, HD.out.2.1, fun b hb => (set_other (w.setCell ⟨lb, 2, none⟩ _) lb 4 b _ hb).trans (set_other w lb 2 b _ hb)⟩ | exact ⟨rfl, HD.out.2.2.1, HD.out.2.2.2, fun b hb => (set_other (w.setCell ⟨lb, 4, none⟩ _) lb 2 b _ hb).trans (set_other w lb 4 b _ hb)⟩)
end
end Go.Proofs.YtbpodclodflgfaaDoor
namespace Go.Proofs.YtbpodclodflgfaaDoor
open Go Go.RowKit
namespace Jn
/-- Rewrite of the log; fi is the next file. -/
def rewriteL (D : Dk.Disk) (f fi : Int) (R : List B) (sure : Nat) (X : List B) : Br :=
  if (Dk.cut D fi 0).1 ≠ .ok then ⟨(Dk.cut D fi 0).1, (Dk.cut D fi 0).2, R, sure⟩
  else if (Dk.write (Dk.cut D fi 0).2 fi 0 (header X ++ forms X)).1 ≠ .ok then ⟨(Dk.write (Dk.cut D fi 0).2 fi 0 (header X ++ forms X)).1, (Dk.write (Dk.cut D fi 0).2 fi 0 (header X ++ forms X)).2, R, sure⟩
  else if (Dk.flush (Dk.write (Dk.cut D fi 0).2 fi 0 (header X ++ forms X)).2 fi).1 ≠ .ok then ⟨(Dk.flush (Dk.write (Dk.cut D fi 0).2 fi 0 (header X ++ forms X)).2 fi).1, (Dk.flush (Dk.write (Dk.cut D fi 0).2 fi 0 (header X ++ forms X)).2 fi).2, R, sure⟩
  else if (Dk.turn (Dk.flush (Dk.write (Dk.cut D fi 0).2 fi 0 (header X ++ forms X)).2 fi).2 f fi).1 ≠ .ok then ⟨(Dk.turn (Dk.flush (Dk.write (Dk.cut D fi 0).2 fi 0 (header X ++ forms X)).2 fi).2 f fi).1, (Dk.turn (Dk.flush (Dk.write (Dk.cut D fi 0).2 fi 0 (header X ++ forms X)).2 fi).2 f fi).2, R, sure⟩
  else ⟨.ok, (Dk.turn (Dk.flush (Dk.write (Dk.cut D fi 0).2 fi 0 (header X ++ forms X)).2 fi).2 f fi).2, X, X.length⟩
end Jn
/-- The six steps of Rewrite, as they lie in memory. -/
def steps6 (lb nb bl bf bn : Nat) : List Value := [.func (.func 53) #[] #[.pointer (some ⟨bl, 0, none⟩), .pointer (some ⟨bn, 0, none⟩)], .func (.func 55) #[] #[.pointer (some ⟨bl, 0, none⟩), .pointer (some ⟨bn, 0, none⟩), .pointer (some ⟨bf, 0, none⟩)], .func (.func 41) #[.pointer (some ⟨nb, 0, none⟩)] #[], .func (.func 57) #[] #[.pointer (some ⟨bl, 0, none⟩), .pointer (some ⟨bn, 0, none⟩)], .func (.func 59) #[] #[.pointer (some ⟨bn, 0, none⟩), .pointer (some ⟨bl, 0, none⟩)], .func (.func 43) #[.pointer (some ⟨lb, 0, none⟩)] #[]]
/-- The steps stay where only the log's own blocks are written. -/
theorem blk_jmv6 {w0 w w' : World} {g lb f sure sb : Nat} {D : Dk.Disk} {X : List (List UInt8)} {qa : Option Addr} {qc : Nat} {L : List Value} (hb : Blk w sb 100 L) (h : JV w0 w g lb f D X sure qa qc) (m : JMv g lb w w') (hne : sb ≠ lb) : Blk w' sb 100 L := by
  refine (m.block sb hb.lt fun hf => ?_).trans hb
  rcases hf with hf | hf | ⟨v, hc, hv⟩
  · obtain ⟨vs, q, k, hd⟩ := h.mine.at_
    exact hd.not_foot hb (by decide) (by decide) (by decide) hf
  · exact hne hf
  · rw [h.cells.2.2.1] at hc
    injection hc with hc
    subst hc
    obtain ⟨_, ⟨h1, _⟩ | ⟨r, cap, cur, h1, _, h2, _⟩⟩ := h.row
    · rw [h1] at hv; cases hv
    · rw [h1] at hv
      injection hv with hv
      change r = sb at hv
      subst hv
      unfold Blk at hb
      rw [h2] at hb
      injection hb with h3
      injection h3 with _ h3 _
      exact absurd h3 (by decide)
section
variable {w0 ws w : World} {g lb nb f sure : Nat} {D : Dk.Disk} {R X : List (List UInt8)} {pa qa : Option Addr} {pc qc bl bf bn : Nat}
set_option maxHeartbeats 4000000 in
set_option maxRecDepth 100000 in
theorem order6_any (h : RS w0 w g lb nb f D R X sure pa pc qa qc bl bf bn) (M0 : JMv g lb ws w) (hs : ∀ b, (Value.slice qa X.length qc).ownBlock = some b → ws.heap.size ≤ b) (fi : Int) (hfi : ((f + 1 : Nat) : Int) = fi) (hX : (Jn.forms X).length ≤ 300000) (hq : D.queue.length ≤ 100000) (sb : Nat) (hB : Blk w sb 100 (steps6 lb nb bl bf bn)) :
    Calls Tryd.prog 40 #[.slice (some ⟨sb, 0, none⟩) 6 6] w fun e w' => e = .returned (.int .i64 (Dk.ec (Jn.rewriteL D f fi R sure X).e)) ∧ JL w0 w' g lb f (Jn.rewriteL D f fi R sure X).d (Jn.rewriteL D f fi R sure X).r (Jn.rewriteL D f fi R sure X).s ∧ JMv g lb ws w' := by
  have HF : RowKit.Hid (Jn.rewriteL D f fi R sure X = _) := Lib.hid (by unfold Jn.rewriteL; exact rfl)
  have hsl : sb ≠ lb := fun e => by
    subst e
    have h3 := h.l.blk
    unfold Blk at h3 hB
    rw [h3] at hB
    injection hB with hB
    injection hB with _ hB _
    exact absurd hB (by decide)
  have hq1 := Dk.cut_queue D h.l.mine.armed0 fi 0
  have C0 := Lib.hid (fun (w1 : World) (hv : RS w0 w1 g lb nb f D R X sure pa pc qa qc bl bf bn) => rw1_any hv fi hfi)
  obtain ⟨D1, hD1⟩ : ∃ D1, (Dk.cut D fi 0).2 = D1 := ⟨_, rfl⟩
  obtain ⟨e1, he1⟩ : ∃ e1, (Dk.cut D fi 0).1 = e1 := ⟨_, rfl⟩
  rw [hD1] at hq1
  rw [hD1, he1] at HF C0
  have C1 := Lib.hid (fun (w1 : World) (hv : RS w0 w1 g lb nb f D1 R X sure pa pc qa qc bl bf bn) => rw2_any hv hX (by omega) fi hfi)
  obtain ⟨D2, hD2⟩ : ∃ D2, (Dk.write D1 fi 0 (Jn.header X ++ Jn.forms X)).2 = D2 := ⟨_, rfl⟩
  obtain ⟨e2, he2⟩ : ∃ e2, (Dk.write D1 fi 0 (Jn.header X ++ Jn.forms X)).1 = e2 := ⟨_, rfl⟩
  rw [hD2, he2] at HF C1
  have C2 := Lib.hid (fun (w1 : World) (hv : RS w0 w1 g lb nb f D2 R X sure pa pc qa qc bl bf bn) => flushFile_mm hv.n)
  rw [hfi] at C2
  obtain ⟨D3, hD3⟩ : ∃ D3, (Dk.flush D2 fi).2 = D3 := ⟨_, rfl⟩
  obtain ⟨e3, he3⟩ : ∃ e3, (Dk.flush D2 fi).1 = e3 := ⟨_, rfl⟩
  rw [hD3, he3] at HF C2
  have C3 := Lib.hid (fun (w1 : World) (hv : RS w0 w1 g lb nb f D3 R X sure pa pc qa qc bl bf bn) => rw3_any hv fi hfi)
  obtain ⟨D4, hD4⟩ : ∃ D4, (Dk.turn D3 (f : Int) fi).2 = D4 := ⟨_, rfl⟩
  obtain ⟨e4, he4⟩ : ∃ e4, (Dk.turn D3 (f : Int) fi).1 = e4 := ⟨_, rfl⟩
  rw [hD4, he4] at HF C3
  have C4 := Lib.hid (fun (w1 : World) (hv : RS w0 w1 g lb nb f D4 R X sure pa pc qa qc bl bf bn) (hm : JMv g lb ws w1) => rw4_any hv hm hs)
  have C5 := Lib.hid (fun (w1 : World) (hv : JV w0 w1 g lb f D4 X sure qa qc) => trust_any hv)
  obtain ⟨RW, hRW⟩ : ∃ RW, Jn.rewriteL D f fi R sure X = RW := ⟨_, rfl⟩
  rw [hRW] at HF ⊢
  have H := Lib.hid h
  have HB := Lib.hid hB
  have HM0 := Lib.hid M0
  have HSL := Lib.hid hsl
  clear h hB M0 hs hsl hD1 he1 hD2 he2 hD3 he3 hD4 he4 hRW hq1 hfi
  go_enter Tryd.func40, Tryd.ntmps40
  go_wp2
  go_loopw [2, 4, 5, 8] (fun x2 x4 x5 x8 wr => ∃ k : Nat, x8 = .int .i64 k ∧ k ≤ 6 ∧ Hid (JMv g lb ws wr) ∧ Hid (Blk wr sb 100 (steps6 lb nb bl bf bn)) ∧ Hid ((k = 0 ∧ RS w0 wr g lb nb f D R X sure pa pc qa qc bl bf bn) ∨ (k = 1 ∧ e1 = .ok ∧ RS w0 wr g lb nb f D1 R X sure pa pc qa qc bl bf bn) ∨ (k = 2 ∧ e1 = .ok ∧ e2 = .ok ∧ RS w0 wr g lb nb f D2 R X sure pa pc qa qc bl bf bn) ∨ (k = 3 ∧ e1 = .ok ∧ e2 = .ok ∧ e3 = .ok ∧ RS w0 wr g lb nb f D3 R X sure pa pc qa qc bl bf bn) ∨ (k = 4 ∧ e1 = .ok ∧ e2 = .ok ∧ e3 = .ok ∧ e4 = .ok ∧ RS w0 wr g lb nb f D4 R X sure pa pc qa qc bl bf bn) ∨ (k = 5 ∧ e1 = .ok ∧ e2 = .ok ∧ e3 = .ok ∧ e4 = .ok ∧ JV w0 wr g lb f D4 X sure qa qc) ∨ (k = 6 ∧ e1 = .ok ∧ e2 = .ok ∧ e3 = .ok ∧ e4 = .ok ∧ JV w0 wr g lb f D4 X X.length qa qc))) (fun _ _ _ x8 _ => 6 - (intOf x8).toNat)
  case atStart => exact ⟨0, rfl, Nat.zero_le _, HM0.out, HB.out, .inl ⟨rfl, H.out⟩⟩
  case round =>
    obtain ⟨k, rfl, hk, hM, hbl, hS⟩ := hrel
    rcases hS.out with ⟨rfl, hv⟩ | ⟨rfl, z1, hv⟩ | ⟨rfl, z1, z2, hv⟩ | ⟨rfl, z1, z2, z3, hv⟩ | ⟨rfl, z1, z2, z3, z4, hv⟩ | ⟨rfl, z1, z2, z3, z4, hv⟩ | ⟨rfl, z1, z2, z3, z4, hv⟩
    · have cc := hbl.out.cell (j := 0) rfl
      have CV := Lib.hid (C0.out wr hv)
      have HV := Lib.hid hv
      have HZ := Lib.hid (Jn.ec_ok (e := e1))
      obtain ⟨re, hre⟩ : ∃ re, Dk.ec e1 = re := ⟨_, rfl⟩
      rw [hre] at CV HZ
      by_cases he : re = 0
      · subst he
        have hok := HZ.out.1 rfl
        clear hv hS hre
        go_wp2_with (go_at_call 53; with_reducible refine CV.out.mono ?_; rintro _ w2 ⟨rfl, hmm⟩; have HMM := Lib.hid hmm; clear hmm)
        go_roundw
        case rel => exact ⟨1, by go_num, by omega, hM.out.trans (HV.out.mv HMM.out).2, blk_mv hbl.out HV.out.l.mine.at_ HMM.out.mv (by decide) (by decide) (by decide), .inr (.inl ⟨rfl, hok, (HV.out.mv HMM.out).1⟩)⟩
        case measure => simp [intOf]
      · have he2 : (re != 0) = true := by simpa using he
        have hF : RowKit.Hid (RW = ⟨e1, D1, R, sure⟩) := Lib.hid (by rw [HF.out, if_pos (fun h => he (HZ.out.2 h))])
        have HRE := Lib.hid hre
        clear hv hS hre
        go_wp2_with (go_at_call 53; with_reducible refine CV.out.mono ?_; rintro _ w2 ⟨rfl, hmm⟩; have HMM := Lib.hid hmm; clear hmm)
        go_ret
        exact ⟨by rw [hF.out, HRE.out]; rfl, by rw [hF.out]; exact ⟨_, _, (HV.out.mv HMM.out).1.l⟩, hM.out.trans (HV.out.mv HMM.out).2⟩
    · have cc := hbl.out.cell (j := 1) rfl
      have CV := Lib.hid (C1.out wr hv)
      have HV := Lib.hid hv
      have HZ := Lib.hid (Jn.ec_ok (e := e2))
      obtain ⟨re, hre⟩ : ∃ re, Dk.ec e2 = re := ⟨_, rfl⟩
      rw [hre] at CV HZ
      by_cases he : re = 0
      · subst he
        have hok := HZ.out.1 rfl
        clear hv hS hre
        go_wp2_with (go_at_call 55; with_reducible refine CV.out.mono ?_; rintro _ w2 ⟨rfl, hmm⟩; have HMM := Lib.hid hmm; clear hmm)
        go_roundw
        case rel => exact ⟨2, by go_num, by omega, hM.out.trans (HV.out.mv HMM.out).2, blk_mv hbl.out HV.out.l.mine.at_ HMM.out.mv (by decide) (by decide) (by decide), .inr (.inr (.inl ⟨rfl, z1, hok, (HV.out.mv HMM.out).1⟩))⟩
        case measure => simp [intOf]
      · have he2 : (re != 0) = true := by simpa using he
        have hF : RowKit.Hid (RW = ⟨e2, D2, R, sure⟩) := Lib.hid (by rw [HF.out, if_neg (fun h => h z1), if_pos (fun h => he (HZ.out.2 h))])
        have HRE := Lib.hid hre
        clear hv hS hre
        go_wp2_with (go_at_call 55; with_reducible refine CV.out.mono ?_; rintro _ w2 ⟨rfl, hmm⟩; have HMM := Lib.hid hmm; clear hmm)
        go_ret
        exact ⟨by rw [hF.out, HRE.out]; rfl, by rw [hF.out]; exact ⟨_, _, (HV.out.mv HMM.out).1.l⟩, hM.out.trans (HV.out.mv HMM.out).2⟩
    · have cc := hbl.out.cell (j := 2) rfl
      have CV := Lib.hid (C2.out wr hv)
      have HV := Lib.hid hv
      have HZ := Lib.hid (Jn.ec_ok (e := e3))
      obtain ⟨re, hre⟩ : ∃ re, Dk.ec e3 = re := ⟨_, rfl⟩
      rw [hre] at CV HZ
      by_cases he : re = 0
      · subst he
        have hok := HZ.out.1 rfl
        clear hv hS hre
        go_wp2_with (go_at_call 41; with_reducible refine CV.out.mono ?_; rintro _ w2 ⟨rfl, hmm⟩; have HMM := Lib.hid hmm; clear hmm)
        go_roundw
        case rel => exact ⟨3, by go_num, by omega, hM.out.trans (HV.out.mv HMM.out).2, blk_mv hbl.out HV.out.l.mine.at_ HMM.out.mv (by decide) (by decide) (by decide), .inr (.inr (.inr (.inl ⟨rfl, z1, z2, hok, (HV.out.mv HMM.out).1⟩)))⟩
        case measure => simp [intOf]
      · have he2 : (re != 0) = true := by simpa using he
        have hF : RowKit.Hid (RW = ⟨e3, D3, R, sure⟩) := Lib.hid (by rw [HF.out, if_neg (fun h => h z1), if_neg (fun h => h z2), if_pos (fun h => he (HZ.out.2 h))])
        have HRE := Lib.hid hre
        clear hv hS hre
        go_wp2_with (go_at_call 41; with_reducible refine CV.out.mono ?_; rintro _ w2 ⟨rfl, hmm⟩; have HMM := Lib.hid hmm; clear hmm)
        go_ret
        exact ⟨by rw [hF.out, HRE.out]; rfl, by rw [hF.out]; exact ⟨_, _, (HV.out.mv HMM.out).1.l⟩, hM.out.trans (HV.out.mv HMM.out).2⟩
    · have cc := hbl.out.cell (j := 3) rfl
      have CV := Lib.hid (C3.out wr hv)
      have HV := Lib.hid hv
      have HZ := Lib.hid (Jn.ec_ok (e := e4))
      obtain ⟨re, hre⟩ : ∃ re, Dk.ec e4 = re := ⟨_, rfl⟩
      rw [hre] at CV HZ
      by_cases he : re = 0
      · subst he
        have hok := HZ.out.1 rfl
        clear hv hS hre
        go_wp2_with (go_at_call 57; with_reducible refine CV.out.mono ?_; rintro _ w2 ⟨rfl, hmm⟩; have HMM := Lib.hid hmm; clear hmm)
        go_roundw
        case rel => exact ⟨4, by go_num, by omega, hM.out.trans (HV.out.mv HMM.out).2, blk_mv hbl.out HV.out.l.mine.at_ HMM.out.mv (by decide) (by decide) (by decide), .inr (.inr (.inr (.inr (.inl ⟨rfl, z1, z2, z3, hok, (HV.out.mv HMM.out).1⟩))))⟩
        case measure => simp [intOf]
      · have he2 : (re != 0) = true := by simpa using he
        have hF : RowKit.Hid (RW = ⟨e4, D4, R, sure⟩) := Lib.hid (by rw [HF.out, if_neg (fun h => h z1), if_neg (fun h => h z2), if_neg (fun h => h z3), if_pos (fun h => he (HZ.out.2 h))])
        have HRE := Lib.hid hre
        clear hv hS hre
        go_wp2_with (go_at_call 57; with_reducible refine CV.out.mono ?_; rintro _ w2 ⟨rfl, hmm⟩; have HMM := Lib.hid hmm; clear hmm)
        go_ret
        exact ⟨by rw [hF.out, HRE.out]; rfl, by rw [hF.out]; exact ⟨_, _, (HV.out.mv HMM.out).1.l⟩, hM.out.trans (HV.out.mv HMM.out).2⟩
    · have cc := hbl.out.cell (j := 4) rfl
      have CV := Lib.hid (C4.out wr hv hM.out)
      clear hv hS
      go_wp2_with (go_at_call 59; with_reducible refine CV.out.mono ?_; rintro _ w2 ⟨rfl, hJ, hM2, hO⟩; have HJ := Lib.hid hJ; have HM2 := Lib.hid hM2; have HO := Lib.hid hO; clear hJ hM2 hO)
      go_roundw
      case rel => exact ⟨5, by go_num, by omega, HM2.out, (HO.out sb HSL.out).trans hbl.out, .inr (.inr (.inr (.inr (.inr (.inl ⟨rfl, z1, z2, z3, z4, HJ.out⟩)))))⟩
      case measure => simp [intOf]
    · have cc := hbl.out.cell (j := 5) rfl
      have CV := Lib.hid (C5.out wr hv)
      have HV := Lib.hid hv
      clear hv hS
      go_wp2_with (go_at_call 43; with_reducible refine CV.out.mono ?_; rintro _ w2 ⟨rfl, hJ, hM2⟩; have HJ := Lib.hid hJ; have HM2 := Lib.hid hM2; clear hJ hM2)
      go_roundw
      case rel => exact ⟨6, by go_num, by omega, hM.out.trans HM2.out, blk_jmv6 hbl.out HV.out HM2.out HSL.out, .inr (.inr (.inr (.inr (.inr (.inr (⟨rfl, z1, z2, z3, z4, HJ.out⟩))))))⟩
      case measure => simp [intOf]
    · have hF : RowKit.Hid (RW = ⟨.ok, D4, X, X.length⟩) := Lib.hid (by rw [HF.out, if_neg (fun h => h z1), if_neg (fun h => h z2), if_neg (fun h => h z3), if_neg (fun h => h z4)])
      have HJ := Lib.hid hv
      clear hv hS
      go_wp2
      go_ret
      exact ⟨by rw [hF.out]; rfl, by rw [hF.out]; exact ⟨_, _, HJ.out⟩, hM.out⟩
end
end Go.Proofs.YtbpodclodflgfaaDoor
