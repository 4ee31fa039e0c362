/-
  Append, Flush, Batch.
  Batch, Open.
  Open.
-/
import Derived.Test.YtbpodclodflgfaaDoorJGc
import Derived.Test.YtbpodclodflgfaaDoorKGg
namespace Go.Proofs.YtbpodclodflgfaaDoor
open Go Go.RowKit
namespace Jn
structure Fr where
  e : Dk.E
  d : Dk.Disk
  s : Nat
/-- Flush of the log. -/
def flushL (D : Dk.Disk) (f : Int) (R : List B) (sure : Nat) : Fr :=
  if sure < R.length then
    if (Dk.flush D f).1 ≠ .ok then ⟨(Dk.flush D f).1, (Dk.flush D f).2, sure⟩
    else if (Dk.write (Dk.flush D f).2 f 0 (header R)).1 ≠ .ok then ⟨(Dk.write (Dk.flush D f).2 f 0 (header R)).1, (Dk.write (Dk.flush D f).2 f 0 (header R)).2, sure⟩
    else if (Dk.flush (Dk.write (Dk.flush D f).2 f 0 (header R)).2 f).1 ≠ .ok then ⟨(Dk.flush (Dk.write (Dk.flush D f).2 f 0 (header R)).2 f).1, (Dk.flush (Dk.write (Dk.flush D f).2 f 0 (header R)).2 f).2, sure⟩
    else ⟨.ok, (Dk.flush (Dk.write (Dk.flush D f).2 f 0 (header R)).2 f).2, R.length⟩
  else ⟨if D.down = true then .down else .ok, D, sure⟩
end Jn
section
variable {w0 w : World} {g lb f sure : Nat} {D : Dk.Disk} {R X : List (List UInt8)} {pa : Option Addr} {pc : Nat}
theorem JV.foot_lt (h : JV w0 w g lb f D R sure pa pc) {b : Nat} (hf : JFoot w g lb b) : b < w.heap.size := by
  rcases hf with hf | hf | ⟨v, hc, hv⟩
  · obtain ⟨vs, q, k, hd⟩ := h.mine.at_
    exact hd.foot_lt hf
  · subst hf
    exact h.blk.lt
  · rw [h.cells.2.2.1] at hc
    injection hc with hc
    subst hc
    exact (World.ownsRow.lt h.row b hv).2
theorem JV.fresh (h : JV w0 w g lb f D R sure pa pc) (o : Obj) : ¬ JFoot (w.alloc o) g lb w.heap.size := fun hf => by
  have hb := below_new w o
  have := h.foot_lt (jfoot_same (hb.block g h.g_lt) (hb.block lb h.blk.lt) hf)
  omega
set_option maxHeartbeats 1000000 in
set_option maxRecDepth 100000 in
theorem append_any (h : JV w0 w g lb f D R sure pa pc) (r : List UInt8) (hr : r.length ≤ 400000) (hq : D.queue.length ≤ 400000) :
    Calls Tryd.prog 28 #[.pointer (some ⟨lb, 0, none⟩), .string (enc r)] w fun e w' => e = .returned (.int .i64 (Dk.ec (Dk.write D f ((16 + (Jn.forms R).length : Nat) : Int) (Jn.forms [r])).1)) ∧ JL w0 w' g lb f (Dk.write D f ((16 + (Jn.forms R).length : Nat) : Int) (Jn.forms [r])).2 (Jn.addRows (Dk.write D f ((16 + (Jn.forms R).length : Nat) : Int) (Jn.forms [r])).1 R [r]) sure ∧ JMv g lb w w' := by
  have hq1 := h.quiet (below_new w (.cells #[.string (enc r)] 9))
  have C := Lib.hid (add_any hq1.1 (lv_lit w [r]) (fun _ => h.fresh _) rfl Nat.one_pos (by rw [Jn.forms_one, Jn.form_length]; omega) hq)
  have M := Lib.hid hq1.2
  obtain ⟨D', hD'⟩ : ∃ D', (Dk.write D f ((16 + (Jn.forms R).length : Nat) : Int) (Jn.forms [r])).2 = D' := ⟨_, rfl⟩
  obtain ⟨er, her⟩ : ∃ er, (Dk.write D f ((16 + (Jn.forms R).length : Nat) : Int) (Jn.forms [r])).1 = er := ⟨_, rfl⟩
  rw [hD', her] at C ⊢
  obtain ⟨re, hre⟩ : ∃ re, Dk.ec er = re := ⟨_, rfl⟩
  obtain ⟨R2, hR2⟩ : ∃ R2, Jn.addRows er R [r] = R2 := ⟨_, rfl⟩
  rw [hre, hR2] at C ⊢
  have C2 : RowKit.Hid (Calls Tryd.prog 49 #[.pointer (some ⟨lb, 0, none⟩), .slice (some ⟨w.heap.size, 0, none⟩) 1 1] (w.alloc (.cells #[.string (enc r)] 9)) fun e w' => e = .returned (.int .i64 re) ∧ JL w0 w' g lb f D' R2 sure ∧ JMv g lb (w.alloc (.cells #[.string (enc r)] 9)) w') := C
  clear h hq1 C hD' her hre hR2
  go_enter Tryd.func28, Tryd.ntmps28
  go_wp2_with (go_at_call 49; with_reducible refine C2.out.mono ?_; rintro _ w2 ⟨rfl, hJ, hM⟩; have HJ := Lib.hid hJ; have HM := Lib.hid hM; clear hJ hM)
  go_ret
  exact ⟨rfl, HJ.out, M.out.trans HM.out⟩
/-- The four steps of Flush, as they lie in memory. -/
def steps4 (lb : Nat) : List Value := [.func (.func 41) #[.pointer (some ⟨lb, 0, none⟩)] #[], .func (.func 42) #[.pointer (some ⟨lb, 0, none⟩)] #[], .func (.func 41) #[.pointer (some ⟨lb, 0, none⟩)] #[], .func (.func 43) #[.pointer (some ⟨lb, 0, none⟩)] #[]]
set_option maxHeartbeats 4000000 in
set_option maxRecDepth 100000 in
theorem order4_any (h : JV w0 w g lb f D R sure pa pc) (hq : D.queue.length ≤ 400000) (sb : Nat) (hB : Blk w sb 100 (steps4 lb)) (hnf : ¬ JFoot w g lb sb) (hlt : sure < R.length) :
    Calls Tryd.prog 40 #[.slice (some ⟨sb, 0, none⟩) 4 4] w fun e w' => e = .returned (.int .i64 (Dk.ec (Jn.flushL D f R sure).e)) ∧ JV w0 w' g lb f (Jn.flushL D f R sure).d R (Jn.flushL D f R sure).s pa pc ∧ JMv g lb w w' := by
  have HF : RowKit.Hid (Jn.flushL D f R sure = _) := Lib.hid (by unfold Jn.flushL; rw [if_pos hlt])
  have hq0 := Dk.flush_queue D h.mine.armed0 f
  have C1 := Lib.hid (fun (w1 : World) (hv : JV w0 w1 g lb f D R sure pa pc) => flushFile_any hv)
  obtain ⟨D1, hD1⟩ : ∃ D1, (Dk.flush D f).2 = D1 := ⟨_, rfl⟩
  obtain ⟨e1, he1⟩ : ∃ e1, (Dk.flush D f).1 = e1 := ⟨_, rfl⟩
  rw [hD1] at hq0
  rw [hD1, he1] at HF C1
  have C2 := Lib.hid (fun (w1 : World) (hv : JV w0 w1 g lb f D1 R sure pa pc) => writeHeader_any hv (by omega))
  obtain ⟨D2, hD2⟩ : ∃ D2, (Dk.write D1 f 0 (Jn.header R)).2 = D2 := ⟨_, rfl⟩
  obtain ⟨e2, he2⟩ : ∃ e2, (Dk.write D1 f 0 (Jn.header R)).1 = e2 := ⟨_, rfl⟩
  rw [hD2, he2] at HF C2
  have C3 := Lib.hid (fun (w1 : World) (hv : JV w0 w1 g lb f D2 R sure pa pc) => flushFile_any hv)
  obtain ⟨D3, hD3⟩ : ∃ D3, (Dk.flush D2 f).2 = D3 := ⟨_, rfl⟩
  obtain ⟨e3, he3⟩ : ∃ e3, (Dk.flush D2 f).1 = e3 := ⟨_, rfl⟩
  rw [hD3, he3] at HF C3
  have C4 := Lib.hid (fun (w1 : World) (hv : JV w0 w1 g lb f D3 R sure pa pc) => trust_any hv)
  obtain ⟨FR, hFR⟩ : ∃ FR, Jn.flushL D f R sure = FR := ⟨_, rfl⟩
  rw [hFR] at HF ⊢
  have H := Lib.hid h
  have HBL := Lib.hid (fun (w1 : World) (hm : JMv g lb w w1) => show Blk w1 sb 100 (steps4 lb) from (hm.block sb hB.lt hnf).trans hB)
  clear h hB hnf hD1 he1 hD2 he2 hD3 he3 hFR hq0
  go_enter Tryd.func40, Tryd.ntmps40
  go_wp2
  go_loopw [2, 4, 5, 8] (fun x2 x4 x5 x8 wr => ∃ k : Nat, x8 = .int .i64 k ∧ k ≤ 4 ∧ Hid (JMv g lb w wr) ∧ Hid ((k = 0 ∧ JV w0 wr g lb f D R sure pa pc) ∨ (k = 1 ∧ e1 = .ok ∧ JV w0 wr g lb f D1 R sure pa pc) ∨ (k = 2 ∧ e1 = .ok ∧ e2 = .ok ∧ JV w0 wr g lb f D2 R sure pa pc) ∨ (k = 3 ∧ e1 = .ok ∧ e2 = .ok ∧ e3 = .ok ∧ JV w0 wr g lb f D3 R sure pa pc) ∨ (k = 4 ∧ e1 = .ok ∧ e2 = .ok ∧ e3 = .ok ∧ JV w0 wr g lb f D3 R R.length pa pc))) (fun _ _ _ x8 _ => 4 - (intOf x8).toNat)
  case atStart => exact ⟨0, rfl, Nat.zero_le _, JMv.refl _ _ _, .inl ⟨rfl, H.out⟩⟩
  case round =>
    obtain ⟨k, rfl, hk, hM, hS⟩ := hrel
    have hbl := HBL.out wr hM.out
    rcases hS.out with ⟨rfl, hv⟩ | ⟨rfl, z1, hv⟩ | ⟨rfl, z1, z2, hv⟩ | ⟨rfl, z1, z2, z3, hv⟩ | ⟨rfl, z1, z2, z3, hv⟩
    · have cc := hbl.cell (j := 0) rfl
      have CV := Lib.hid (C1.out wr hv)
      have HZ := Lib.hid (Jn.ec_ok (e := e1))
      obtain ⟨re, hre⟩ : ∃ re, Dk.ec e1 = re := ⟨_, rfl⟩
      rw [hre] at CV HZ
      by_cases he : re = 0
      · subst he
        have hok := HZ.out.1 rfl
        clear hbl hv hS hre
        go_wp2_with (go_at_call 41; with_reducible refine CV.out.mono ?_; rintro _ w2 ⟨rfl, hJ, hM2⟩; have HJ := Lib.hid hJ; have HM2 := Lib.hid hM2; clear hJ hM2)
        go_roundw
        case rel => exact ⟨1, by go_num, by omega, hM.out.trans HM2.out, .inr (.inl ⟨rfl, hok, HJ.out⟩)⟩
        case measure => simp [intOf]
      · have he2 : (re != 0) = true := by simpa using he
        have hF : RowKit.Hid (FR = ⟨e1, D1, sure⟩) := Lib.hid (by rw [HF.out, if_pos (fun h => he (HZ.out.2 h))])
        have HRE := Lib.hid hre
        clear hbl hv hS hre
        go_wp2_with (go_at_call 41; with_reducible refine CV.out.mono ?_; rintro _ w2 ⟨rfl, hJ, hM2⟩; have HJ := Lib.hid hJ; have HM2 := Lib.hid hM2; clear hJ hM2)
        go_ret
        exact ⟨by rw [hF.out, HRE.out]; rfl, by rw [hF.out]; exact HJ.out, hM.out.trans HM2.out⟩
    · have cc := hbl.cell (j := 1) rfl
      have CV := Lib.hid (C2.out wr hv)
      have HZ := Lib.hid (Jn.ec_ok (e := e2))
      obtain ⟨re, hre⟩ : ∃ re, Dk.ec e2 = re := ⟨_, rfl⟩
      rw [hre] at CV HZ
      by_cases he : re = 0
      · subst he
        have hok := HZ.out.1 rfl
        clear hbl hv hS hre
        go_wp2_with (go_at_call 42; with_reducible refine CV.out.mono ?_; rintro _ w2 ⟨rfl, hJ, hM2⟩; have HJ := Lib.hid hJ; have HM2 := Lib.hid hM2; clear hJ hM2)
        go_roundw
        case rel => exact ⟨2, by go_num, by omega, hM.out.trans HM2.out, .inr (.inr (.inl ⟨rfl, z1, hok, HJ.out⟩))⟩
        case measure => simp [intOf]
      · have he2 : (re != 0) = true := by simpa using he
        have hF : RowKit.Hid (FR = ⟨e2, D2, sure⟩) := Lib.hid (by rw [HF.out, if_neg (fun h => h z1), if_pos (fun h => he (HZ.out.2 h))])
        have HRE := Lib.hid hre
        clear hbl hv hS hre
        go_wp2_with (go_at_call 42; with_reducible refine CV.out.mono ?_; rintro _ w2 ⟨rfl, hJ, hM2⟩; have HJ := Lib.hid hJ; have HM2 := Lib.hid hM2; clear hJ hM2)
        go_ret
        exact ⟨by rw [hF.out, HRE.out]; rfl, by rw [hF.out]; exact HJ.out, hM.out.trans HM2.out⟩
    · have cc := hbl.cell (j := 2) rfl
      have CV := Lib.hid (C3.out wr hv)
      have HZ := Lib.hid (Jn.ec_ok (e := e3))
      obtain ⟨re, hre⟩ : ∃ re, Dk.ec e3 = re := ⟨_, rfl⟩
      rw [hre] at CV HZ
      by_cases he : re = 0
      · subst he
        have hok := HZ.out.1 rfl
        clear hbl hv hS hre
        go_wp2_with (go_at_call 41; with_reducible refine CV.out.mono ?_; rintro _ w2 ⟨rfl, hJ, hM2⟩; have HJ := Lib.hid hJ; have HM2 := Lib.hid hM2; clear hJ hM2)
        go_roundw
        case rel => exact ⟨3, by go_num, by omega, hM.out.trans HM2.out, .inr (.inr (.inr (.inl ⟨rfl, z1, z2, hok, HJ.out⟩)))⟩
        case measure => simp [intOf]
      · have he2 : (re != 0) = true := by simpa using he
        have hF : RowKit.Hid (FR = ⟨e3, D3, sure⟩) := Lib.hid (by rw [HF.out, if_neg (fun h => h z1), if_neg (fun h => h z2), if_pos (fun h => he (HZ.out.2 h))])
        have HRE := Lib.hid hre
        clear hbl hv hS hre
        go_wp2_with (go_at_call 41; with_reducible refine CV.out.mono ?_; rintro _ w2 ⟨rfl, hJ, hM2⟩; have HJ := Lib.hid hJ; have HM2 := Lib.hid hM2; clear hJ hM2)
        go_ret
        exact ⟨by rw [hF.out, HRE.out]; rfl, by rw [hF.out]; exact HJ.out, hM.out.trans HM2.out⟩
    · have cc := hbl.cell (j := 3) rfl
      have CV := Lib.hid (C4.out wr hv)
      clear hbl hv hS
      go_wp2_with (go_at_call 43; with_reducible refine CV.out.mono ?_; rintro _ w2 ⟨rfl, hJ, hM2⟩; have HJ := Lib.hid hJ; have HM2 := Lib.hid hM2; clear hJ hM2)
      go_roundw
      case rel => exact ⟨4, by go_num, by omega, hM.out.trans HM2.out, .inr (.inr (.inr (.inr ⟨rfl, z1, z2, z3, HJ.out⟩)))⟩
      case measure => simp [intOf]
    · have hF : RowKit.Hid (FR = ⟨.ok, D3, R.length⟩) := Lib.hid (by rw [HF.out, if_neg (fun h => h z1), if_neg (fun h => h z2), if_neg (fun h => h z3)])
      have HJ := Lib.hid hv
      clear hbl hv hS
      go_wp2
      go_ret
      exact ⟨by rw [hF.out]; rfl, by rw [hF.out]; exact HJ.out, hM.out⟩
set_option maxHeartbeats 4000000 in
set_option maxRecDepth 100000 in
theorem flush_log (h : JV w0 w g lb f D R sure pa pc) (hq : D.queue.length ≤ 400000) :
    Calls Tryd.prog 15 #[.pointer (some ⟨lb, 0, none⟩)] w fun e w' => e = .returned (.int .i64 (Dk.ec (Jn.flushL D f R sure).e)) ∧ JV w0 w' g lb f (Jn.flushL D f R sure).d R (Jn.flushL D f R sure).s pa pc ∧ JMv g lb w w' := by
  obtain ⟨c0, c1, c2, c3, c4⟩ := h.cells
  by_cases hlt : sure < R.length
  · have e1 : decide ((sure : Int) < (R.length : Int)) = true := by simpa using hlt
    have H0 := fun n : Nat => h.quiet (below_drewN (Below.refl w.heap.size w) n)
    have HO := Lib.hid (fun (n : Nat) (o : Obj) => (H0 n).1.quiet (below_new (w.drewN n) o))
    have CO := Lib.hid (fun n : Nat => order4_any (HO.out n (.cells (steps4 lb).toArray 100)).1 hq w.heap.size (Blk.made (w.drewN n) (steps4 lb).toArray 100) ((H0 n).1.fresh _) hlt)
    have HM0 := Lib.hid (fun (n : Nat) (o : Obj) => (H0 n).2.trans (HO.out n o).2)
    obtain ⟨FR, hFR⟩ : ∃ FR, Jn.flushL D f R sure = FR := ⟨_, rfl⟩
    rw [hFR] at CO ⊢
    clear hFR h H0
    unfold steps4 at CO HM0
    dsimp only [List.toArray, List.toArrayAux] at CO
    go_enter Tryd.func15, Tryd.ntmps15
    go_wp2
    go_quiet (fail)
    go_wp2_with (go_at_call 40; with_reducible refine (CO.out _).mono ?_; rintro _ w2 ⟨rfl, hJ, hM2⟩; have HJ := Lib.hid hJ; have HM2 := Lib.hid ((HM0.out _ _).trans hM2); clear hJ hM2)
    go_ret
    exact ⟨rfl, HJ.out, HM2.out⟩
  · have e1 : decide ((sure : Int) < (R.length : Int)) = false := by simpa using hlt
    have hF : RowKit.Hid (Jn.flushL D f R sure = ⟨if D.down = true then .down else .ok, D, sure⟩) := Lib.hid (by unfold Jn.flushL; rw [if_neg hlt])
    have H0 := Lib.hid (fun n : Nat => h.quiet (below_drewN (Below.refl w.heap.size w) n))
    have CD := Lib.hid (fun n : Nat => mine_down (H0.out n).1.mine)
    clear h
    cases hd : D.down with
    | true =>
      rw [hd] at CD
      go_enter Tryd.func15, Tryd.ntmps15
      go_wp2
      go_quiet (fail)
      go_wp2_with (go_at_call 44; with_reducible refine (CD.out _).mono ?_; rintro _ w2 ⟨rfl, rfl⟩)
      go_ret
      rw [hF.out, if_pos hd]
      exact ⟨rfl, (H0.out _).1, (H0.out _).2⟩
    | false =>
      rw [hd] at CD
      go_enter Tryd.func15, Tryd.ntmps15
      go_wp2
      go_quiet (fail)
      go_wp2_with (go_at_call 44; with_reducible refine (CD.out _).mono ?_; rintro _ w2 ⟨rfl, rfl⟩)
      go_ret
      rw [hF.out, if_neg (by rw [hd]; decide)]
      exact ⟨rfl, (H0.out _).1, (H0.out _).2⟩
end
end Go.Proofs.YtbpodclodflgfaaDoor
namespace Go.Proofs.YtbpodclodflgfaaDoor
open Go Go.RowKit
namespace Jn
structure Br where
  e : Dk.E
  d : Dk.Disk
  r : List B
  s : Nat
/-- Batch of the log. -/
def batchL (D : Dk.Disk) (f : Int) (R : List B) (sure : Nat) (X : List B) : Br :=
  if X = [] then ⟨(flushL D f R sure).e, (flushL D f R sure).d, R, (flushL D f R sure).s⟩
  else if (Dk.write D f ((16 + (forms R).length : Nat) : Int) (forms X)).1 ≠ .ok then ⟨(Dk.write D f ((16 + (forms R).length : Nat) : Int) (forms X)).1, (Dk.write D f ((16 + (forms R).length : Nat) : Int) (forms X)).2, R, sure⟩
  else ⟨(flushL (Dk.write D f ((16 + (forms R).length : Nat) : Int) (forms X)).2 f (R ++ X) sure).e, (flushL (Dk.write D f ((16 + (forms R).length : Nat) : Int) (forms X)).2 f (R ++ X) sure).d, R ++ X, (flushL (Dk.write D f ((16 + (forms R).length : Nat) : Int) (forms X)).2 f (R ++ X) sure).s⟩
end Jn
section
variable {w0 w : World} {g lb f sure : Nat} {D : Dk.Disk} {R X : List (List UInt8)} {pa xa : Option Addr} {pc b off cap n : Nat}
set_option maxHeartbeats 4000000 in
set_option maxRecDepth 100000 in
theorem batch_any (h : JV w0 w g lb f D R sure pa pc) (hL : Lv w xa b off cap X) (hnf : 0 < X.length → ¬ JFoot w g lb b) (hn : X.length = n) (hX : (Jn.forms X).length ≤ 300000) (hq : D.queue.length ≤ 100000) :
    Calls Tryd.prog 17 #[.pointer (some ⟨lb, 0, none⟩), .slice xa n cap] w fun e w' => e = .returned (.int .i64 (Dk.ec (Jn.batchL D f R sure X).e)) ∧ JL w0 w' g lb f (Jn.batchL D f R sure X).d (Jn.batchL D f R sure X).r (Jn.batchL D f R sure X).s ∧ JMv g lb w w' := by
  by_cases hX0 : X = []
  · subst hX0
    obtain rfl : n = 0 := hn.symm
    have hF : RowKit.Hid (Jn.batchL D f R sure [] = ⟨(Jn.flushL D f R sure).e, (Jn.flushL D f R sure).d, R, (Jn.flushL D f R sure).s⟩) := Lib.hid (by unfold Jn.batchL; rw [if_pos rfl])
    have C := Lib.hid (flush_log h (by omega))
    obtain ⟨FR, hFR⟩ : ∃ FR, Jn.flushL D f R sure = FR := ⟨_, rfl⟩
    rw [hFR] at C hF
    rw [hF.out]
    clear h hL hnf hFR
    go_enter Tryd.func17, Tryd.ntmps17
    go_wp2_with (go_at_call 15; with_reducible refine C.out.mono ?_; rintro _ w2 ⟨rfl, hJ, hM2⟩; have HJ := Lib.hid hJ; have HM2 := Lib.hid hM2; clear hJ hM2)
    go_ret
    exact ⟨rfl, ⟨pa, pc, HJ.out⟩, HM2.out⟩
  · have hp : 0 < n := by
      rw [← hn]
      exact List.length_pos_iff.2 hX0
    have hq1 := Dk.write_queue D h.mine.armed0 f ((16 + (Jn.forms R).length : Nat) : Int) (Jn.forms X)
    have CA := Lib.hid (add_any h hL hnf hn hp (by omega) (by omega))
    have hF : RowKit.Hid (Jn.batchL D f R sure X = _) := Lib.hid (by unfold Jn.batchL; rw [if_neg hX0])
    obtain ⟨D', hD'⟩ : ∃ D', (Dk.write D f ((16 + (Jn.forms R).length : Nat) : Int) (Jn.forms X)).2 = D' := ⟨_, rfl⟩
    obtain ⟨er, her⟩ : ∃ er, (Dk.write D f ((16 + (Jn.forms R).length : Nat) : Int) (Jn.forms X)).1 = er := ⟨_, rfl⟩
    rw [hD', her] at CA hF
    rw [hD'] at hq1
    have CF := Lib.hid (fun (w1 : World) (qa : Option Addr) (qc : Nat) (hv : JV w0 w1 g lb f D' (R ++ X) sure qa qc) => flush_log hv (by omega))
    obtain ⟨FR, hFR⟩ : ∃ FR, Jn.flushL D' f (R ++ X) sure = FR := ⟨_, rfl⟩
    obtain ⟨BR, hBR⟩ : ∃ BR, Jn.batchL D f R sure X = BR := ⟨_, rfl⟩
    rw [hFR] at CF hF
    rw [hBR] at hF ⊢
    have HZ := Lib.hid (Jn.ec_ok (e := er))
    obtain ⟨re, hre⟩ : ∃ re, Dk.ec er = re := ⟨_, rfl⟩
    rw [hre] at CA HZ
    have HRE := Lib.hid hre
    have hp2 : decide (0 < n) = true := by simpa using hp
    have hp3 : decide ((0 : Int) < (n : Int)) = true := by simpa using hp
    clear h hL hnf hD' her hFR hBR hre hq1
    by_cases he : re = 0
    · subst he
      have hok := HZ.out.1 rfl
      have hF2 : RowKit.Hid (BR = ⟨FR.e, FR.d, R ++ X, FR.s⟩) := Lib.hid (by rw [hF.out, if_neg (fun h => h hok)])
      have hadd : Jn.addRows er R X = R ++ X := by unfold Jn.addRows; rw [if_pos hok]
      rw [hadd] at CA
      clear hok hadd hF
      go_enter Tryd.func17, Tryd.ntmps17
      go_wp2_with (first | (go_at_call 15; with_reducible refine (CF.out _ _ _ HV1.out).mono ?_; rintro _ w3 ⟨rfl, hJ, hM2⟩; have HJ := Lib.hid hJ; have HM2 := Lib.hid (HM1.out.trans hM2); clear hJ hM2) | (go_at_call 49; with_reducible refine CA.out.mono ?_; rintro _ w2 ⟨rfl, ⟨qa, qc, hV⟩, hM⟩; have HV1 := Lib.hid hV; have HM1 := Lib.hid hM; clear hV hM))
      go_ret
      rw [hF2.out]
      exact ⟨rfl, ⟨_, _, HJ.out⟩, HM2.out⟩
    · have he2 : (re != 0) = true := by simpa using he
      have hne : er ≠ .ok := fun h => he (HZ.out.2 h)
      have hF2 : RowKit.Hid (BR = ⟨er, D', R, sure⟩) := Lib.hid (by rw [hF.out, if_pos hne])
      have hadd : Jn.addRows er R X = R := by unfold Jn.addRows; rw [if_neg hne]
      rw [hadd] at CA
      clear hne hadd hF
      go_enter Tryd.func17, Tryd.ntmps17
      go_wp2_with (go_at_call 49; with_reducible refine CA.out.mono ?_; rintro _ w2 ⟨rfl, hV, hM⟩; have HV1 := Lib.hid hV; have HM1 := Lib.hid hM; clear hV hM)
      go_ret
      rw [hF2.out]
      exact ⟨by rw [HRE.out]; rfl, HV1.out, HM1.out⟩
end
end Go.Proofs.YtbpodclodflgfaaDoor
namespace Go.Proofs.YtbpodclodflgfaaDoor
open Go Go.RowKit
namespace Dk
theorem read_up' {D : Disk} (hd : D.down = false) (f : Nat) (hf : f < 12) : readE D (f : Int) = (read D f, .ok) := by
  unfold readE
  rw [may_file hd (by omega) (by omega)]
  rfl
end Dk
namespace Jn
theorem rowsAll_length : ∀ (n : Nat) (s : B) (L : List B), s.length ≤ n → rowsAll s = some L → (forms L).length = s.length
  | n, [], L, _, h => by
    rw [rowsAll_nil] at h
    injection h with h
    subst h
    rfl
  | 0, c :: t, L, hn, _ => by simp at hn
  | n + 1, c :: t, L, hn, h => by
    cases hf : firstRow (c :: t) with
    | none => rw [rowsAll_none (by simp) hf] at h; cases h
    | some r =>
      have hle := firstRow_le hf
      rw [rowsAll_some (by simp) hf] at h
      obtain ⟨M, hM, rfl⟩ := Option.map_eq_some_iff.1 h
      have ih := rowsAll_length n _ M (by rw [List.length_drop]; omega) hM
      have e : forms (r :: M) = form r ++ forms M := rfl
      rw [e, List.length_append, ih, form_length, List.length_drop]
      omega
theorem parse_end_is {s : B} {L : List B} {k : Nat} (h : parse s = some (L, k)) : k = 16 + (forms L).length ∧ (forms L).length ≤ s.length := by
  unfold parse at h
  split at h
  · injection h with h
    injection h with h1 h2
    subst h1 h2
    exact ⟨rfl, Nat.zero_le _⟩
  · next h1 =>
    split at h
    · cases h
    · next h2 =>
      cases hr : rowsAll ((s.take (val s).toNat).drop 16) with
      | none => rw [hr] at h; cases h
      | some M =>
        rw [hr] at h
        unfold fin at h
        dsimp only at h
        split at h
        · injection h with h
          injection h with h3 h4
          subst h3 h4
          have hl := rowsAll_length _ _ M (Nat.le_refl _) hr
          rw [List.length_drop, List.length_take] at hl
          omega
        · cases h
end Jn
theorem parse_ok (s : ByteArray) (hs : s.size ≤ 100000000) (w : World) (hE : EnvJ w) {L : List (List UInt8)} {k : Nat} (h : Jn.parse s.data.toList = some (L, k)) :
    Calls Tryd.prog 39 #[.string s] w fun e w' => ∃ pa pc, e = .returned (.tuple #[.slice pa L.length pc, .int .i64 (k : Int), .bool true]) ∧ SOwn w' w.heap.size (.slice pa L.length pc) L ∧ Below w.heap.size w w' :=
  (parse_any s hs w hE).mono fun e w' ⟨hb, hc⟩ => by
    rcases hc with ⟨h1, _⟩ | ⟨L', k', pa, pc, h1, h2, h3⟩
    · rw [h] at h1; cases h1
    · rw [h] at h1
      injection h1 with h1
      injection h1 with h4 h5
      subst h4 h5
      exact ⟨pa, pc, h2, h3, hb⟩
theorem parse_no (s : ByteArray) (hs : s.size ≤ 100000000) (w : World) (hE : EnvJ w) (h : Jn.parse s.data.toList = none) :
    Calls Tryd.prog 39 #[.string s] w fun e w' => e = .returned (.tuple #[.slice none 0 0, .int .i64 0, .bool false]) ∧ Below w.heap.size w w' :=
  (parse_any s hs w hE).mono fun e w' ⟨hb, hc⟩ => by
    rcases hc with ⟨_, h2⟩ | ⟨L', k', pa, pc, h1, h2, h3⟩
    · exact ⟨h2, hb⟩
    · rw [h] at h1; cases h1
section
variable {w0 w : World} {g : Nat} {D : Dk.Disk} {L : List (List UInt8)} {k : Nat}
theorem JV.opened {w1 : World} (h : Mine w0 w g D) (hE : EnvJ w0) (hb : Below w.heap.size w w1) {pa : Option Addr} {pc : Nat} (ho : SOwn w1 w.heap.size (.slice pa L.length pc) L) (hB : (Jn.forms L).length ≤ 16777216) (f : Nat) :
    JV w0 (w1.alloc (.cells #[.pointer (some ⟨g, 0, none⟩), .int .i64 (f : Int), .slice pa L.length pc, .int .i64 (L.length : Int), .int .i64 ((16 + (Jn.forms L).length : Nat) : Int)] 77)) g w1.heap.size f D L L.length pa pc :=
  ⟨(h.quiet hb).alloc _, hE, Nat.le_trans h.below.size hb.size, Blk.made w1 #[.pointer (some ⟨g, 0, none⟩), .int .i64 (f : Int), .slice pa L.length pc, .int .i64 (L.length : Int), .int .i64 ((16 + (Jn.forms L).length : Nat) : Int)] 77,
   (ho.base h.below.size).alloc _, hB⟩
set_option maxHeartbeats 2000000 in
set_option maxRecDepth 100000 in
theorem open_ok (h : Mine w0 w g D) (hE : EnvJ w0) (f : Nat) (hf : f ≤ 6) (hd : D.down = false) (hp : Jn.parse (Dk.read D f) = some (L, k)) :
    Calls Tryd.prog 13 #[.pointer (some ⟨g, 0, none⟩), .int .i64 (f : Int)] w fun e w' => ∃ lb pa pc, e = .returned (.tuple #[.pointer (some ⟨lb, 0, none⟩), .int .i64 0]) ∧ w.heap.size ≤ lb ∧ JV w0 w' g lb f D L L.length pa pc ∧ Below w.heap.size w w' := by
  have hrd := Dk.read_up' hd f (by omega)
  have hlen : (Dk.read D f).length ≤ 16777216 := by
    obtain ⟨vs, q, kk, hv⟩ := h.at_
    exact hv.good.read f (by omega)
  obtain ⟨hk, hfl⟩ := Jn.parse_end_is hp
  have CR := Lib.hid (read_any g D (f : Int) w h.at_)
  rw [hrd] at CR
  obtain ⟨S, hS⟩ : ∃ S, enc (Dk.read D f) = S := ⟨_, rfl⟩
  have hSl : S.data.toList = Dk.read D f := by rw [← hS]; rfl
  have hSs : S.size ≤ 100000000 := by rw [Lib.size_eq, hSl]; omega
  rw [← hSl] at hp
  have CP := Lib.hid (fun (w1 : World) (hb : Below w.heap.size w w1) => parse_ok S hSs w1 ((hE.below h.below).below hb) hp)
  have CR2 : RowKit.Hid (Calls Tryd.prog 30 #[.pointer (some ⟨g, 0, none⟩), .int .i64 (f : Int)] w fun e w' => e = .returned (.tuple #[.string S, .int .i64 0]) ∧ Below w.heap.size w w') := by
    rw [← hS]; exact CR
  have HM := Lib.hid h
  have HE := Lib.hid hE
  have HP := Lib.hid hp
  have HK := Lib.hid hk
  have HB := Lib.hid (Nat.le_trans hfl hlen)
  have f1 : ¬ ((f : Int) < 0) := by omega
  have f2 : ¬ (6 < (f : Int)) := by omega
  have f3 : decide (6 < f) = false := by simp; omega
  have f4 : decide ((6 : Int) < (f : Int)) = false := by simp; omega
  clear h hE hrd hlen hk hfl CR hS hSl hp
  go_enter Tryd.func13, Tryd.ntmps13
  go_wp2_with (first | (go_at_call 30; with_reducible refine CR2.out.mono ?_; rintro _ w1 ⟨rfl, hb1⟩; have HB1 := Lib.hid hb1; clear hb1) | (go_at_call 39; with_reducible refine (CP.out _ HB1.out).mono ?_; rintro _ w2 ⟨pa, pc, rfl, ho, hb2⟩; have HO := Lib.hid (ho.base HB1.out.size); have HB2 := Lib.hid (below_to HB1.out (Nat.le_refl _) hb2); clear ho hb2))
  go_ret2
  have hJ := JV.opened HM.out HE.out HB2.out HO.out HB.out f
  rw [← HK.out] at hJ
  exact ⟨w2.heap.size, pa, pc, rfl, HB2.out.size, hJ, below_to HB2.out (Nat.le_refl _) (below_new w2 _)⟩
end
end Go.Proofs.YtbpodclodflgfaaDoor
