/-
  Rewrite itself.
  Same: two lists of strings.
  What succeeds; the law's small example.
  small of the law's text.
-/
import Derived.Test.YtbpodclodflgfaaDoorJGe
import Derived.Deep.DeepCutAuto
namespace Go.Proofs.YtbpodclodflgfaaDoor
open Go Go.RowKit
theorem below_al {B : Nat} {a w : World} (h : Below B a w) (hB : B ≤ a.heap.size) (o : Obj) : Below B a (w.alloc o) := below_to h hB (below_new w o)
theorem sown_past {w : World} {base b i : Nat} {v u : Value} {Y : List (List UInt8)} {t : TypeId} {L : List Value} (ho : SOwn w base v Y) (hb : Blk w b t L) (ht : t ≠ 9) : SOwn (w.setCell ⟨b, i, none⟩ u) base v Y := ho.other (grown_set (grown_refl w (some b)) i u) fun hv => by
  obtain ⟨_, ⟨h1, _⟩ | ⟨r, cap, cur, h1, _, h2, _⟩⟩ := ho
  · rw [h1] at hv; cases hv
  · rw [h1] at hv
    injection hv with hv
    change r = b at hv
    subst hv
    unfold Blk at hb
    rw [h2] at hb
    injection hb with h3
    injection h3 with _ h3 _
    exact ht h3.symm
theorem below_ofdrew {B : Nat} {a w : World} (h : Below B a w) : Below B a.drew w := ⟨h.os, h.tape, h.output, h.size, h.block⟩
section
variable {w0 w : World} {g lb f sure : Nat} {D : Dk.Disk} {R X : List (List UInt8)} {pa xa : Option Addr} {pc b off cap n : Nat}
set_option maxHeartbeats 4000000 in
set_option maxRecDepth 100000 in
theorem rewrite_any (h : JV w0 w g lb f D R sure pa pc) (hL : Lv w xa b off cap X) (hn : X.length = n) (hnil : xa = none → cap = 0) (fi : Int) (hfi : ((f + 1 : Nat) : Int) = fi) (hf : f ≤ 6) (hX : (Jn.forms X).length ≤ 300000) (hq : D.queue.length ≤ 100000) :
    Calls Tryd.prog 19 #[.pointer (some ⟨lb, 0, none⟩), .slice xa n cap] w fun e w' => e = .returned (.int .i64 (Dk.ec (Jn.rewriteL D f fi R sure X).e)) ∧ JL w0 w' g lb f (Jn.rewriteL D f fi R sure X).d (Jn.rewriteL D f fi R sure X).r (Jn.rewriteL D f fi R sure X).s ∧ JMv g lb w w' := by
  subst hn
  obtain ⟨RW, hRW⟩ : ∃ RW, Jn.rewriteL D f fi R sure X = RW := ⟨_, rfl⟩
  rw [hRW]
  have HRW := Lib.hid hRW
  clear hRW
  have b1 := below_new w (.cells #[.pointer (some ⟨lb, 0, none⟩)] 29)
  have CF := Lib.hid (formsOf_any X X.length rfl (by omega) xa b off cap _ (hL.below b1) (h.quiet b1).1.envw)
  have CC := Lib.hid (fun (w1 : World) (hb : Below w.heap.size w w1) => cloneS_any xa b off X.length cap X w1 (hL.below hb) rfl hnil (by have := Jn.forms_count X; omega))
  obtain ⟨FF, hFF⟩ : ∃ FF, enc (Jn.forms X) = FF := ⟨_, rfl⟩
  rw [hFF] at CF
  have H := Lib.hid h
  have HKL := Lib.hid (fun (w1 : World) (hb : Below w.heap.size w w1) => (h.quiet hb).1.cells)
  have B1 := Lib.hid b1
  have HFL := Lib.hid (show FF.size = (Jn.forms X).length by rw [← hFF, Lib.size_eq, enc_list])
  have hFs : FF.size ≤ 300000 := by rw [HFL.out]; exact hX
  have KBL := Lib.hid (fun (w1 : World) (hb : Below (w.alloc (.cells #[.pointer (some ⟨lb, 0, none⟩)] 29)).heap.size (w.alloc (.cells #[.pointer (some ⟨lb, 0, none⟩)] 29)) w1) => (hb.cell (p := ⟨w.heap.size, 0, none⟩) (lt_alloc w _)).trans ((Blk.made w #[.pointer (some ⟨lb, 0, none⟩)] 29).cell (j := 0) rfl))
  clear h hL hnil b1
  go_enter Tryd.func19, Tryd.ntmps19
  go_wp2_with (go_at_call 51; with_reducible refine CF.out.mono ?_; rintro _ w2 ⟨rfl, hb2⟩; have HB2 := Lib.hid hb2; have HW2 := Lib.hid (below_to B1.out (Nat.le_refl _) hb2); clear hb2)
  have HW3 := Lib.hid (below_drew (below_al HW2.out (Nat.le_refl _) (.cells #[.string FF] 9)))
  have HB3 := Lib.hid (below_drew (below_al HB2.out (Nat.le_refl _) (.cells #[.string FF] 9)))
  have SS := Lib.hid (fun (w1 : World) (hb : Below (w2.alloc (.cells #[.string FF] 9)).drew.heap.size (w2.alloc (.cells #[.string FF] 9)).drew w1) => show w1.cell? ⟨w.heap.size, 0, none⟩ = some (.pointer (some ⟨lb, 0, none⟩)) ∧ w1.cell? ⟨lb, 0, none⟩ = some (.pointer (some ⟨g, 0, none⟩)) ∧ w1.cell? ⟨lb, 1, none⟩ = some (.int .i64 (f : Int)) ∧ w1.cell? ⟨w2.heap.size, 0, none⟩ = some (.string FF) from by
    have k := HKL.out w1 (below_to HW3.out (Nat.le_refl _) hb)
    exact ⟨KBL.out w1 (below_to HB3.out (Nat.le_refl _) hb), k.1, k.2.1, (hb.cell (p := ⟨w2.heap.size, 0, none⟩) (lt_alloc w2 _)).trans ((Blk.made w2 #[.string FF] 9).cell (j := 0) rfl)⟩)
  have HWP := Lib.hid (below_drew (below_al (below_al HW2.out (Nat.le_refl _) (.cells #[.string FF] 9)) (Nat.le_refl _) (.cells #[.pointer none] 29)))
  have HPP := Lib.hid (show Below (w2.alloc (.cells #[.string FF] 9)).drew.heap.size (w2.alloc (.cells #[.string FF] 9)).drew ((w2.alloc (.cells #[.string FF] 9)).alloc (.cells #[.pointer none] 29)).drew from below_ofdrew (below_drew (below_new (w2.alloc (.cells #[.string FF] 9)) (.cells #[.pointer none] 29))))
  have PB := Lib.hid (fun (w1 : World) (hb : Below ((w2.alloc (.cells #[.string FF] 9)).alloc (.cells #[.pointer none] 29)).drew.heap.size ((w2.alloc (.cells #[.string FF] 9)).alloc (.cells #[.pointer none] 29)).drew w1) => show Blk w1 (w2.heap.size + 1) 29 [.pointer none] ∧ ∀ o : Obj, Blk (w1.alloc o) (w2.heap.size + 1) 29 [.pointer none] from by
    have hm := Blk.made (w2.alloc (.cells #[.string FF] 9)) #[.pointer none] 29
    rw [alloc_size] at hm
    have h1 : Blk w1 (w2.heap.size + 1) 29 [.pointer none] := (hb.block _ hm.lt).trans hm
    exact ⟨h1, fun o => ((below_new w1 o).block _ h1.lt).trans h1⟩)
  have HG1 : RowKit.Hid ((w2.alloc (.cells #[.string FF] 9)).drew.heap.size ≤ w2.heap.size + 1) := Lib.hid (by show (w2.alloc (.cells #[.string FF] 9)).heap.size ≤ _; rw [alloc_size]; exact Nat.le_refl _)
  have HG2 := Lib.hid (fun (w1 : World) (hb : Below (w2.alloc (.cells #[.string FF] 9)).drew.heap.size (w2.alloc (.cells #[.string FF] 9)).drew w1) => show (w2.alloc (.cells #[.string FF] 9)).drew.heap.size ≤ w1.heap.size from hb.size)
  have HG3 := Lib.hid (fun (w1 : World) (hb : Below (w2.alloc (.cells #[.string FF] 9)).drew.heap.size (w2.alloc (.cells #[.string FF] 9)).drew w1) => show (w2.alloc (.cells #[.string FF] 9)).drew.heap.size ≤ w1.heap.size + 1 from Nat.le_succ_of_le hb.size)
  have hw1 : IntKind.i64.wrap ((f : Int) + 1) = fi := by rw [← hfi, IntKind.wrap_i64]; omega
  have hw2 : IntKind.i64.wrap (16 + (FF.size : Int)) = ((16 + (Jn.forms X).length : Nat) : Int) := by rw [← HFL.out, IntKind.wrap_i64]; omega
  obtain ⟨en, hen⟩ : ∃ en : Int, ((16 + (Jn.forms X).length : Nat) : Int) = en := ⟨_, rfl⟩
  rw [hen] at hw2
  have HEN := Lib.hid hen
  clear hen
  have HFI := Lib.hid hfi
  have HFF := Lib.hid hFF
  have FIN := Lib.hid (fun (W : World) (nb bn : Nat) (qa : Option Addr) (qc : Nat) (hb : Below (w2.alloc (.cells #[.string FF] 9)).drew.heap.size (w2.alloc (.cells #[.string FF] 9)).drew W) (hN : Blk W nb 77 [.pointer (some ⟨g, 0, none⟩), .int .i64 fi, .slice qa X.length qc, .int .i64 0, .int .i64 en]) (hr : SOwn W w.heap.size (.slice qa X.length qc) X) (hcn : Blk W bn 29 [.pointer (some ⟨nb, 0, none⟩)]) (hnb : w.heap.size ≤ nb) => show RS w0 W g lb nb f D R X sure pa pc qa qc w.heap.size w2.heap.size bn ∧ JMv g lb w W ∧ ∀ b, (Value.slice qa X.length qc).ownBlock = some b → w.heap.size ≤ b from by
    have hw := below_to HW3.out (Nat.le_refl _) hb
    have hq9 := H.out.quiet hw
    have hbl : Blk W w.heap.size 29 [.pointer (some ⟨lb, 0, none⟩)] := ((below_to HB3.out (Nat.le_refl _) hb).block _ (lt_alloc w _)).trans (Blk.made w #[.pointer (some ⟨lb, 0, none⟩)] 29)
    have hbf : Blk W w2.heap.size 9 [.string FF] := (hb.block _ (lt_alloc w2 _)).trans (Blk.made w2 #[.string FF] 9)
    have hlt := H.out.blk.lt
    refine ⟨⟨hq9.1, ⟨hq9.1.mine, hq9.1.env, Nat.le_trans H.out.mine.below.size hnb, ?_, hr.base H.out.mine.below.size, Nat.le_trans hX (by decide)⟩, hbl, ?_, hcn, by omega⟩, hq9.2, own_from hr⟩
    · unfold lcells
      rw [HFI.out, HEN.out]
      exact hN
    · rw [HFF.out]
      exact hbf)
  clear hfi hFF
  go_upto_region 2 with fail
  go_cut [6] from 7 (fun x6 wc => ∃ nb bn qa qc, x6 = .pointer (some ⟨bn, 0, none⟩) ∧ Hid (RS w0 wc g lb nb f D R X sure pa pc qa qc w.heap.size w2.heap.size bn) ∧ Hid (JMv g lb w wc) ∧ Hid (∀ b, (Value.slice qa X.length qc).ownBlock = some b → w.heap.size ≤ b))
  case first =>
    go_region_held3 (fun w' => w'.cell? ⟨w.heap.size, 0, none⟩ = some (.pointer (some ⟨lb, 0, none⟩)) ∧ w'.cell? ⟨lb, 0, none⟩ = some (.pointer (some ⟨g, 0, none⟩)) ∧ w'.cell? ⟨lb, 1, none⟩ = some (.int .i64 (f : Int)) ∧ w'.cell? ⟨w2.heap.size, 0, none⟩ = some (.string FF))
      (first | exact SS.out _ (Below.refl _ _) | exact SS.out _ HPP.out | exact SS.out _ HB4.out | exact SS.out _ (below_al HB4.out (Nat.le_refl _) _) | exact SS.out _ (below_al (below_al HB4.out (Nat.le_refl _) _) (Nat.le_refl _) _) | exact SS.out _ (below_al (Below.refl _ _) (Nat.le_refl _) _) | exact SS.out _ (below_store (below_al HB4.out (Nat.le_refl _) _) (HG1.out) (Nat.le_refl _) _ _) | exact SS.out _ (below_store (below_al (below_al HB4.out (Nat.le_refl _) _) (Nat.le_refl _) _) (HG2.out _ HB4.out) (Nat.le_refl _) _ _) | exact SS.out _ (below_store (below_al (below_al HB4.out (Nat.le_refl _) _) (Nat.le_refl _) _) (HG3.out _ HB4.out) (Nat.le_refl _) _ _))
      (first | (go_at_call 52; first | (with_reducible refine (CC.out _ HW3.out).mono ?_; rintro _ w4 ⟨qa, qc, rfl, ho4, hb4⟩; have HB4 := Lib.hid hb4; have HO4 := Lib.hid (ho4.base HW3.out.size); clear hb4 ho4) | (with_reducible refine (CC.out _ HWP.out).mono ?_; rintro _ w4 ⟨qa, qc, rfl, ho4, hb4⟩; have HB4 := Lib.hid (below_to HPP.out (Nat.le_refl _) hb4); have HB5 := Lib.hid hb4; have HO4 := Lib.hid (ho4.base HWP.out.size); have pc1 := (PB.out _ hb4).1.cell (j := 0) rfl; have pf1 := (PB.out _ hb4).1.free 0; have pc2 := fun o => ((PB.out _ hb4).2 o).cell (j := 0) rfl; have pf2 := fun o => ((PB.out _ hb4).2 o).free 0; clear hb4 ho4)) | fail)
    all_goals (try go_wp2_with fail)
    all_goals go_meet
    · have hb := below_al (below_al HB4.out (Nat.le_refl _) (.cells #[.pointer (some ⟨g, 0, none⟩), .int .i64 fi, .slice qa X.length qc, .int .i64 0, .int .i64 en] 77)) (Nat.le_refl _) (.cells #[.pointer (some ⟨w4.heap.size, 0, none⟩)] 29)
      have hx := below_new (w4.alloc (.cells #[.pointer (some ⟨g, 0, none⟩), .int .i64 fi, .slice qa X.length qc, .int .i64 0, .int .i64 en] 77)) (.cells #[.pointer (some ⟨w4.heap.size, 0, none⟩)] 29)
      have hm := Blk.made (w4.alloc (.cells #[.pointer (some ⟨g, 0, none⟩), .int .i64 fi, .slice qa X.length qc, .int .i64 0, .int .i64 en] 77)) #[.pointer (some ⟨w4.heap.size, 0, none⟩)] 29
      rw [alloc_size] at hm
      have hn := Blk.made w4 #[.pointer (some ⟨g, 0, none⟩), .int .i64 fi, .slice qa X.length qc, .int .i64 0, .int .i64 en] 77
      obtain ⟨z1, z2, z3⟩ := FIN.out _ w4.heap.size (w4.heap.size + 1) qa qc hb ((hx.block _ hn.lt).trans hn) ((HO4.out.alloc _).alloc _) hm (Nat.le_trans HW3.out.size HB4.out.size)
      exact ⟨_, _, qa, qc, rfl, z1, z2, z3⟩
    · have hb := below_al (below_al HB4.out (Nat.le_refl _) (.cells #[.pointer (some ⟨w4.heap.size + 1, 0, none⟩)] 29)) (Nat.le_refl _) (.cells #[.pointer (some ⟨g, 0, none⟩), .int .i64 fi, .slice qa X.length qc, .int .i64 0, .int .i64 en] 77)
      have hx := below_new (w4.alloc (.cells #[.pointer (some ⟨w4.heap.size + 1, 0, none⟩)] 29)) (.cells #[.pointer (some ⟨g, 0, none⟩), .int .i64 fi, .slice qa X.length qc, .int .i64 0, .int .i64 en] 77)
      have hn := Blk.made (w4.alloc (.cells #[.pointer (some ⟨w4.heap.size + 1, 0, none⟩)] 29)) #[.pointer (some ⟨g, 0, none⟩), .int .i64 fi, .slice qa X.length qc, .int .i64 0, .int .i64 en] 77
      rw [alloc_size] at hn
      have hm := Blk.made w4 #[.pointer (some ⟨w4.heap.size + 1, 0, none⟩)] 29
      obtain ⟨z1, z2, z3⟩ := FIN.out _ (w4.heap.size + 1) w4.heap.size qa qc hb hn ((HO4.out.alloc _).alloc _) ((hx.block _ hm.lt).trans hm) (Nat.le_succ_of_le (Nat.le_trans HW3.out.size HB4.out.size))
      exact ⟨_, _, qa, qc, rfl, z1, z2, z3⟩
    · have hb := below_store (below_al HB4.out (Nat.le_refl _) (.cells #[.pointer (some ⟨g, 0, none⟩), .int .i64 fi, .slice qa X.length qc, .int .i64 0, .int .i64 en] 77)) HG1.out (Nat.le_refl _) 0 (.pointer (some ⟨w4.heap.size, 0, none⟩))
      have hp := (PB.out _ HB5.out).2 (.cells #[.pointer (some ⟨g, 0, none⟩), .int .i64 fi, .slice qa X.length qc, .int .i64 0, .int .i64 en] 77)
      have hn := Blk.made w4 #[.pointer (some ⟨g, 0, none⟩), .int .i64 fi, .slice qa X.length qc, .int .i64 0, .int .i64 en] 77
      have hlt := (PB.out _ HB5.out).1.lt
      obtain ⟨z1, z2, z3⟩ := FIN.out _ w4.heap.size (w2.heap.size + 1) qa qc hb (hn.past (by omega)) (sown_past (HO4.out.alloc _) hp (by decide)) (hp.set 0 _) (Nat.le_trans HW3.out.size HB4.out.size)
      exact ⟨_, _, qa, qc, rfl, z1, z2, z3⟩
  case rest =>
    obtain ⟨nb, bn, qa, qc, rfl, hS, hM, hR⟩ := hcut
    have k0 := hS.out.cl.cell (j := 0) rfl
    have k1 := hS.out.cn.cell (j := 0) rfl
    have hb9 := below_new wc (.cells (steps6 lb nb w.heap.size w2.heap.size bn).toArray 100)
    have CO := Lib.hid (order6_any (hS.out.quiet hb9) (hM.out.trans (hS.out.l.quiet hb9).2) hR.out fi HFI.out hX hq wc.heap.size (Blk.made wc (steps6 lb nb w.heap.size w2.heap.size bn).toArray 100))
    rw [HRW.out] at CO
    unfold steps6 at CO
    dsimp only [List.toArray, List.toArrayAux] at CO
    clear hb9
    go_wp2_with (go_at_call 40; with_reducible refine CO.out.mono ?_; rintro _ w9 ⟨rfl, hJ, hM9⟩; have HJ := Lib.hid hJ; have HM9 := Lib.hid hM9; clear hJ hM9)
    go_ret
    exact ⟨rfl, HJ.out, HM9.out⟩
end
end Go.Proofs.YtbpodclodflgfaaDoor
namespace Go.Proofs.YtbpodclodflgfaaDoor
open Go Go.RowKit
theorem encStr_size {x : List UInt8} {s : ByteArray} (h : encStr x = .string s) : x = s.data.toList ∧ s.size = x.length := by
  unfold encStr at h
  injection h with h
  subst h
  exact ⟨by simp, by simp [ByteArray.size]⟩
theorem retB {a b : Bool} (h : b = a) : Ending.returned (.bool a) = .returned (.bool b) := by rw [h]
/-- Two lists that agree up to k. -/
def SameTo (X Y : List (List UInt8)) (k : Nat) : Prop := ∀ j, j < k → X.getD j [] = Y.getD j []
theorem SameTo.next {X Y : List (List UInt8)} {k : Nat} (h : SameTo X Y k) (hk : X.getD k [] = Y.getD k []) : SameTo X Y (k + 1) := fun j hj => by
  rcases Nat.lt_succ_iff_lt_or_eq.1 hj with h1 | rfl
  · exact h j h1
  · exact hk
theorem SameTo.eq {X Y : List (List UInt8)} {n : Nat} (hx : X.length = n) (hy : Y.length = n) (h : SameTo X Y n) : X = Y := by
  refine List.ext_getElem (by omega) fun j h1 h2 => ?_
  have := h j (by omega)
  simpa [List.getD_eq_getElem?_getD, h1, h2] using this
/-- Whether two lists are equal, by its own name. -/
def sameRows (X Y : List (List UInt8)) : Bool := decide (X = Y)
theorem strEq' (a b : ByteArray) : (a.toList == b.toList) = decide (a.data.toList = b.data.toList) := by
  rw [Bool.eq_iff_iff]
  simp [ByteArray.toList_eq]
theorem drews_more {w wr : World} (h : ∃ n, wr = w.drewN n) (k : Nat) : ∃ n, wr.drewN k = w.drewN n := by
  obtain ⟨n, rfl⟩ := h
  exact ⟨_, World.drewN_drewN _ _ _⟩
set_option maxHeartbeats 1000000 in
set_option maxRecDepth 100000 in
theorem same_any (X Y : List (List UInt8)) (n m : Nat) (hn : X.length = n) (hm : Y.length = m) (hN : n ≤ 1000000) (hM : m ≤ 1000000) (xa ya : Option Addr) (b off cap b' off' cap' : Nat) (w : World) (hX : Lv w xa b off cap X) (hY : Lv w ya b' off' cap' Y) :
    Calls Tryd.prog 32 #[.slice xa n cap, .slice ya m cap'] w fun e w' => e = .returned (.bool (sameRows X Y)) ∧ Below w.heap.size w w' := by
  by_cases hnm : n = m
  · subst hnm
    have HX := Lib.hid hX
    have HY := Lib.hid hY
    have HN := Lib.hid hn
    have HM := Lib.hid hm
    clear hX hY hn hm
    go_enter Tryd.func32, Tryd.ntmps32
    go_wp2
    go_loopw [5] (fun i wr => ∃ k : Nat, i = .int .i64 k ∧ k ≤ n ∧ SameTo X Y k ∧ Hid (∃ n, wr = w.drewN n)) (fun i _ => n - (intOf i).toNat)
    case atStart => exact ⟨0, rfl, Nat.zero_le _, fun j hj => absurd hj (by omega), ⟨0, rfl⟩⟩
    case round =>
      obtain ⟨k, rfl, hk, hS, hwr⟩ := hrel
      have HS := Lib.hid hS
      clear hS
      by_cases hlt : k < n
      · obtain rfl := HX.out.at_ (by rw [HN.out]; omega)
        obtain rfl := HY.out.at_ (by rw [HM.out]; omega)
        have c1 : wr.cell? ⟨b, off + k, none⟩ = some (encStr (X.getD k [])) := by obtain ⟨n, rfl⟩ := hwr; exact HX.out.cell k (by rw [HN.out]; omega)
        have c2 : wr.cell? ⟨b', off' + k, none⟩ = some (encStr (Y.getD k [])) := by obtain ⟨n, rfl⟩ := hwr; exact HY.out.cell k (by rw [HM.out]; omega)
        obtain ⟨s, hs⟩ : ∃ s, encStr (X.getD k []) = .string s := ⟨_, rfl⟩
        obtain ⟨t, ht⟩ : ∃ s, encStr (Y.getD k []) = .string s := ⟨_, rfl⟩
        rw [hs] at c1
        rw [ht] at c2
        have h1 := (encStr_size hs).1
        have h2 := (encStr_size ht).1
        have hne := strEq' s t
        by_cases hst : s.data.toList = t.data.toList
        · have hq : (s.toList == t.toList) = true := by rw [hne]; simpa using hst
          have hq2 : (s.toList != t.toList) = false := by rw [bne, hq]; rfl
          have HE := Lib.hid (h1.trans (hst.trans h2.symm))
          clear hs ht h1 h2 hne hst
          go_wp2
          go_quiet (fail)
          go_wp2
          go_roundw
          case rel => exact ⟨k + 1, by go_num, by omega, HS.out.next HE.out, drews_more hwr.out _⟩
          case measure => simp [intOf]; omega
        · have hq : (s.toList == t.toList) = false := by rw [hne]; simpa using hst
          have hq2 : (s.toList != t.toList) = true := by rw [bne, hq]; rfl
          have HR := Lib.hid (show sameRows X Y = false from by unfold sameRows; simp only [decide_eq_false_iff_not]; intro h; rw [h, h2] at h1; exact hst h1.symm)
          clear hs ht h1 h2 hne hst
          go_wp2
          go_quiet (fail)
          go_wp2
          go_ret
          exact ⟨retB HR.out, by obtain ⟨q, rfl⟩ := hwr.out; exact below_drewN (below_drewN (Below.refl _ _) _) _⟩
      · have HR := Lib.hid (show sameRows X Y = true from by unfold sameRows; simp only [decide_eq_true_eq]; exact SameTo.eq HN.out HM.out (by rw [show n = k by omega]; exact HS.out))
        go_wp2
        go_ret
        exact ⟨retB HR.out, by obtain ⟨q, rfl⟩ := hwr.out; exact below_drewN (Below.refl _ _) _⟩
  · have HR := Lib.hid (show sameRows X Y = false from by unfold sameRows; simp only [decide_eq_false_iff_not]; rintro rfl; omega)
    have e1 : ((n : Int) != (m : Int)) = true := by rw [bne_iff_ne]; omega
    have e2 : (n : Int) ≠ (m : Int) := by omega
    clear hX hY hn hm
    go_enter Tryd.func32, Tryd.ntmps32
    go_wp2
    go_ret
    exact ⟨retB HR.out, Below.refl _ _⟩
end Go.Proofs.YtbpodclodflgfaaDoor
namespace Go.Proofs.YtbpodclodflgfaaDoor
open Go Go.RowKit
section
variable {w0 w : World} {g lb f sure : Nat} {D : Dk.Disk} {R X : List (List UInt8)} {pa xa : Option Addr} {pc b off cap n : Nat}
theorem append_ok (h : JV w0 w g lb f D R sure pa pc) (r : ByteArray) (hr : r.size ≤ 400000) (hq : D.queue.length ≤ 400000) (he : (Dk.write D f ((16 + (Jn.forms R).length : Nat) : Int) (Jn.forms [r.data.toList])).1 = .ok) :
    Calls Tryd.prog 28 #[.pointer (some ⟨lb, 0, none⟩), .string r] w fun e w' => e = .returned (.int .i64 0) ∧ JL w0 w' g lb f (Dk.write D f ((16 + (Jn.forms R).length : Nat) : Int) (Jn.forms [r.data.toList])).2 (R ++ [r.data.toList]) sure ∧ JMv g lb w w' := by
  have h1 := append_any h r.data.toList (by rw [← Lib.size_eq]; exact hr) hq
  rw [show enc r.data.toList = r from ba_ext rfl] at h1
  refine h1.mono fun e w' ⟨x, y, z⟩ => ⟨by rw [x, he]; rfl, ?_, z⟩
  unfold Jn.addRows at y
  rw [if_pos he] at y
  exact y
theorem flush_ok (h : JV w0 w g lb f D R sure pa pc) (hq : D.queue.length ≤ 400000) (he : (Jn.flushL D f R sure).e = .ok) :
    Calls Tryd.prog 15 #[.pointer (some ⟨lb, 0, none⟩)] w fun e w' => e = .returned (.int .i64 0) ∧ JV w0 w' g lb f (Jn.flushL D f R sure).d R (Jn.flushL D f R sure).s pa pc ∧ JMv g lb w w' :=
  (flush_log h hq).mono fun e w' ⟨x, y, z⟩ => ⟨by rw [x, he]; rfl, y, z⟩
theorem rewrite_ok (h : JV w0 w g lb f D R sure pa pc) (hL : Lv w xa b off cap X) (hn : X.length = n) (hnil : xa = none → cap = 0) (fi : Int) (hfi : ((f + 1 : Nat) : Int) = fi) (hf : f ≤ 6) (hX : (Jn.forms X).length ≤ 300000) (hq : D.queue.length ≤ 100000) (he : (Jn.rewriteL D f fi R sure X).e = .ok) :
    Calls Tryd.prog 19 #[.pointer (some ⟨lb, 0, none⟩), .slice xa n cap] w fun e w' => e = .returned (.int .i64 0) ∧ JL w0 w' g lb f (Jn.rewriteL D f fi R sure X).d (Jn.rewriteL D f fi R sure X).r (Jn.rewriteL D f fi R sure X).s ∧ JMv g lb w w' :=
  (rewrite_any h hL hn hnil fi hfi hf hX hq).mono fun e w' ⟨x, y, z⟩ => ⟨by rw [x, he]; rfl, y, z⟩
end
namespace Sm
def D1 : Dk.Disk := (Dk.write Dk.new 2 16 (Jn.forms [[97]])).2
def D2 : Dk.Disk := (Jn.flushL D1 2 [[97]] 0).d
def D3 : Dk.Disk := (Dk.write D2 2 33 (Jn.forms [[98]])).2
def D4 : Dk.Disk := Dk.start (Dk.crash D3 [])
def D5 : Dk.Disk := (Jn.rewriteL D4 2 3 [[97]] 1 [[98], [99]]).d
def D6 : Dk.Disk := Dk.start (Dk.crash D5 [])
set_option maxRecDepth 100000 in
theorem f0 : Jn.parse (Dk.read Dk.new 2) = some ([], 16) := by decide +kernel
set_option maxRecDepth 100000 in
theorem f1 : (Dk.write Dk.new 2 16 (Jn.forms [[97]])).1 = .ok := by decide +kernel
set_option maxRecDepth 100000 in
theorem f2 : (Jn.flushL D1 2 [[97]] 0).e = .ok ∧ (Jn.flushL D1 2 [[97]] 0).s = 1 ∧ D1.queue.length ≤ 1000 := by decide +kernel
set_option maxRecDepth 100000 in
theorem f3 : (Dk.write D2 2 33 (Jn.forms [[98]])).1 = .ok ∧ D2.queue.length ≤ 1000 := by decide +kernel
set_option maxRecDepth 100000 in
theorem f4 : Jn.parse (Dk.read D4 2) = some ([[97]], 33) ∧ D4.queue.length ≤ 1000 := by decide +kernel
set_option maxRecDepth 100000 in
theorem f5 : (Jn.rewriteL D4 2 3 [[97]] 1 [[98], [99]]).e = .ok ∧ (Jn.rewriteL D4 2 3 [[97]] 1 [[98], [99]]).r = [[98], [99]] ∧ (Jn.rewriteL D4 2 3 [[97]] 1 [[98], [99]]).s = 2 := by decide +kernel
set_option maxRecDepth 100000 in
theorem f6 : Jn.parse (Dk.read D6 2) = some ([[98], [99]], 50) := by decide +kernel
set_option maxRecDepth 100000 in
theorem f7 : D4.down = false ∧ D6.down = false ∧ (Jn.forms [[97]]).length = 17 ∧ (Jn.forms [[98], [99]]).length = 34 := by decide +kernel
end Sm
end Go.Proofs.YtbpodclodflgfaaDoor
namespace Go.Proofs.YtbpodclodflgfaaDoor
open Go Go.RowKit
section
variable {w0 w : World} {g lb : Nat} {pa : Option Addr} {pc : Nat}
theorem sm_open1 (h : Mine w0 w g Dk.new) (hE : EnvJ w0) : Calls Tryd.prog 13 #[.pointer (some ⟨g, 0, none⟩), .int .i64 2] w fun e w' => ∃ lb pa pc, e = .returned (.tuple #[.pointer (some ⟨lb, 0, none⟩), .int .i64 0]) ∧ JV w0 w' g lb 2 Dk.new [] 0 pa pc :=
  (open_ok h hE 2 (by decide) rfl Sm.f0).mono fun _ _ ⟨a, b, c, d, _, e, _⟩ => ⟨a, b, c, d, e⟩
theorem sm_append1 (h : JV w0 w g lb 2 Dk.new [] 0 pa pc) : Calls Tryd.prog 28 #[.pointer (some ⟨lb, 0, none⟩), .string ⟨#[97]⟩] w fun e w' => ∃ pa pc, e = .returned (.int .i64 0) ∧ JV w0 w' g lb 2 Sm.D1 [[97]] 0 pa pc :=
  (append_ok h ⟨#[97]⟩ (by decide) (by decide) Sm.f1).mono fun _ _ ⟨a, ⟨b, c, d⟩, _⟩ => ⟨b, c, a, d⟩
theorem sm_flush (h : JV w0 w g lb 2 Sm.D1 [[97]] 0 pa pc) : Calls Tryd.prog 15 #[.pointer (some ⟨lb, 0, none⟩)] w fun e w' => e = .returned (.int .i64 0) ∧ JV w0 w' g lb 2 Sm.D2 [[97]] 1 pa pc :=
  (flush_ok h (Nat.le_trans Sm.f2.2.2 (by decide)) Sm.f2.1).mono fun _ _ ⟨a, b, _⟩ => ⟨a, by rw [show ((2 : Nat) : Int) = 2 from rfl, Sm.f2.2.1] at b; exact b⟩
theorem sm_append2 (h : JV w0 w g lb 2 Sm.D2 [[97]] 1 pa pc) : Calls Tryd.prog 28 #[.pointer (some ⟨lb, 0, none⟩), .string ⟨#[98]⟩] w fun e w' => ∃ pa pc, e = .returned (.int .i64 0) ∧ JV w0 w' g lb 2 Sm.D3 [[97], [98]] 1 pa pc := by
  have hk : ((16 + (Jn.forms [[97]]).length : Nat) : Int) = 33 := by rw [Sm.f7.2.2.1]; rfl
  have h1 := append_ok h ⟨#[98]⟩ (by decide) (Nat.le_trans Sm.f3.2 (by decide)) (by rw [hk]; exact Sm.f3.1)
  rw [hk] at h1
  exact h1.mono fun _ _ ⟨a, ⟨b, c, d⟩, _⟩ => ⟨b, c, a, d⟩
theorem sm_crash1 (h : JV w0 w g lb 2 Sm.D3 [[97], [98]] 1 pa pc) : Calls Tryd.prog 21 #[.pointer (some ⟨g, 0, none⟩), .slice none 0 0] w fun e w' => (∃ v, e = .returned v) ∧ Mine w0 w' g (Dk.crash Sm.D3 []) := mine_crash_nil h.mine
theorem sm_start1 (h : Mine w0 w g (Dk.crash Sm.D3 [])) : Calls Tryd.prog 23 #[.pointer (some ⟨g, 0, none⟩)] w fun e w' => (∃ v, e = .returned v) ∧ Mine w0 w' g Sm.D4 := mine_start h
theorem sm_open2 (h : Mine w0 w g Sm.D4) (hE : EnvJ w0) : Calls Tryd.prog 13 #[.pointer (some ⟨g, 0, none⟩), .int .i64 2] w fun e w' => ∃ lb pa pc, e = .returned (.tuple #[.pointer (some ⟨lb, 0, none⟩), .int .i64 0]) ∧ JV w0 w' g lb 2 Sm.D4 [[97]] 1 pa pc :=
  (open_ok h hE 2 (by decide) Sm.f7.1 Sm.f4.1).mono fun _ _ ⟨a, b, c, d, _, e, _⟩ => ⟨a, b, c, d, e⟩
theorem sm_rewrite (h : JV w0 w g lb 2 Sm.D4 [[97]] 1 pa pc) : Calls Tryd.prog 19 #[.pointer (some ⟨lb, 0, none⟩), .slice (some ⟨w.heap.size, 0, none⟩) 2 2] (w.alloc (.cells #[.string ⟨#[98]⟩, .string ⟨#[99]⟩] 9)) fun e w' => e = .returned (.int .i64 0) ∧ Mine w0 w' g Sm.D5 :=
  (rewrite_ok (h.quiet (below_new w _)).1 (lv_lit w [[98], [99]]) rfl (fun h => by cases h) 3 rfl (by decide) (by rw [Sm.f7.2.2.2]; decide) (Nat.le_trans Sm.f4.2 (by decide)) Sm.f5.1).mono fun _ _ ⟨a, ⟨_, _, b⟩, _⟩ => ⟨a, b.mine⟩
theorem sm_crash2 (h : Mine w0 w g Sm.D5) : Calls Tryd.prog 21 #[.pointer (some ⟨g, 0, none⟩), .slice none 0 0] w fun e w' => (∃ v, e = .returned v) ∧ Mine w0 w' g (Dk.crash Sm.D5 []) := mine_crash_nil h
theorem sm_start2 (h : Mine w0 w g (Dk.crash Sm.D5 [])) : Calls Tryd.prog 23 #[.pointer (some ⟨g, 0, none⟩)] w fun e w' => (∃ v, e = .returned v) ∧ Mine w0 w' g Sm.D6 := mine_start h
theorem sm_open3 (h : Mine w0 w g Sm.D6) (hE : EnvJ w0) : Calls Tryd.prog 13 #[.pointer (some ⟨g, 0, none⟩), .int .i64 2] w fun e w' => ∃ lb pa pc, e = .returned (.tuple #[.pointer (some ⟨lb, 0, none⟩), .int .i64 0]) ∧ JV w0 w' g lb 2 Sm.D6 [[98], [99]] 2 pa pc :=
  (open_ok h hE 2 (by decide) Sm.f7.2.1 Sm.f6).mono fun _ _ ⟨a, b, c, d, _, e, _⟩ => ⟨a, b, c, d, e⟩
/-- All of a log, and a list written out: Same says yes. -/
theorem sm_all {f sure : Nat} {D : Dk.Disk} {R : List (List UInt8)} (h : JV w0 w g lb f D R sure pa pc) : Calls Tryd.prog 33 #[.pointer (some ⟨lb, 0, none⟩)] w fun e w' => ∃ xa xc b, e = .returned (.slice xa R.length xc) ∧ JV w0 w' g lb f D R sure pa pc ∧ Lv w' xa b 0 xc R :=
  (all_any h).mono fun _ _ ⟨xa, xc, a, ho, hb⟩ => by
    obtain ⟨b, hl, _, _⟩ := ho.lv
    exact ⟨xa, xc, b, a, (h.quiet hb).1, hl⟩
theorem sm_same1 {xa : Option Addr} {b xc : Nat} (hl : Lv w xa b 0 xc [[97]]) : Calls Tryd.prog 32 #[.slice xa 1 xc, .slice (some ⟨w.heap.size, 0, none⟩) 1 1] (w.alloc (.cells #[.string ⟨#[97]⟩] 9)) fun e w' => e = .returned (.bool true) ∧ Below w.heap.size w w' :=
  (same_any [[97]] [[97]] 1 1 rfl rfl (by decide) (by decide) xa (some ⟨w.heap.size, 0, none⟩) b 0 xc w.heap.size 0 1 _ (hl.below (below_new w _)) (lv_lit w [[97]])).mono fun _ _ ⟨a, h2⟩ => ⟨by rw [a]; simp [sameRows], below_to (below_new w _) (Nat.le_refl _) h2⟩
theorem sm_same2 {xa : Option Addr} {b xc : Nat} (hl : Lv w xa b 0 xc [[98], [99]]) : Calls Tryd.prog 32 #[.slice xa 2 xc, .slice (some ⟨w.heap.size, 0, none⟩) 2 2] (w.alloc (.cells #[.string ⟨#[98]⟩, .string ⟨#[99]⟩] 9)) fun e w' => e = .returned (.bool true) ∧ Below w.heap.size w w' :=
  (same_any [[98], [99]] [[98], [99]] 2 2 rfl rfl (by decide) (by decide) xa (some ⟨w.heap.size, 0, none⟩) b 0 xc w.heap.size 0 2 _ (hl.below (below_new w _)) (lv_lit w [[98], [99]])).mono fun _ _ ⟨a, h2⟩ => ⟨by rw [a]; simp [sameRows], below_to (below_new w _) (Nat.le_refl _) h2⟩
end
set_option maxHeartbeats 4000000 in
set_option maxRecDepth 100000 in
theorem small_any (w : World) (hE : EnvJ w) : Calls Tryd.prog 9 #[] w fun e w' => e = .returned (.bool true) ∧ Below w.heap.size w w' := by
  have HE := Lib.hid hE
  clear hE
  go_enter Tryd.func9, Tryd.ntmps9
  go_wp2_with (first
    | (go_at_call 32; with_reducible refine (sm_same2 HLV.out).mono ?_; rintro _ w9 ⟨rfl, hb⟩; have HZ := Lib.hid (HL8.out.quiet hb).1; clear hb)
    | (go_at_call 33; with_reducible refine (sm_all HO3.out).mono ?_; rintro _ w9 ⟨xa, xc, b9, rfl, hJ, hl⟩; have HL8 := Lib.hid hJ; have HLV := Lib.hid hl; clear hJ hl)
    | (go_at_call 13; with_reducible refine (sm_open3 HS2.out HE.out).mono ?_; rintro _ w9 ⟨l3, pa3, pc3, rfl, hJ⟩; have HO3 := Lib.hid hJ; clear hJ)
    | (go_at_call 23; with_reducible refine (sm_start2 HC2.out).mono ?_; rintro _ w9 ⟨⟨v9, rfl⟩, hm⟩; have HS2 := Lib.hid hm; clear hm)
    | (go_at_call 21; with_reducible refine (sm_crash2 HR.out).mono ?_; rintro _ w9 ⟨⟨v9, rfl⟩, hm⟩; have HC2 := Lib.hid hm; clear hm)
    | (go_at_call 19; with_reducible refine (sm_rewrite HL5.out).mono ?_; rintro _ w9 ⟨rfl, hm⟩; have HR := Lib.hid hm; clear hm)
    | (go_at_call 32; with_reducible refine (sm_same1 HLV.out).mono ?_; rintro _ w9 ⟨rfl, hb⟩; have HL5 := Lib.hid (HL4.out.quiet hb).1; clear hb)
    | (go_at_call 33; with_reducible refine (sm_all HO2.out).mono ?_; rintro _ w9 ⟨xa, xc, b9, rfl, hJ, hl⟩; have HL4 := Lib.hid hJ; have HLV := Lib.hid hl; clear hJ hl)
    | (go_at_call 13; with_reducible refine (sm_open2 HS1.out HE.out).mono ?_; rintro _ w9 ⟨l2, pa2, pc2, rfl, hJ⟩; have HO2 := Lib.hid hJ; clear hJ)
    | (go_at_call 23; with_reducible refine (sm_start1 HC1.out).mono ?_; rintro _ w9 ⟨⟨v9, rfl⟩, hm⟩; have HS1 := Lib.hid hm; clear hm)
    | (go_at_call 21; with_reducible refine (sm_crash1 HA2.out).mono ?_; rintro _ w9 ⟨⟨v9, rfl⟩, hm⟩; have HC1 := Lib.hid hm; clear hm)
    | (go_at_call 34; first | (with_reducible refine (sure_any HZ.out).mono ?_; rintro _ w9 ⟨rfl, rfl⟩) | (with_reducible refine (sure_any HA2.out).mono ?_; rintro _ w9 ⟨rfl, rfl⟩))
    | (go_at_call 28; with_reducible refine (sm_append2 HF.out).mono ?_; rintro _ w9 ⟨pa9, pc9, rfl, hJ⟩; have HA2 := Lib.hid hJ; clear hJ)
    | (go_at_call 15; with_reducible refine (sm_flush HA1.out).mono ?_; rintro _ w9 ⟨rfl, hJ⟩; have HF := Lib.hid hJ; clear hJ)
    | (go_at_call 28; with_reducible refine (sm_append1 HO1.out).mono ?_; rintro _ w9 ⟨pa8, pc8, rfl, hJ⟩; have HA1 := Lib.hid hJ; clear hJ)
    | (go_at_call 13; with_reducible refine (sm_open1 HM.out HE.out).mono ?_; rintro _ w9 ⟨l1, pa1, pc1, rfl, hJ⟩; have HO1 := Lib.hid hJ; clear hJ)
    | (go_at_call 11; with_reducible refine (mine_new _).mono ?_; rintro _ w9 ⟨rfl, hm⟩; have HM := Lib.hid hm; clear hm))
  go_ret
  exact ⟨rfl, HZ.out.mine.below⟩
end Go.Proofs.YtbpodclodflgfaaDoor
