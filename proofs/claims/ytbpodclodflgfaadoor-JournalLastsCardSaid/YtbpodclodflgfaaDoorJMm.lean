/-
  Lists are appended to the law's list of lists; found; what the disk and the log do beside it.
-/
import Derived.Test.YtbpodclodflgfaaDoorJMl
namespace Go.Proofs.YtbpodclodflgfaaDoor
open Go Go.RowKit
theorem infoL : (Tryd.prog.info? 36).map (fun i => (i.zero, i.size, i.bytes)) = some (some (.slice none 0 0), 1, 24) := by kernel_rfl
section
variable {w : World} {ops : Array Oper} {o : Oper} {a : Act} {Q : Exit → Act → World → Prop}
/-- A list, written out, is appended to the list of lists. -/
theorem wp_me_app {K : Act → World → Prop} (s x : Operand) (ho : o.op = .call { callee := .builtin .append, args := #[s, x], argTypes := #[54, 54] })
    {w2 : World} {g lb f sure : Nat} {D : Dk.Disk} {R : List (List UInt8)} {v : Value} {M H : List ME} {e : ME} (h : ML w2 w g lb f D R sure v M H) (he : e ∈ M ∨ e ∈ H) (hs : a.eval s = v) (hx : a.eval x = .slice (some ⟨w.heap.size, 0, none⟩) 1 1) (hM : M.length ≤ 1000000)
    (hk : ∀ qa qn qc w', Hid (ML w2 w' g lb f D R sure (.slice qa qn qc) (M ++ [e]) H) → Hid ((M ++ [e]).length = qn) → Hid (∀ (b : Nat) (L : List Value), Blk w b 39 L → Blk w' b 39 L) → K (a.put o.dst (.slice qa qn qc)) w') : o.wp Tryd.prog a (w.alloc (.cells #[mev e] 36)) K Q := by
  obtain ⟨i0, hi, hz0, hz1, hz2⟩ := info_parts infoL
  have h1 := h.quiet (below_new w (.cells #[mev e] 36))
  obtain ⟨v', w', hr, h2, h3, h4⟩ := app_same (w.alloc (.cells #[mev e] 36)) o.type i0 (.slice none 0 0) 24 (ts := 54) Tryd.underlying54 hi hz0 hz1 hz2 rfl (by omega) h1.own ⟨w.heap.size, 0, none⟩ 1 1 [mev e] (by simp) (fun j u hj => by
    have hj0 : j = 0 := by have := (List.getElem?_eq_some_iff.1 hj).1; simpa using this
    subst hj0
    rw [add_plain0]
    have := (Blk.made w #[mev e] 36).cell (j := 0) (v := mev e) rfl
    rw [this]
    exact hj) (fun u hu => by obtain rfl : u = mev e := by simpa using hu
                              rfl) (by unfold maxLen; omega) (by omega) h1.below.size
  have e1 : (M ++ [e]).length = M.length + 1 := by rw [List.length_append]; rfl
  have e2 : (M ++ [e]).map mev = M.map mev ++ [mev e] := by simp
  rw [← e1, ← e2] at h2
  have hML := h1.grow he h3 h2 h4
  have hblk : ∀ (b : Nat) (L : List Value), Blk w b 39 L → Blk w' b 39 L := fun b L hb => by
    have hb1 : Blk (w.alloc (.cells #[mev e] 36)) b 39 L := ((below_new w (.cells #[mev e] 36)).block b hb.lt).trans hb
    exact (h3.block b hb1.lt (fun q => own_block h1.own hb1 (by decide) q.symm)).trans hb1
  obtain ⟨_, ⟨rfl, h0⟩ | ⟨b9, c9, cu9, rfl, _⟩⟩ := h2
  · rw [e1] at h0
    omega
  · unfold Oper.wp execOp
    simp only [ho, resolve, invoke, builtin, Sem.run_bind, Sem.run_pure, Result.andThen_ok, List.map_toArray, List.map_cons, List.map_nil, hs, hx, hr]
    exact hk _ _ _ w' (Lib.hid hML) (Lib.hid rfl) (Lib.hid hblk)
theorem wpList_me_app {rest : List Oper} (hgd : o.guard = none) (s x : Operand) (ho : o.op = .call { callee := .builtin .append, args := #[s, x], argTypes := #[54, 54] })
    {w2 : World} {g lb f sure : Nat} {D : Dk.Disk} {R : List (List UInt8)} {v : Value} {M H : List ME} {e : ME} (h : ML w2 w g lb f D R sure v M H) (he : e ∈ M ∨ e ∈ H) (hs : a.eval s = v) (hx : a.eval x = .slice (some ⟨w.heap.size, 0, none⟩) 1 1) (hM : M.length ≤ 1000000)
    (hk : ∀ qa qn qc w', Hid (ML w2 w' g lb f D R sure (.slice qa qn qc) (M ++ [e]) H) → Hid ((M ++ [e]).length = qn) → Hid (∀ (b : Nat) (L : List Value), Blk w b 39 L → Blk w' b 39 L) → wpList Tryd.prog ops Q rest (a.put o.dst (.slice qa qn qc)) w') : wpList Tryd.prog ops Q (o :: rest) a (w.alloc (.cells #[mev e] 36)) :=
  wpList_plain hgd fun _ hK => wp_me_app s x ho h he hs hx hM fun qa qn qc w' h1 h2 h3 => hK _ _ (hk qa qn qc w' h1 h2 h3)
theorem step_me_app {K : Act → World → Prop} {E : Prop} (hgd : o.guard = none) (s x : Operand) (ho : o.op = .call { callee := .builtin .append, args := #[s, x], argTypes := #[54, 54] })
    {w2 : World} {g lb f sure : Nat} {D : Dk.Disk} {R : List (List UInt8)} {v : Value} {M H : List ME} {e : ME} (h : ML w2 w g lb f D R sure v M H) (he : e ∈ M ∨ e ∈ H) (hs : a.eval s = v) (hx : a.eval x = .slice (some ⟨w.heap.size, 0, none⟩) 1 1) (hM : M.length ≤ 1000000)
    (hk : ∀ qa qn qc w', Hid (ML w2 w' g lb f D R sure (.slice qa qn qc) (M ++ [e]) H) → Hid ((M ++ [e]).length = qn) → Hid (∀ (b : Nat) (L : List Value), Blk w b 39 L → Blk w' b 39 L) → K (a.put o.dst (.slice qa qn qc)) w') : if Region.wanted o (yielded ops a.tmps) = true then Oper.wp Tryd.prog o a (w.alloc (.cells #[mev e] 36)) K Q else E := by
  have hw : Region.wanted o (yielded ops a.tmps) = true := by simp [Region.wanted, hgd]
  rw [if_pos hw]
  exact wp_me_app s x ho h he hs hx hM hk
/-- A list that reads is appended to a row of new memory. -/
theorem wp_app_lv {K : Act → World → Prop} (s x : Operand) (ho : o.op = .call { callee := .builtin .append, args := #[s, x], argTypes := #[36, 36] })
    {wb : World} {v : Value} {L : List (List UInt8)} (hs : a.eval s = v) (hown : SOwn w wb.heap.size v L) (hb : Below wb.heap.size wb w) {xa : Option Addr} {b off n c : Nat} {X : List (List UInt8)} (hx : a.eval x = .slice xa n c) (hL : Lv w xa b off c X) (hl : X.length = n) (hnil : xa = none → c = 0)
    (hbig : L.length + n ≤ 1000000000)
    (h : ∀ pa pn pc w', Hid (SOwn w' wb.heap.size (.slice pa pn pc) (L ++ X)) → Hid (Below wb.heap.size wb w') → K (a.put o.dst (.slice pa pn pc)) w') : o.wp Tryd.prog a w K Q := by
  cases xa with
  | none =>
    have hX0 : X = [] := by
      cases X with
      | nil => rfl
      | cons r X => have := hL.at_ (by simp); cases this
    subst hX0
    obtain rfl : n = 0 := hl.symm
    obtain rfl : c = 0 := hnil rfl
    obtain ⟨i0, hi, hz0, hz1, hz2⟩ := info_parts infoS
    have hrun := run_append_owned_none (P := Tryd.prog) (w := w) wb.heap.size 36 o.type 9 i0 1 Tryd.underlying36 hi v L.length (sv L) hown
    obtain ⟨xa, b, cap, rfl, _⟩ := hown.row
    unfold Oper.wp
    simp [execOp, ho, resolve, invoke, builtin, hs, hx, hrun, Result.andThen]
    exact h xa _ cap w (Lib.hid (by rw [List.append_nil]; exact hown)) (Lib.hid hb)
  | some ad =>
    refine wp_append_strs s x ho wb.heap.size v L hs hown ad n c X hx hl (fun j u hj => ?_) hbig hb.size fun v' w' h1 h2 => ?_
    · have hl2 : j < X.length := by have := (List.getElem?_eq_some_iff.1 hj).1; rw [sv_length] at this; exact this
      obtain rfl := Option.some.inj (hL.at_ (by omega))
      exact hL.news j u hj
    · obtain ⟨ya, yb, yc, rfl, _⟩ := h1.row
      exact h ya _ yc w' (Lib.hid h1) (Lib.hid (below_grown hb (Nat.le_refl _) h2 (own_from hown)))
theorem step_app_lv {K : Act → World → Prop} {E : Prop} (hgd : o.guard = none) (s x : Operand) (ho : o.op = .call { callee := .builtin .append, args := #[s, x], argTypes := #[36, 36] })
    {wb : World} {v : Value} {L : List (List UInt8)} (hs : a.eval s = v) (hown : SOwn w wb.heap.size v L) (hb : Below wb.heap.size wb w) {xa : Option Addr} {b off n c : Nat} {X : List (List UInt8)} (hx : a.eval x = .slice xa n c) (hL : Lv w xa b off c X) (hl : X.length = n) (hnil : xa = none → c = 0)
    (hbig : L.length + n ≤ 1000000000)
    (h : ∀ pa pn pc w', Hid (SOwn w' wb.heap.size (.slice pa pn pc) (L ++ X)) → Hid (Below wb.heap.size wb w') → K (a.put o.dst (.slice pa pn pc)) w') : if Region.wanted o (yielded ops a.tmps) = true then Oper.wp Tryd.prog o a w K Q else E := by
  have hw : Region.wanted o (yielded ops a.tmps) = true := by simp [Region.wanted, hgd]
  rw [if_pos hw]
  exact wp_app_lv s x ho hs hown hb hx hL hl hnil hbig h
end
/-- A list of lists that reads. -/
structure LL (w : World) (xa : Option Addr) (b off : Nat) (M : List ME) : Prop where
  at_ : 0 < M.length → xa = some ⟨b, off, none⟩
  cell : ∀ j e, M[j]? = some e → w.cell? ⟨b, off + j, none⟩ = some (mev e) ∧ Lv w e.xa e.b e.off e.c e.X ∧ e.X.length = e.n
  lt : 0 < M.length → b < w.heap.size
theorem LL.below {w w' : World} {xa : Option Addr} {b off : Nat} {M : List ME} (h : LL w xa b off M) (hb : Below w.heap.size w w') : LL w' xa b off M :=
  ⟨h.at_, fun j e he => by
    obtain ⟨h1, h2, h3⟩ := h.cell j e he
    exact ⟨(hb.cell (p := ⟨b, off + j, none⟩) (h.lt (by have := (List.getElem?_eq_some_iff.1 he).1; omega))).trans h1, h2.below hb, h3⟩, fun hp => Nat.lt_of_lt_of_le (h.lt hp) hb.size⟩
set_option maxHeartbeats 1000000 in
set_option maxRecDepth 100000 in
theorem found_any (X : List (List UInt8)) (n : Nat) (hn : X.length = n) (hN : n ≤ 1000000) (xa : Option Addr) (b off cap : Nat) (M : List ME) (m : Nat) (hm : M.length = m) (hmN : m ≤ 1000000) (ya : Option Addr) (b' off' cap' : Nat) (w : World) (hX : Lv w xa b off cap X) (hM : LL w ya b' off' M) (hlen : ∀ e ∈ M, e.X.length ≤ 1000000) (hin : ∃ e ∈ M, e.X = X) :
    Calls Tryd.prog 36 #[.slice xa n cap, .slice ya m cap'] w fun e w' => e = .returned (.bool true) ∧ Below w.heap.size w w' := by
  have HX := Lib.hid hX
  have HM := Lib.hid hM
  have HN := Lib.hid hn
  have HMM := Lib.hid hm
  have HLEN := Lib.hid hlen
  have HIN := Lib.hid hin
  clear hX hM hn hm hlen hin
  go_enter Tryd.func36, Tryd.ntmps36
  go_wp2
  go_loopw [5, 6] (fun x3 _ wr => ∃ k : Nat, x3 = .int .i64 k ∧ k ≤ m ∧ Hid (∃ e ∈ M.drop k, e.X = X) ∧ Hid (Below w.heap.size w wr)) (fun x3 _ _ => m - (intOf x3).toNat)
  case atStart => exact ⟨0, rfl, Nat.zero_le _, by rw [List.drop_zero]; exact HIN.out, Below.refl _ _⟩
  case round =>
    obtain ⟨k, rfl, hk, hD, hB⟩ := hrel
    have hlt : k < m := by
      obtain ⟨e, he, _⟩ := hD.out
      have := List.length_pos_of_mem he
      rw [List.length_drop, HMM.out] at this
      omega
    obtain ⟨e, he⟩ : ∃ e, M[k]? = some e := ⟨_, List.getElem?_eq_getElem (by rw [HMM.out]; exact hlt)⟩
    obtain rfl := HM.out.at_ (by rw [HMM.out]; omega)
    obtain ⟨c1, hLe, hne⟩ := (HM.out.below hB.out).cell k e he
    have c2 : wr.cell? ⟨b', off' + k, none⟩ = some (.slice e.xa e.n e.c) := c1
    have HE := Lib.hid he
    have HEL := Lib.hid (HLEN.out e (List.mem_of_getElem? he))
    have CS := Lib.hid (same_any X e.X n e.n HN.out hne hN (by rw [← hne]; exact HEL.out) xa e.xa b off cap e.b e.off e.c wr (HX.out.below hB.out) hLe)
    clear he hLe hne c1
    by_cases hs : X = e.X
    · rw [show sameRows X e.X = true from by unfold sameRows; simpa using hs] at CS
      clear hs
      go_wp2_with (go_at_call 32; with_reducible refine CS.out.mono ?_; rintro _ w3 ⟨rfl, hb3⟩; have HB3 := Lib.hid hb3; clear hb3)
      go_ret
      exact ⟨rfl, below_to hB.out (Nat.le_refl _) HB3.out⟩
    · rw [show sameRows X e.X = false from by unfold sameRows; simpa using hs] at CS
      have HD2 := Lib.hid (show ∃ e ∈ M.drop (k + 1), e.X = X from by
        obtain ⟨x, hx, hxx⟩ := hD.out
        rw [List.drop_eq_getElem_cons (by rw [HMM.out]; exact hlt)] at hx
        rcases List.mem_cons.1 hx with rfl | hx
        · have e2 := HE.out
          rw [List.getElem?_eq_getElem (by rw [HMM.out]; exact hlt)] at e2
          obtain rfl := Option.some.inj e2
          exact absurd hxx.symm hs
        · exact ⟨x, hx, hxx⟩)
      clear hs
      go_wp2_with (go_at_call 32; with_reducible refine CS.out.mono ?_; rintro _ w3 ⟨rfl, hb3⟩; have HB3 := Lib.hid hb3; clear hb3)
      go_roundw
      case rel => exact ⟨k + 1, by go_num, by omega, HD2.out, below_to hB.out (Nat.le_refl _) HB3.out⟩
      case measure => simp [intOf]; omega
section
variable {w0 w : World} {g : Nat} {D : Dk.Disk} {L : List (List UInt8)} {k : Nat}
set_option maxHeartbeats 2000000 in
set_option maxRecDepth 100000 in
theorem open_fresh (h : Mine w0 w g D) (hE : EnvJ w0) (f : Nat) (hf : f ≤ 6) (hd : D.down = false) (hp : Jn.parse (Dk.read D f) = some (L, k)) :
    Calls Tryd.prog 13 #[.pointer (some ⟨g, 0, none⟩), .int .i64 (f : Int)] w fun e w' => ∃ lb pa pc, e = .returned (.tuple #[.pointer (some ⟨lb, 0, none⟩), .int .i64 0]) ∧ w.heap.size ≤ lb ∧ JV w0 w' g lb f D L L.length pa pc ∧ Below w.heap.size w w' ∧ SOwn w' w.heap.size (.slice pa L.length pc) L := by
  have hrd := Dk.read_up' hd f (by omega)
  have hlen : (Dk.read D f).length ≤ 16777216 := by
    obtain ⟨vs, q, kk, hv⟩ := h.at_
    exact hv.good.read f (by omega)
  obtain ⟨hk, hfl⟩ := Jn.parse_end_is hp
  have CR := Lib.hid (read_any g D (f : Int) w h.at_)
  rw [hrd] at CR
  obtain ⟨S, hS⟩ : ∃ S, enc (Dk.read D f) = S := ⟨_, rfl⟩
  have hSl : S.data.toList = Dk.read D f := by rw [← hS]; rfl
  have hSs : S.size ≤ 100000000 := by rw [Lib.size_eq, hSl]; omega
  rw [← hSl] at hp
  have CP := Lib.hid (fun (w1 : World) (hb : Below w.heap.size w w1) => parse_ok S hSs w1 ((hE.below h.below).below hb) hp)
  have CR2 : RowKit.Hid (Calls Tryd.prog 30 #[.pointer (some ⟨g, 0, none⟩), .int .i64 (f : Int)] w fun e w' => e = .returned (.tuple #[.string S, .int .i64 0]) ∧ Below w.heap.size w w') := by
    rw [← hS]; exact CR
  have HM := Lib.hid h
  have HE := Lib.hid hE
  have HP := Lib.hid hp
  have HK := Lib.hid hk
  have HB := Lib.hid (Nat.le_trans hfl hlen)
  have f1 : ¬ ((f : Int) < 0) := by omega
  have f2 : ¬ (6 < (f : Int)) := by omega
  have f3 : decide (6 < f) = false := by simp; omega
  have f4 : decide ((6 : Int) < (f : Int)) = false := by simp; omega
  clear h hE hrd hlen hk hfl CR hS hSl hp
  go_enter Tryd.func13, Tryd.ntmps13
  go_wp2_with (first | (go_at_call 30; with_reducible refine CR2.out.mono ?_; rintro _ w1 ⟨rfl, hb1⟩; have HB1 := Lib.hid hb1; clear hb1) | (go_at_call 39; with_reducible refine (CP.out _ HB1.out).mono ?_; rintro _ w2 ⟨pa, pc, rfl, ho, hb2⟩; have HO := Lib.hid (ho.base HB1.out.size); have HB2 := Lib.hid (below_to HB1.out (Nat.le_refl _) hb2); clear ho hb2))
  go_ret2
  have hJ := JV.opened HM.out HE.out HB2.out HO.out HB.out f
  rw [← HK.out] at hJ
  exact ⟨w2.heap.size, pa, pc, rfl, HB2.out.size, hJ, below_to HB2.out (Nat.le_refl _) (below_new w2 _), HO.out.alloc _⟩
end
section
variable {w2 w w' : World} {g lb f sure : Nat} {D : Dk.Disk} {R : List (List UInt8)} {v : Value} {M H : List ME} {m n : Int}
theorem ML.mm (h : ML w2 w g lb f D R sure v M H) : MM w2 w w g D := by
  obtain ⟨pa, pc, hj⟩ := h.jv
  exact hj.mm
theorem ML.mv {D' : Dk.Disk} (h : ML w2 w g lb f D R sure v M H) (m : MM w2 w w' g D') : ML w2 w' g lb f D' R sure v M H := by
  obtain ⟨pa, pc, hj⟩ := h.jv
  obtain ⟨h1, h2⟩ := hj.mv m
  exact h.call ⟨pa, pc, h1⟩ h2
theorem ml_arm (h : ML w2 w g lb f D R sure v M H) (hm : m ≤ 9223372036854775807) {ka : Option Addr} {kb ko kn kc : Nat} {ks : List Int} (hk : KL w2 ka kb ko kn kc ks) (hl : kn ≤ 100000000) : Calls Tryd.prog 35 #[.pointer (some ⟨g, 0, none⟩), .int .i64 m, .slice ka kn kc] w fun e w' => (∃ v, e = .returned v) ∧ ML w2 w' g lb f (Dk.arm D m ks) R sure v M H :=
  (mm_arm_arg h.mm m hm ka kb ko kn kc ks hk.ir hk.len hk.nil hl).mono fun _ _ ⟨x, y⟩ => ⟨x, h.mv y⟩
theorem ml_arm_nil (h : ML w2 w g lb f D R sure v M H) (hm : m ≤ 9223372036854775807) : Calls Tryd.prog 35 #[.pointer (some ⟨g, 0, none⟩), .int .i64 m, .slice none 0 0] w fun e w' => (∃ v, e = .returned v) ∧ ML w2 w' g lb f (Dk.arm D m []) R sure v M H :=
  (mm_arm_nil h.mm m hm).mono fun _ _ ⟨x, y⟩ => ⟨x, h.mv y⟩
theorem ml_crash (h : ML w2 w g lb f D R sure v M H) {ka : Option Addr} {kb ko kn kc : Nat} {ks : List Int} (hk : KL w2 ka kb ko kn kc ks) : Calls Tryd.prog 21 #[.pointer (some ⟨g, 0, none⟩), .slice ka kn kc] w fun e w' => (∃ v, e = .returned v) ∧ ML w2 w' g lb f (Dk.crash D ks) R sure v M H :=
  (mm_crash_arg h.mm ka kb ko kn kc ks hk.ir hk.len).mono fun _ _ ⟨x, y⟩ => ⟨x, h.mv y⟩
theorem ml_lose (h : ML w2 w g lb f D R sure v M H) (hn : n ≤ 9223372036854775807) : Calls Tryd.prog 25 #[.pointer (some ⟨g, 0, none⟩), .int .i64 n] w fun e w' => (∃ v, e = .returned v) ∧ ML w2 w' g lb f (Dk.lose D n) R sure v M H :=
  (mm_lose h.mm n hn).mono fun _ _ ⟨x, y⟩ => ⟨x, h.mv y⟩
theorem ml_start (h : ML w2 w g lb f D R sure v M H) : Calls Tryd.prog 23 #[.pointer (some ⟨g, 0, none⟩)] w fun e w' => (∃ v, e = .returned v) ∧ ML w2 w' g lb f (Dk.start D) R sure v M H :=
  (mm_start h.mm).mono fun _ _ ⟨x, y⟩ => ⟨x, h.mv y⟩
theorem ml_flush (h : ML w2 w g lb f D R sure v M H) (hq : D.queue.length ≤ 100000) {c : Int} {D' : Dk.Disk} {s' : Nat} (hc : Dk.ec (Jn.flushL D f R sure).e = c) (hd : (Jn.flushL D f R sure).d = D') (hs : (Jn.flushL D f R sure).s = s') : Calls Tryd.prog 15 #[.pointer (some ⟨lb, 0, none⟩)] w fun e w' => e = .returned (.int .i64 c) ∧ ML w2 w' g lb f D' R s' v M H := by
  subst hc hd hs
  obtain ⟨pa, pc, h0⟩ := h.jv
  exact (flush_log h0 (by omega)).mono fun e w' ⟨x, y, z⟩ => ⟨x, h.call ⟨pa, pc, y⟩ z⟩
theorem ml_batch (h : ML w2 w g lb f D R sure v M H) {xa : Option Addr} {b off n cap : Nat} {X : List (List UInt8)} (hL : Lv w2 xa b off cap X) (hn : X.length = n) (hX : (Jn.forms X).length ≤ 300000) (hq : D.queue.length ≤ 100000) {c : Int} {D' : Dk.Disk} {R' : List (List UInt8)} {s' : Nat} (hc : Dk.ec (Jn.batchL D f R sure X).e = c) (hd : (Jn.batchL D f R sure X).d = D') (hr : (Jn.batchL D f R sure X).r = R') (hs : (Jn.batchL D f R sure X).s = s') :
    Calls Tryd.prog 17 #[.pointer (some ⟨lb, 0, none⟩), .slice xa n cap] w fun e w' => e = .returned (.int .i64 c) ∧ ML w2 w' g lb f D' R' s' v M H := by
  subst hc hd hr hs
  obtain ⟨pa, pc, h0⟩ := h.jv
  exact (batch_any h0 (hL.below h.below) (fun hp hf => by
    have h1 := hL.lt hp
    rcases hf with hf | hf | ⟨u, hc, hv⟩
    · have := h0.mine.foot b hf; omega
    · have := h0.ge; omega
    · rw [h0.cells.2.2.1] at hc
      injection hc with hc
      subst hc
      have := own_from h0.row b hv
      omega) hn hX hq).mono fun e w' ⟨x, y, z⟩ => ⟨x, h.call y z⟩
theorem ml_rewrite (h : ML w2 w g lb f D R sure v M H) {xa : Option Addr} {b off n cap : Nat} {X : List (List UInt8)} (hL : Lv w2 xa b off cap X) (hn : X.length = n) (hnil : xa = none → cap = 0) (hf : f ≤ 6) (hX : (Jn.forms X).length ≤ 300000) (hq : D.queue.length ≤ 100000) {c : Int} {D' : Dk.Disk} {R' : List (List UInt8)} {s' : Nat} (hc : Dk.ec (Jn.rewriteL D f ((f + 1 : Nat) : Int) R sure X).e = c) (hd : (Jn.rewriteL D f ((f + 1 : Nat) : Int) R sure X).d = D') (hr : (Jn.rewriteL D f ((f + 1 : Nat) : Int) R sure X).r = R') (hs : (Jn.rewriteL D f ((f + 1 : Nat) : Int) R sure X).s = s') :
    Calls Tryd.prog 19 #[.pointer (some ⟨lb, 0, none⟩), .slice xa n cap] w fun e w' => e = .returned (.int .i64 c) ∧ ML w2 w' g lb f D' R' s' v M H := by
  subst hc hd hr hs
  obtain ⟨pa, pc, h0⟩ := h.jv
  exact (rewrite_any h0 (hL.below h.below) hn hnil ((f + 1 : Nat) : Int) rfl hf hX hq).mono fun e w' ⟨x, y, z⟩ => ⟨x, h.call y z⟩
theorem ml_append (h : ML w2 w g lb f D R sure v M H) (r : ByteArray) (hr : r.size ≤ 300000) (hq : D.queue.length ≤ 100000) {c : Int} {D' : Dk.Disk} {R' : List (List UInt8)} (hc : Dk.ec (Dk.write D f ((16 + (Jn.forms R).length : Nat) : Int) (Jn.forms [r.data.toList])).1 = c) (hd : (Dk.write D f ((16 + (Jn.forms R).length : Nat) : Int) (Jn.forms [r.data.toList])).2 = D') (hR : Jn.addRows (Dk.write D f ((16 + (Jn.forms R).length : Nat) : Int) (Jn.forms [r.data.toList])).1 R [r.data.toList] = R') :
    Calls Tryd.prog 28 #[.pointer (some ⟨lb, 0, none⟩), .string r] w fun e w' => e = .returned (.int .i64 c) ∧ ML w2 w' g lb f D' R' sure v M H := by
  subst hc hd hR
  obtain ⟨pa, pc, h0⟩ := h.jv
  have h1 := append_any h0 r.data.toList (by rw [← Lib.size_eq]; omega) (by omega)
  rw [show enc r.data.toList = r from ba_ext rfl] at h1
  exact h1.mono fun e w' ⟨x, y, z⟩ => ⟨x, h.call y z⟩
theorem ml_all (h : ML w2 w g lb f D R sure v M H) : Calls Tryd.prog 33 #[.pointer (some ⟨lb, 0, none⟩)] w fun e w' => ∃ xa xb xn xc, e = .returned (.slice xa xn xc) ∧ R.length = xn ∧ ML w2 w' g lb f D R sure v M (⟨xa, xb, 0, xn, xc, R⟩ :: H) := by
  obtain ⟨pa, pc, h0⟩ := h.jv
  exact (all_any h0).mono fun e w' ⟨xa, xc, x, y, z⟩ => by
    obtain ⟨b, h1, h2⟩ := h.fresh z y
    exact ⟨xa, b, R.length, xc, x, h1, h2⟩
theorem ml_sure (h : ML w2 w g lb f D R sure v M H) {s : Nat} (hs : sure = s) : Calls Tryd.prog 34 #[.pointer (some ⟨lb, 0, none⟩)] w fun e w' => e = .returned (.int .i64 (s : Int)) ∧ w = w' := by
  subst hs
  obtain ⟨pa, pc, h0⟩ := h.jv
  exact sure_any h0
/-- The log is opened again. -/
theorem ml_open (h : ML w2 w g lb f D R sure v M H) (hE : EnvJ w2) (fi : Int) (hfi : (f : Int) = fi) (hf : f ≤ 6) (hd : D.down = false) {L : List (List UInt8)} {k : Nat} (hp : Jn.parse (Dk.read D f) = some (L, k)) :
    Calls Tryd.prog 13 #[.pointer (some ⟨g, 0, none⟩), .int .i64 fi] w fun e w' => ∃ lb', e = .returned (.tuple #[.pointer (some ⟨lb', 0, none⟩), .int .i64 0]) ∧ ML w2 w' g lb' f D L L.length v M H := by
  subst hfi
  obtain ⟨pa, pc, h0⟩ := h.jv
  refine (open_fresh h0.mine hE f hf hd hp).mono fun e w' ⟨lb', pa', pc', he, hge, hj, hb, hrow⟩ => ⟨lb', he, ?_⟩
  have hq := h.quiet hb
  have hfoot : ∀ b, b < w.heap.size → ¬ JFoot w g lb b → ¬ JFoot w' g lb' b := fun b hlt hn hf => by
    rcases hf with hf | hf | ⟨u, hc, hv⟩
    · exact hn (.inl (foot_same (hb.block g h0.g_lt) hf))
    · omega
    · rw [hj.cells.2.2.1] at hc
      injection hc with hc
      subst hc
      have := own_from hrow b hv
      omega
  refine ⟨⟨pa', pc', hj⟩, hq.own, fun b hv => hfoot b (World.ownsRow.lt h.own b hv).2 (h.ap b hv), fun x hx => ?_⟩
  have hs := hq.held x hx
  have hs0 := h.held x hx
  exact ⟨hs.lv, hs.len, hs.nil, fun hp => ⟨hfoot _ (hs0.lv.lt hp) (hs0.ap hp).1, (hs.ap hp).2⟩⟩
/-- found, of a list that is held. -/
theorem ml_found {ya : Option Addr} {yn yc : Nat} (h : ML w2 w g lb f D R sure (.slice ya yn yc) M H) {xa : Option Addr} {b off n cap : Nat} {X : List (List UInt8)} (hx : (⟨xa, b, off, n, cap, X⟩ : ME) ∈ H) (hn : n ≤ 1000000) (hm : M.length ≤ 1000000) (hlen : ∀ e ∈ M, e.X.length ≤ 1000000) (hin : ∃ e ∈ M, e.X = X) :
    Calls Tryd.prog 36 #[.slice xa n cap, .slice ya yn yc] w fun e w' => e = .returned (.bool true) ∧ ML w2 w' g lb f D R sure (.slice ya yn yc) M H := by
  have hs := h.held _ (.inr hx)
  have hL : ∃ bb, LL w ya bb 0 M ∧ M.length = yn := by
    have hheld := fun e he => h.held e (.inl he)
    obtain ⟨_, ⟨e1, e2⟩ | ⟨bb, cap2, cur, e1, e2, e3⟩⟩ := h.own
    · injection e1 with e1 e4 e5
      have hM0 : M = [] := List.eq_nil_of_length_eq_zero e2
      subst hM0
      exact ⟨0, ⟨fun hp => absurd hp (Nat.lt_irrefl _), fun j e he => by simp at he, fun hp => absurd hp (Nat.lt_irrefl _)⟩, e4.symm⟩
    · injection e1 with e1 e4 e5
      subst e1 e4 e5
      have hlt := (World.ownsRow.lt h.own bb rfl).2
      refine ⟨bb, ⟨fun _ => rfl, fun j e he => ⟨?_, (hheld e (List.mem_of_getElem? he)).lv, (hheld e (List.mem_of_getElem? he)).len⟩, fun _ => hlt⟩, rfl⟩
      have := World.ownsRow.cells (g := bb) h.own rfl j (mev e) (by rw [List.getElem?_map, he]; rfl)
      rw [add_plain0] at this
      rw [Nat.zero_add]
      exact this
  obtain ⟨bb, hLL, hMl⟩ := hL
  exact (found_any X n hs.len hn xa b off cap M yn hMl (by omega) ya bb 0 yc w hs.lv hLL hlen hin).mono fun e w' ⟨x, y⟩ => ⟨x, h.quiet y⟩
end
end Go.Proofs.YtbpodclodflgfaaDoor
