/-
  JournalLasts: the law returns true.
-/
import Derived.Test.YtbpodclodflgfaaDoorJMm
import Derived.Deep.CutBlock
import Derived.StillTailTactics
namespace Go.Proofs.YtbpodclodflgfaaDoor
open Go Go.RowKit
/-- What holds between two rounds: k deeds are done. -/
structure LQ (D : Dk.Disk) (R : List (List UInt8)) (s : Nat) (M : List ME) (k : Nat) : Prop where
  li : Jn.LI D 3 R s
  q : D.queue.length ≤ 3000 * k
  fl : (Jn.forms R).length ≤ 1400 * k
  has : ∃ e ∈ M, e.X = R.take s
  ml : M.length ≤ k + 1
  mf : ∀ e ∈ M, (Jn.forms e.X).length ≤ 1400 * k
section
variable {D D' : Dk.Disk} {R R' : List (List UInt8)} {s s' : Nat} {M M' : List ME} {k : Nat}
theorem LQ.each (h : LQ D R s M k) (hk : k ≤ 30) : ∀ e ∈ M, e.X.length ≤ 1000000 := fun e he => by
  have := h.mf e he
  have := Jn.forms_count e.X
  omega
theorem LQ.armed (h : LQ D R s M k) (m : Int) (ks : List Int) : LQ (Dk.arm D m ks) R s M k := ⟨⟨⟨h.li.qi.down, h.li.qi.com, h.li.qi.beh⟩, h.li.le, h.li.fm⟩, h.q, h.fl, h.has, h.ml, h.mf⟩
theorem LQ.lose (h : LQ D R s M k) (n : Int) : LQ (Dk.lose D n) R s M (k + 1) := ⟨⟨⟨h.li.qi.down, h.li.qi.com, h.li.qi.beh⟩, h.li.le, h.li.fm⟩, by have := h.q; show D.queue.length ≤ _; omega, by have := h.fl; omega, h.has, by have := h.ml; omega, fun e he => by have := h.mf e he; omega⟩
theorem lq_new (e : ME) (he : e.X = []) : LQ Dk.new [] 0 [e] 0 := by
  refine ⟨Jn.li_new 3, Nat.le_refl _, Nat.le_refl _, ⟨e, by simp, by rw [he]; rfl⟩, Nat.le_refl _, fun x hx => ?_⟩
  obtain rfl : x = e := by simpa using hx
  rw [he]
  exact Nat.le_refl _
/-- A call that succeeded: its rows alone may be found now. -/
theorem LQ.done (h : LQ D R s M k) {j : Nat} (hk : Jn.Kp D D' j) (hj : j ≤ 3000) (hl : Jn.LI D' 3 R' s') (hs : s' = R'.length) (hf : (Jn.forms R').length ≤ 1400 * (k + 1)) (e : ME) (he : e.X = R') : LQ D' R' s' [e] (k + 1) :=
  ⟨hl, by have := hk.queue; have := h.q; omega, hf, ⟨e, by simp, by rw [he, hs, List.take_length]⟩, by simp, fun x hx => by
    obtain rfl : x = e := by simpa using hx
    rw [he]; exact hf⟩
/-- A call that lost a flush: what was sure may be found, as well. -/
theorem LQ.also (h : LQ D R s M k) {j : Nat} (hk : Jn.Kp D D' j) (hj : j ≤ 3000) (hl : Jn.LI D' 3 R' s) (hs : R'.take s = R.take s) (hf : (Jn.forms R').length ≤ 1400 * (k + 1)) (e : ME) (he : (Jn.forms e.X).length ≤ 1400 * (k + 1)) : LQ D' R' s (M ++ [e]) (k + 1) :=
  ⟨hl, by have := hk.queue; have := h.q; omega, hf, by
    obtain ⟨x, hx, hxx⟩ := h.has
    exact ⟨x, List.mem_append_left _ hx, hxx.trans hs.symm⟩, by rw [List.length_append]; have := h.ml; show M.length + 1 ≤ _; omega, fun x hx => by
    rcases List.mem_append.1 hx with hx | hx
    · have := h.mf x hx; omega
    · obtain rfl : x = e := by simpa using hx
      exact he⟩
/-- A call that added rows. -/
theorem LQ.more (h : LQ D R s M k) {j : Nat} (hk : Jn.Kp D D' j) (hj : j ≤ 3000) (hl : Jn.LI D' 3 R' s) (hs : R'.take s = R.take s) (hf : (Jn.forms R').length ≤ 1400 * (k + 1)) : LQ D' R' s M (k + 1) :=
  ⟨hl, by have := hk.queue; have := h.q; omega, hf, by
    obtain ⟨x, hx, hxx⟩ := h.has
    exact ⟨x, hx, hxx.trans hs.symm⟩, by have := h.ml; omega, fun x hx => by have := h.mf x hx; omega⟩
/-- Behind a crash, once the machine runs again, with the lists M' that may be found. -/
structure Again (D' : Dk.Disk) (O : List (List UInt8)) (M' : List ME) (k : Nat) : Prop where
  down : (Dk.start (Dk.lose (Dk.arm D' 0 []) 0)).down = false
  parse : ∃ j, Jn.parse (Dk.read (Dk.start (Dk.lose (Dk.arm D' 0 []) 0)) 3) = some (O, j)
  has : ∃ e ∈ M', e.X = O
  next : ∀ e : ME, e.X = O → LQ (Dk.start (Dk.lose (Dk.arm D' 0 []) 0)) O O.length [e] (k + 1)
  ml : M'.length ≤ 1000
  each : ∀ e ∈ M', e.X.length ≤ 1000000
  len : O.length ≤ 1000000
theorem again_of {P : List (List UInt8) → Prop} (h : Jn.Out D' 3 P) (hP : ∀ O, P O → (∃ e ∈ M', e.X = O)) (hml : M'.length ≤ 1000) (hmf : ∀ e ∈ M', (Jn.forms e.X).length ≤ 1400 * (k + 1)) (hk : k ≤ 30) : ∃ O, Again D' O M' k := by
  have hPf : ∀ O, P O → (Jn.forms O).length ≤ 1400 * (k + 1) := fun O hO => by
    obtain ⟨e, he, rfl⟩ := hP O hO
    exact hmf e he
  obtain ⟨O, j, hO, hp, hl⟩ := Jn.li_after (D' := Dk.start (Dk.lose (Dk.arm D' 0 []) 0)) h rfl rfl h.queue (fun O hO => by have := hPf O hO; omega)
  have hc := Jn.forms_count O
  have hof := hPf O hO
  refine ⟨O, rfl, ⟨j, hp⟩, hP O hO, fun e he => ⟨hl, ?_, hof, ⟨e, by simp, by rw [he, List.take_length]⟩, by simp, fun x hx => ?_⟩, hml, fun e he => ?_, by omega⟩
  · show D'.queue.length ≤ _
    rw [h.queue]
    exact Nat.zero_le _
  · obtain rfl : x = e := by simpa using hx
    rw [he]; exact hof
  · have := hmf e he
    have := Jn.forms_count e.X
    omega
/-- The crash found what was sure, among the lists that there were. -/
theorem LQ.again (h : LQ D R s M k) (ho : Jn.Out D' 3 (fun O => O = R.take s)) (hk : k ≤ 30) : ∃ O, Again D' O M k :=
  again_of ho (fun O hO => by
    obtain ⟨e, he, hee⟩ := h.has
    exact ⟨e, he, hee.trans hO.symm⟩) (by have := h.ml; omega) (fun e he => by have := h.mf e he; omega) hk
theorem LQ.again2 (h : LQ D R s M k) {X : List (List UInt8)} (ho : Jn.Out D' 3 (fun O => O = R.take s ∨ O = X)) (hk : k ≤ 30) (e : ME) (he : e.X = X) (hf : (Jn.forms X).length ≤ 1400 * (k + 1)) : ∃ O, Again D' O (M ++ [e]) k :=
  again_of ho (fun O hO => by
    rcases hO with hO | hO
    · obtain ⟨x, hx, hxx⟩ := h.has
      exact ⟨x, List.mem_append_left _ hx, hxx.trans hO.symm⟩
    · exact ⟨e, by simp, he.trans hO.symm⟩) (by rw [List.length_append]; have := h.ml; show M.length + 1 ≤ _; omega) (fun x hx => by
    rcases List.mem_append.1 hx with hx | hx
    · have := h.mf x hx; omega
    · obtain rfl : x = e := by simpa using hx
      rw [he]; exact hf) hk
theorem LQ.again3 (h : LQ D R s M k) (ho : Jn.Out D' 3 (fun O => O = R.take s)) (hk : k ≤ 30) (e : ME) (hf : (Jn.forms e.X).length ≤ 1400 * (k + 1)) : ∃ O, Again D' O (M ++ [e]) k :=
  again_of ho (fun O hO => by
    obtain ⟨x, hx, hxx⟩ := h.has
    exact ⟨x, List.mem_append_left _ hx, hxx.trans hO.symm⟩) (by rw [List.length_append]; have := h.ml; show M.length + 1 ≤ _; omega) (fun x hx => by
    rcases List.mem_append.1 hx with hx | hx
    · have := h.mf x hx; omega
    · obtain rfl : x = e := by simpa using hx
      exact hf) hk
end
theorem ml_start_nil {w2 w : World} {g lb : Nat} {pa : Option Addr} {pc : Nat} (h : JV w2 w g lb 3 Dk.new [] 0 pa pc) : ML w2 (w.alloc (.cells #[.slice none 0 0] 36)) g lb 3 Dk.new [] 0 (.slice (some ⟨w.heap.size, 0, none⟩) 1 1) [⟨none, 0, 0, 0, 0, []⟩] [] := by
  have h0 : ML w2 w g lb 3 Dk.new [] 0 (.slice none 0 0) [] [⟨none, 0, 0, 0, 0, []⟩] :=
    ⟨⟨pa, pc, h⟩, World.ownsRow_nil _ _ _ _, fun b hb => (by cases hb), fun e he => by
      obtain rfl : e = ⟨none, 0, 0, 0, 0, []⟩ := by simpa using he
      exact ⟨⟨fun hp => absurd hp (Nat.lt_irrefl _), fun j hj => absurd hj (Nat.not_lt_zero _), fun hp => absurd hp (Nat.lt_irrefl _), Nat.le_refl _⟩, rfl, fun _ => rfl, fun hp => absurd hp (Nat.lt_irrefl _)⟩⟩
  exact (h0.lit (e := ⟨none, 0, 0, 0, 0, []⟩) (.inr (by simp))).less (fun e he => by cases he)
theorem ML.deed {w2 w : World} {g lb f sure : Nat} {D : Dk.Disk} {R : List (List UInt8)} {v : Value} {M H : List ME} (h : ML w2 w g lb f D R sure v M H) (v0 v1 v3 v4 v5 : Value) : ML w2 (w.alloc (.cells #[v0, v1, v3, v4, v5] 39)) g lb f D R sure v M H ∧ Blk (w.alloc (.cells #[v0, v1, v3, v4, v5] 39)) w.heap.size 39 [v0, v1, v3, v4, v5] :=
  ⟨h.quiet (below_new w _), Blk.made w #[v0, v1, v3, v4, v5] 39⟩
/-- The deed's block beside the log. -/
structure MX (w2 w : World) (g lb : Nat) (D : Dk.Disk) (R : List (List UInt8)) (sure : Nat) (v : Value) (M H : List ME) (xb : Nat) (L : List Value) : Prop where
  ml : ML w2 w g lb 3 D R sure v M H
  x : Blk w xb 39 L
theorem MX.cells {w2 w : World} {g lb sure : Nat} {D : Dk.Disk} {R : List (List UInt8)} {v : Value} {M H : List ME} {xb : Nat} {v0 v1 v3 v4 v5 : Value} (h : MX w2 w g lb D R sure v M H xb [v0, v1, v3, v4, v5]) : w.cell? ⟨xb, 0, none⟩ = some v0 ∧ w.cell? ⟨xb, 1, none⟩ = some v1 ∧ w.cell? ⟨xb, 2, none⟩ = some v3 ∧ w.cell? ⟨xb, 3, none⟩ = some v4 ∧ w.cell? ⟨xb, 4, none⟩ = some v5 :=
  ⟨h.x.cell (j := 0) rfl, h.x.cell (j := 1) rfl, h.x.cell (j := 2) rfl, h.x.cell (j := 3) rfl, h.x.cell (j := 4) rfl⟩
section
variable {w2 w w' : World} {g lb sure : Nat} {D : Dk.Disk} {R : List (List UInt8)} {v : Value} {M H : List ME} {xb : Nat} {L : List Value} {m : Int}
theorem MX.call {D' : Dk.Disk} {R' : List (List UInt8)} {sure' : Nat} (h : MX w2 w g lb D R sure v M H xb L) (hj : JL w2 w' g lb 3 D' R' sure') (m : JMv g lb w w') : MX w2 w' g lb D' R' sure' v M H xb L := by
  obtain ⟨pa, pc, h0⟩ := h.ml.jv
  exact ⟨h.ml.call hj m, blk_jmv h.x h0 m (by decide) (by decide) (by decide) (by decide) (by decide)⟩
theorem MX.quiet (h : MX w2 w g lb D R sure v M H xb L) (hb : Below w.heap.size w w') : MX w2 w' g lb D R sure v M H xb L := by
  obtain ⟨pa, pc, h0⟩ := h.ml.jv
  obtain ⟨h1, h2⟩ := h0.quiet hb
  exact h.call ⟨pa, pc, h1⟩ h2
theorem mx_arm (h : MX w2 w g lb D R sure v M H xb L) (hm : m ≤ 9223372036854775807) {ka : Option Addr} {kb ko kn kc : Nat} {ks : List Int} (hk : KL w2 ka kb ko kn kc ks) (hl : kn ≤ 100000000) : Calls Tryd.prog 35 #[.pointer (some ⟨g, 0, none⟩), .int .i64 m, .slice ka kn kc] w fun e w' => (∃ v, e = .returned v) ∧ MX w2 w' g lb (Dk.arm D m ks) R sure v M H xb L :=
  (mm_arm_arg h.ml.mm m hm ka kb ko kn kc ks hk.ir hk.len hk.nil hl).mono fun _ _ ⟨x, y⟩ => by
    obtain ⟨pa, pc, hj⟩ := h.ml.jv
    obtain ⟨h1, h2⟩ := hj.mv y
    exact ⟨x, h.call ⟨pa, pc, h1⟩ h2⟩
theorem mx_all (h : MX w2 w g lb D R sure v M H xb L) : Calls Tryd.prog 33 #[.pointer (some ⟨lb, 0, none⟩)] w fun e w' => ∃ xa x9 xn xc, e = .returned (.slice xa xn xc) ∧ R.length = xn ∧ MX w2 w' g lb D R sure v M (⟨xa, x9, 0, xn, xc, R⟩ :: H) xb L := by
  obtain ⟨pa, pc, h0⟩ := h.ml.jv
  exact (all_any h0).mono fun e w' ⟨xa, xc, x, y, z⟩ => by
    obtain ⟨b, h1, h2⟩ := h.ml.fresh z y
    exact ⟨xa, b, R.length, xc, x, h1, h2, (h.quiet z).x⟩
theorem mx_batch (h : MX w2 w g lb D R sure v M H xb L) {xa : Option Addr} {b off n cap : Nat} {X : List (List UInt8)} (hL : Lv w2 xa b off cap X) (hn : X.length = n) (hX : (Jn.forms X).length ≤ 300000) (hq : D.queue.length ≤ 100000) {c : Int} {D' : Dk.Disk} {R' : List (List UInt8)} {s' : Nat} (hc : Dk.ec (Jn.batchL D (3 : Nat) R sure X).e = c) (hd : (Jn.batchL D (3 : Nat) R sure X).d = D') (hr : (Jn.batchL D (3 : Nat) R sure X).r = R') (hs : (Jn.batchL D (3 : Nat) R sure X).s = s') :
    Calls Tryd.prog 17 #[.pointer (some ⟨lb, 0, none⟩), .slice xa n cap] w fun e w' => e = .returned (.int .i64 c) ∧ MX w2 w' g lb D' R' s' v M H xb L := by
  subst hc hd hr hs
  obtain ⟨pa, pc, h0⟩ := h.ml.jv
  exact (batch_any h0 (hL.below h.ml.below) (fun hp hf => by
    have h1 := hL.lt hp
    rcases hf with hf | hf | ⟨u, hc, hv⟩
    · have := h0.mine.foot b hf; omega
    · have := h0.ge; omega
    · rw [h0.cells.2.2.1] at hc
      injection hc with hc
      subst hc
      have := own_from h0.row b hv
      omega) hn hX hq).mono fun e w' ⟨x, y, z⟩ => ⟨x, h.call y z⟩
theorem mx_rewrite (h : MX w2 w g lb D R sure v M H xb L) {xa : Option Addr} {b off n cap : Nat} {X : List (List UInt8)} (hL : Lv w2 xa b off cap X) (hn : X.length = n) (hnil : xa = none → cap = 0) (hX : (Jn.forms X).length ≤ 300000) (hq : D.queue.length ≤ 100000) {c : Int} {D' : Dk.Disk} {R' : List (List UInt8)} {s' : Nat} (hc : Dk.ec (Jn.rewriteL D (3 : Nat) ((3 + 1 : Nat) : Int) R sure X).e = c) (hd : (Jn.rewriteL D (3 : Nat) ((3 + 1 : Nat) : Int) R sure X).d = D') (hr : (Jn.rewriteL D (3 : Nat) ((3 + 1 : Nat) : Int) R sure X).r = R') (hs : (Jn.rewriteL D (3 : Nat) ((3 + 1 : Nat) : Int) R sure X).s = s') :
    Calls Tryd.prog 19 #[.pointer (some ⟨lb, 0, none⟩), .slice xa n cap] w fun e w' => e = .returned (.int .i64 c) ∧ MX w2 w' g lb D' R' s' v M H xb L := by
  subst hc hd hr hs
  obtain ⟨pa, pc, h0⟩ := h.ml.jv
  exact (rewrite_any h0 (hL.below h.ml.below) hn hnil ((3 + 1 : Nat) : Int) rfl (by decide) hX hq).mono fun e w' ⟨x, y, z⟩ => ⟨x, h.call y z⟩
end
theorem ml_all_eq {w2 w : World} {g lb f sure : Nat} {D : Dk.Disk} {R : List (List UInt8)} {v : Value} {M H : List ME} (h : ML w2 w g lb f D R sure v M H) {n : Nat} (hn : R.length = n) : Calls Tryd.prog 33 #[.pointer (some ⟨lb, 0, none⟩)] w fun e w' => ∃ xa xb xc, e = .returned (.slice xa n xc) ∧ ML w2 w' g lb f D R sure v M (⟨xa, xb, 0, n, xc, R⟩ :: H) := by
  subst hn
  exact (ml_all h).mono fun e w' ⟨xa, xb, xn, xc, h1, h2, h3⟩ => by
    subst h2
    exact ⟨xa, xb, xc, h1, h3⟩
theorem le_of_eq_le {a b c : Nat} (h : a = b) (h2 : a ≤ c) : b ≤ c := h ▸ h2
theorem ml_big : 1000 ≤ 1000000 := by decide
theorem mx_none {w2 w : World} {g lb sure : Nat} {D : Dk.Disk} {R : List (List UInt8)} {v : Value} {M H : List ME} {xb : Nat} {L : List Value} (h : MX w2 w g lb D R sure v M H xb L) : MX w2 w g lb D R sure (.slice none 0 0) [] (M ++ H) xb L := ⟨h.ml.none_, h.x⟩
theorem kl_at {w : World} {ka : Option Addr} {kb ko kn kc : Nat} {ks : List Int} (h : KL w ka kb ko kn kc ks) (hr : ∀ z ∈ ks, z ≤ 9223372036854775807) {j : Nat} (hj : j < kn) : ka = some ⟨kb, ko, none⟩ ∧ ∃ m, w.cell? ⟨kb, ko + j, none⟩ = some (.int .i64 m) ∧ m ≤ 9223372036854775807 := by
  have hl : j < ks.length := by rw [h.len]; exact hj
  refine ⟨h.ir.addr (by omega), _, h.ir.cell j hl, hr _ ?_⟩
  rw [List.getD_eq_getElem?_getD, List.getElem?_eq_getElem hl]
  exact List.getElem_mem hl
set_option maxHeartbeats 8000000 in
set_option maxRecDepth 100000 in
theorem jlasts_yes (X : List Jn.Deed) (n : Nat) (hn : X.length = n) (ya : Option Addr) (b off cap : Nat) {ka : Option Addr} {kb ko kn kc : Nat} {ks : List Int} (w : World) (hl : LD w ya b off X) (hk : KL w ka kb ko kn kc ks) (hkr : ∀ z ∈ ks, z ≤ 9223372036854775807) (hE : EnvJ w) (hf : Jn.few X = true) (hkn : kn ≤ 10) :
    Calls Tryd.prog 4 #[.slice ya n cap, .slice ka kn kc] w fun e w' => e = .returned (.bool true) ∧ Below w.heap.size w w' := by
  have C0 := Lib.hid (small_any w hE)
  have HE := Lib.hid hE
  have HL := Lib.hid hl
  have HN := Lib.hid hn
  have HKL := Lib.hid hk
  have HKR := Lib.hid hkr
  have HF := Lib.hid hf
  have HFT := Lib.hid (Jn.few_true hf)
  have hN : n ≤ 30 := by rw [← hn]; exact HFT.out.1
  have P0 : RowKit.Hid (Jn.parse (Dk.read Dk.new 3) = some ([], 16)) := Lib.hid Jn.parse_empty
  have k1 : decide (10 < kn) = false := by simp; omega
  have k1i : decide ((10 : Int) < (kn : Int)) = false := by simp; omega
  clear hf hn hl hk hkr hE
  go_enter Tryd.func4, Tryd.ntmps4
  go_wp2_with (first
    | (go_at_call 13; with_reducible refine (open_fi HM.out (HE.out.below HB2.out) 3 3 rfl (by decide) rfl P0.out).mono ?_; rintro _ w5 ⟨lb0, pa0, pc0, rfl, hJ⟩; have HJ0 := Lib.hid hJ; clear hJ)
    | (go_at_call 11; with_reducible refine (mine_new _).mono ?_; rintro _ w4 ⟨rfl, hm⟩; have HM := Lib.hid hm; clear hm)
    | (go_at_call 10; with_reducible refine (few_of X n HN.out ya b off cap _ (HL.out.below HB0.out) HF.out).mono ?_; rintro _ w3 ⟨rfl, hb1⟩; have HB2 := Lib.hid (below_to HB0.out (Nat.le_refl _) hb1); clear hb1)
    | (go_at_call 9; with_reducible refine (C0.out).mono ?_; rintro _ w2 ⟨rfl, hb0⟩; have HB0 := Lib.hid hb0; clear hb0))
  go_loopw [8, 9, 10, 11, 12, 13, 14, 15, 16] (fun x8 x9 x10 x11 x12 _ _ _ _ wr => ∃ (k ar lb : Nat) (va : Option Addr) (vn vc : Nat), x12 = .int .i64 k ∧ k ≤ n ∧ x11 = .int .i64 (ar : Int) ∧ ar ≤ kn ∧ x8 = .pointer (some ⟨lb, 0, none⟩) ∧ x10 = .slice va vn vc ∧ Hid (∃ D R s M, LQ D R s M k ∧ ML w3 wr w3.heap.size lb 3 D R s (.slice va vn vc) M [])) (fun _ _ _ _ x12 _ _ _ _ _ => n - (intOf x12).toNat)
  case atStart => exact ⟨0, 0, lb0, _, 1, 1, rfl, Nat.zero_le _, rfl, Nat.zero_le _, rfl, rfl, Dk.new, [], 0, [⟨none, 0, 0, 0, 0, []⟩], lq_new _ rfl, ml_start_nil HJ0.out⟩
  case round =>
    obtain ⟨k, ar, lb, va, vn, vc, rfl, hk, rfl, har, rfl, rfl, hD⟩ := hrel
    obtain ⟨D, R, s_, M, hq, hm⟩ := hD.out
    clear hD
    by_cases hlt : k < n
    · obtain ⟨a, ha⟩ : ∃ a, X[k]? = some a := ⟨_, List.getElem?_eq_getElem (by rw [HN.out]; exact hlt)⟩
      have HA := Lib.hid (HFT.out.2 a (List.mem_of_getElem? ha))
      have HL2 := Lib.hid (HL.out.below HB2.out)
      obtain rfl := HL2.out.at_ (by rw [HN.out]; omega)
      obtain ⟨xa, xb, xoff, xn, xcap, da, db, doff, dn, dcap, hac, hcs⟩ := HL2.out.cell k a ha
      have HDC := Lib.hid hac
      obtain ⟨c0, c1, c2, c3, c4⟩ := dlcells_at fun i v hv => (hm.below.cell (p := ⟨b, off + k * 5 + i, none⟩) (HL2.out.lt (by rw [HN.out]; omega))).trans (hcs i v hv)
      obtain ⟨t, ht⟩ : ∃ t, enc a.row = t := ⟨_, rfl⟩
      obtain ⟨N, hNN⟩ : ∃ N, a.do_ = N := ⟨_, rfl⟩
      obtain ⟨Z, hZZ⟩ : ∃ Z, a.n = Z := ⟨_, rfl⟩
      rw [ht] at c1
      rw [hNN] at c0
      rw [hZZ] at c4
      have HZ := Lib.hid (show -9223372036854775808 ≤ Z ∧ Z ≤ 9223372036854775807 from by rw [← hZZ]; exact ⟨HDC.out.n0, HDC.out.n1⟩)
      have HTL := Lib.hid (show t.size ≤ 200 from by rw [← ht, Lib.size_eq, enc_list]; exact HA.out.1)
      have HXF := Lib.hid (show (Jn.forms a.rows).length ≤ 1300 from by have := Jn.forms_le 6 200 a.rows HA.out.2.1 HA.out.2.2.2; omega)
      have h7 := and_7 N
      have h7r : 0 ≤ N % 8 ∧ N % 8 < 8 := by omega
      obtain ⟨r, hr⟩ : ∃ r, N % 8 = r := ⟨_, rfl⟩
      rw [hr] at h7 h7r
      have HKX := Lib.hid (⟨HDC.out.ir, HDC.out.len, HDC.out.nil⟩ : KL w3 da db doff dn dcap a.keep)
      have hdn : dn ≤ 60 := by rw [← HDC.out.len]; exact HA.out.2.2.1
      obtain ⟨hm1, hx1⟩ := hm.deed (.int .i64 N) (.string t) (.slice xa xn xcap) (.slice da dn dcap) (.int .i64 Z)
      have HX := Lib.hid (⟨hm1, hx1⟩ : MX w3 _ w3.heap.size lb D R s_ (.slice va vn vc) M [] wr.heap.size _)
      have HQ := Lib.hid hq
      clear hac hcs ht hNN hZZ hr ha hm hm1 hx1 hq
      obtain ⟨d0, d1, d2, d3, d4⟩ := HX.out.cells
      obtain ⟨b1, hb1⟩ : ∃ b1 : Bool, (b1 = true ↔ (k : Int) % 3 = 0 ∧ ar < kn) := ⟨decide ((k : Int) % 3 = 0 ∧ ar < kn), decide_eq_true_iff⟩
      have HB1 := Lib.hid hb1
      clear hb1
      go_upto_region 15 with fail
      go_cut [59] (fun s wc => s = .bool b1 ∧ Hid (MX w3 wc w3.heap.size lb D R s_ (.slice va vn vc) M [] wr.heap.size [.int .i64 N, .string t, .slice xa xn xcap, .slice da dn dcap, .int .i64 Z]))
      case first =>
        by_cases m3 : (k : Int) % 3 = 0
        · have m3b : ((k : Int) % 3 == 0) = true := by simpa using m3
          by_cases ma : ar < kn
          · have mab : decide (ar < kn) = true := by simpa using ma
            obtain rfl : b1 = true := HB1.out.2 ⟨m3, ma⟩
            go_wp2
            go_meet
            exact ⟨rfl, HX.out⟩
          · have mab : decide (ar < kn) = false := by simpa using ma
            obtain rfl : b1 = false := by
              cases h : b1 with
              | false => rfl
              | true => exact absurd (HB1.out.1 h).2 ma
            go_wp2
            go_meet
            exact ⟨rfl, HX.out⟩
        · have m3b : ((k : Int) % 3 == 0) = false := by simpa using m3
          obtain rfl : b1 = false := by
            cases h : b1 with
            | false => rfl
            | true => exact absurd (HB1.out.1 h).1 m3
          go_wp2
          go_meet
          exact ⟨rfl, HX.out⟩
      case rest =>
        obtain ⟨rfl, hX⟩ := hcut
        have HX := Lib.hid hX.out
        clear hX d0 d1 d2 d3 d4
        obtain ⟨d0, d1, d2, d3, d4⟩ := HX.out.cells
        go_upto_if 59 with fail
        go_cut [11] (fun x11 w9 => ∃ (ar' : Nat) (D' : Dk.Disk), x11 = .int .i64 (ar' : Int) ∧ ar' ≤ kn ∧ Hid (LQ D' R s_ M k) ∧ Hid (MX w3 w9 w3.heap.size lb D' R s_ (.slice va vn vc) M [] wr.heap.size [.int .i64 N, .string t, .slice xa xn xcap, .slice da dn dcap, .int .i64 Z]))
        case first =>
          cases hb : b1 with
          | false =>
            subst hb
            go_wp2
            go_meet
            exact ⟨ar, D, rfl, har, HQ.out, HX.out⟩
          | true =>
            have ham := (HB1.out.1 hb).2
            subst hb
            obtain ⟨hka, m0, cm0, hm0⟩ := kl_at (HKL.out.below HB2.out) HKR.out ham
            subst hka
            have cA := (HX.out.ml.below.cell (p := ⟨kb, ko + ar, none⟩) ((HKL.out.below HB2.out).ir.lt (by rw [HKL.out.len]; omega))).trans cm0
            have HXD := Lib.hid (HX.out.quiet (below_drew (Below.refl _ _)))
            have HQA := Lib.hid (HQ.out.armed m0 a.keep)
            have HCM := Lib.hid cm0
            have HLT := Lib.hid ((HKL.out.below HB2.out).ir.lt (by rw [HKL.out.len]; omega))
            clear cm0 d0 d1 d2 d4
            go_wp2_with fail
            go_region_held3 (fun wz => wz.cell? ⟨kb, ko + ar, none⟩ = some (.int .i64 m0) ∧ wz.cell? ⟨wr.heap.size, 3, none⟩ = some (.slice da dn dcap)) (first | exact ⟨cA, d3⟩ | exact ⟨cA8, d38⟩ | fail) ((first | (go_at_call 35; refine (mx_arm HXD.out hm0 HKX.out (by omega)).mono ?_; rintro _ w8 ⟨⟨v9, rfl⟩, hX8⟩; have HX8 := Lib.hid hX8; have d38 := hX8.cells.2.2.2.1; have cA8 := (hX8.ml.below.cell (p := ⟨kb, ko + ar, none⟩) HLT.out).trans HCM.out; clear hX8) | fail))
            all_goals
              go_wp2
              go_meet
              exact ⟨ar + 1, _, by go_num, by omega, HQA.out, HX8.out⟩
        case rest =>
          obtain ⟨ar2, D1, rfl, har2, hq2, hX2⟩ := hcut
          have HX := Lib.hid hX2.out
          have HQ := Lib.hid hq2.out
          clear hX2 hq2 d0 d1 d2 d3 d4
          obtain ⟨d0, d1, d2, d3, d4⟩ := HX.out.cells
          have hk30 : k ≤ 30 := by omega
          have HQB := Lib.hid (show D1.queue.length ≤ 100000 from by have := HQ.out.q; omega)
          have HML := Lib.hid (show M.length ≤ 1000000 from by have := HQ.out.ml; omega)
          have HFR := Lib.hid (show (Jn.forms R).length ≤ 1400 * (k + 1) from by have := HQ.out.fl; omega)
          have HXF3 := Lib.hid (show (Jn.forms a.rows).length ≤ 1400 * (k + 1) from by have := HXF.out; omega)
          have HXF4 := Lib.hid (show (Jn.forms (R ++ a.rows)).length ≤ 1400 * (k + 1) from by rw [Jn.forms_append, List.length_append]; have := HXF.out; have := HQ.out.fl; omega)
          have HXF5 := Lib.hid (show (Jn.forms a.rows).length ≤ 300000 from by have := HXF.out; omega)
          by_cases r3 : r = 3
          · subst r3
            rcases Jn.flushL_out HQ.out.li (by decide) with ⟨e1, l1, s1, k1_⟩ | ⟨e1, l0, l1, s1, k1_⟩ | ⟨e1, l0, o1⟩
            · have HE1 := Lib.hid (show Dk.ec (Jn.flushL D1 (3 : Nat) R s_).e = 0 from by rw [e1]; rfl)
              have HML9 := Lib.hid (show ([] : List ME).length ≤ 1000000 from by first | exact HML.out | exact Nat.zero_le _)
              have HK1 := Lib.hid k1_
              have HL1 := Lib.hid l1
              have HS1 := Lib.hid s1
              clear e1 l1 s1 k1_
              go_wp2_with (first
                | (at_builtin; refine wpList_me_app rfl (.tmp 85) (.tmp 87) rfl (e := (⟨wa, wb, 0, wn, wc9, R⟩ : ME)) HMN.out (.inr (List.mem_append_right _ List.mem_cons_self)) rfl rfl HML9.out ?_; intro qa qn qc w9 HMQ HQN HBK; skip)
                | (go_at_call 15; with_reducible refine (ml_flush HXA.out.ml HQB.out (c := 0) HE1.out rfl rfl).mono ?_; rintro _ w9 ⟨rfl, hJ⟩; have HMB := Lib.hid hJ; have HMN := Lib.hid hJ.none_; clear hJ)
                | (go_at_call 33; with_reducible refine (mx_all HX.out).mono ?_; rintro _ w9 ⟨wa, wb, wn, wc9, rfl, hwn, hX⟩; have HXA := Lib.hid hX; have HWN := Lib.hid hwn; obtain ⟨f0, f1, f2, f3, f4⟩ := hX.cells; clear hX hwn))
              go_roundw
              case rel => exact ⟨k + 1, ar2, lb, qa, qn, qc, by go_num, by omega, rfl, har2, rfl, rfl, _, R, _, _, HQ.out.done HK1.out (by omega) HL1.out HS1.out HFR.out _ rfl, HMQ.out.less (fun e he => by cases he)⟩
              case measure => simp [intOf]; omega
            · have HE1 := Lib.hid (show Dk.ec (Jn.flushL D1 (3 : Nat) R s_).e = 9 from by rw [e1]; rfl)
              have HML9 := Lib.hid (show (M : List ME).length ≤ 1000000 from by first | exact HML.out | exact Nat.zero_le _)
              have HK1 := Lib.hid k1_
              have HL1 := Lib.hid l1
              have HS1 := Lib.hid s1
              clear e1 l0 l1 s1 k1_
              go_wp2_with (first
                | (at_builtin; refine wpList_me_app rfl (.tmp 85) (.tmp 87) rfl (e := (⟨wa, wb, 0, wn, wc9, R⟩ : ME)) HMB.out (.inr List.mem_cons_self) rfl rfl HML9.out ?_; intro qa qn qc w9 HMQ HQN HBK; skip)
                | (go_at_call 15; with_reducible refine (ml_flush HXA.out.ml HQB.out (c := 9) HE1.out rfl rfl).mono ?_; rintro _ w9 ⟨rfl, hJ⟩; have HMB := Lib.hid hJ; have HMN := Lib.hid hJ.none_; clear hJ)
                | (go_at_call 33; with_reducible refine (mx_all HX.out).mono ?_; rintro _ w9 ⟨wa, wb, wn, wc9, rfl, hwn, hX⟩; have HXA := Lib.hid hX; have HWN := Lib.hid hwn; obtain ⟨f0, f1, f2, f3, f4⟩ := hX.cells; clear hX hwn))
              go_roundw
              case rel => exact ⟨k + 1, ar2, lb, qa, qn, qc, by go_num, by omega, rfl, har2, rfl, rfl, _, R, s_, M ++ [(⟨wa, wb, 0, wn, wc9, R⟩ : ME)], HQ.out.also HK1.out (by omega) (by have := HL1.out; rw [HS1.out] at this; exact this) rfl HFR.out (⟨wa, wb, 0, wn, wc9, R⟩ : ME) HFR.out, by have := HMQ.out.less (H' := []) (fun e he => by cases he); rw [HS1.out] at this; exact this⟩
              case measure => simp [intOf]; omega
            · have HE1 := Lib.hid (show Dk.ec (Jn.flushL D1 (3 : Nat) R s_).e = 8 from by rw [e1]; rfl)
              have HML9 := Lib.hid (show (M : List ME).length ≤ 1000000 from by first | exact HML.out | exact Nat.zero_le _)
              have HO1 := Lib.hid o1
              clear e1 l0 o1
              go_wp2_with (first
                | (go_at_call 36; with_reducible refine (ml_found HT6.out List.mem_cons_self HON2.out HML2.out HAG.out.each HAG.out.has).mono ?_; rintro _ w10 ⟨rfl, hJ⟩; have HT7 := Lib.hid hJ; clear hJ)
                | (go_at_call 33; with_reducible refine (ml_all_eq HT5.out HON.out).mono ?_; rintro _ w9 ⟨za, zb, zc, rfl, hJ⟩; have HT6 := Lib.hid hJ; clear hJ)
                | (go_at_call 33; with_reducible refine (ml_all_eq HT4.out HON.out).mono ?_; rintro _ w9 ⟨ya, yb, yc, rfl, hJ⟩; have HT5 := Lib.hid hJ; clear hJ)
                | (go_at_call 34; with_reducible refine (ml_sure HT4.out HON.out).mono ?_; rintro _ w9 ⟨rfl, rfl⟩; skip)
                | (go_at_call 13; with_reducible refine (ml_open HT3.out (HE.out.below HB2.out) 3 rfl (by decide) HAG.out.down HPJ.out).mono ?_; rintro _ w9 ⟨lb2, rfl, hJ⟩; have HT4 := Lib.hid hJ; clear hJ)
                | (go_at_call 23; with_reducible refine (ml_start HT2.out).mono ?_; rintro _ w9 ⟨⟨v9, rfl⟩, hJ⟩; have HT3 := Lib.hid hJ; clear hJ)
                | (go_at_call 25; with_reducible refine (ml_lose HT1.out (by decide)).mono ?_; rintro _ w9 ⟨⟨v9, rfl⟩, hJ⟩; have HT2 := Lib.hid hJ; clear hJ)
                | (go_at_call 35; with_reducible refine (ml_arm_nil HT0.out (by decide)).mono ?_; rintro _ w9 ⟨⟨v9, rfl⟩, hJ⟩; have HT1 := Lib.hid hJ; clear hJ)
                | (at_builtin; refine wpList_me_app rfl (.tmp 85) (.tmp 87) rfl (e := (⟨wa, wb, 0, wn, wc9, R⟩ : ME)) HMB.out (.inr List.mem_cons_self) rfl rfl HML9.out ?_; intro qa qn qc w9 HMQ HQN HBK; obtain ⟨O, hag⟩ := HQ.out.again2 HO1.out hk30 (⟨wa, wb, 0, wn, wc9, R⟩ : ME) rfl HFR.out; obtain ⟨jj, hpj⟩ := hag.parse; have HAG := Lib.hid hag; have HPJ := Lib.hid hpj; obtain ⟨on, hon⟩ : ∃ on, O.length = on := ⟨_, rfl⟩; have HON := Lib.hid hon; have HON2 := Lib.hid (le_of_eq_le hon hag.len); have HML2 := Lib.hid (Nat.le_trans hag.ml ml_big); have HT0 := HMQ; clear hag hpj hon)
                | (go_at_call 15; with_reducible refine (ml_flush HXA.out.ml HQB.out (c := 8) HE1.out rfl rfl).mono ?_; rintro _ w9 ⟨rfl, hJ⟩; have HMB := Lib.hid hJ; have HMN := Lib.hid hJ.none_; clear hJ)
                | (go_at_call 33; with_reducible refine (mx_all HX.out).mono ?_; rintro _ w9 ⟨wa, wb, wn, wc9, rfl, hwn, hX⟩; have HXA := Lib.hid hX; have HWN := Lib.hid hwn; obtain ⟨f0, f1, f2, f3, f4⟩ := hX.cells; clear hX hwn))
              go_roundw
              case rel => exact ⟨k + 1, ar2, lb2, some ⟨w10.heap.size, 0, none⟩, 1, 1, by go_num, by omega, rfl, har2, rfl, rfl, _, O, O.length, [⟨za, zb, 0, on, zc, O⟩], HAG.out.next _ rfl, (HT7.out.lit (e := ⟨za, zb, 0, on, zc, O⟩) (.inr List.mem_cons_self)).less (fun e he => by cases he)⟩
              case measure => simp [intOf]; omega
          by_cases r4 : r = 4
          · subst r4
            rcases Jn.batchL_out HQ.out.li (by decide) a.rows (by have := HXF.out; have := HQ.out.fl; omega) with ⟨e1, l1, r1, s1, k1_⟩ | ⟨e1, l0, l1, r1, s1, k1_⟩ | ⟨e1, l0, o1⟩
            · have HE1 := Lib.hid (show Dk.ec (Jn.batchL D1 (3 : Nat) R s_ a.rows).e = 0 from by rw [e1]; rfl)
              have HML9 := Lib.hid (show ([] : List ME).length ≤ 1000000 from by first | exact HML.out | exact Nat.zero_le _)
              have HK1 := Lib.hid k1_
              have HL1 := Lib.hid l1
              have HR1 := Lib.hid r1
              have HS1 := Lib.hid s1
              clear e1 l1 r1 s1 k1_
              go_wp2_with (first
                | (go_at_call 17; with_reducible refine (mx_batch HXA.out HDC.out.lv HDC.out.xl HXF5.out HQB.out (c := 0) HE1.out rfl HR1.out HS1.out).mono ?_; rintro _ w9 ⟨rfl, hX⟩; have HXB := Lib.hid (mx_none hX); clear hX; obtain ⟨x0, x1, x2, x3, x4⟩ := HXB.out.cells)
                | (go_at_call 33; with_reducible refine (mx_all HX.out).mono ?_; rintro _ w9 ⟨wa, wb, wn, wc9, rfl, hwn, hX⟩; have HXA := Lib.hid hX; have HWN := Lib.hid hwn; obtain ⟨f0, f1, f2, f3, f4⟩ := hX.cells; clear hX hwn))
              have HXD := Lib.hid (HXB.out.quiet (below_drew (Below.refl _ _)))
              have x2 := HXD.out.cells.2.2.1
              have HE0 := Lib.hid (sown_lit w9.drew (Nat.le_refl _) [] (by decide))
              have HB0_ := Lib.hid (below_new w9.drew (.cells (sv []).toArray 9))
              have CC := Lib.hid (fun (w' : World) (hb : Below w9.drew.heap.size w9.drew w') => (hb.cell (p := ⟨wr.heap.size, 2, none⟩) HXD.out.x.lt).trans x2)
              have HSW := Lib.hid (HXD.out.ml.held (⟨wa, wb, 0, wn, wc9, R⟩ : ME) (.inr (List.mem_append_right _ List.mem_cons_self)))
              have HLX := Lib.hid (HDC.out.lv.below HXD.out.ml.below)
              have hb1_ : ([] : List (List UInt8)).length + wn ≤ 1000000000 := by have := HWN.out; have := Jn.forms_count R; have := HFR.out; show 0 + wn ≤ _; omega
              have hb2_ : ([] ++ R).length + xn ≤ 1000000000 := by have := HWN.out; have := Jn.forms_count R; have := HFR.out; have := HDC.out.xl; have := HA.out.2.1; show R.length + xn ≤ _; omega
              clear x0 x1 x3 x4
              go_region_held3 (fun wz => wz.cell? ⟨wr.heap.size, 2, none⟩ = some (.slice xa xn xcap)) (first | exact x2 | exact CC.out _ HB0_.out | exact CC.out _ HBW1.out | exact CC.out _ HBW2.out | exact CC.out _ (below_al HBW2.out (Nat.le_refl _) _) | exact x23 | fail) ((first
                | (refine step_me_app (by rfl) _ _ (by rfl) (e := (⟨p2, pb, 0, n2, c2, ([] ++ R) ++ a.rows⟩ : ME)) HM4.out (.inr List.mem_cons_self) (by rfl) (by rfl) HML9.out ?_; intro qa qn qc u3 HMQ HQN HBK; have x23 : u3.cell? ⟨wr.heap.size, 2, none⟩ = some (.slice xa xn xcap) := (HBK.out _ _ ((HBW2.out.block _ HXD.out.x.lt).trans HXD.out.x)).cell (j := 2) rfl)
                | (refine step_app_lv (by rfl) _ _ (by rfl) (wb := w9.drew) (by rfl) HS1_.out HBW1.out (by rfl) (HLX.out.below HBW1.out) HDC.out.xl HDC.out.xnil hb2_ ?_; intro p2 n2 c2 u2 HS2_ HBW2; obtain ⟨pb, hpn, hM4⟩ := HXD.out.ml.fresh HBW2.out HS2_.out; have HM4 := Lib.hid hM4; clear hM4 hpn)
                | (refine step_app_lv (by rfl) _ _ (by rfl) (wb := w9.drew) (by rfl) HE0.out HB0_.out (by rfl) (HSW.out.lv.below HB0_.out) HSW.out.len HSW.out.nil hb1_ ?_; intro p1 n1 c1 u1 HS1_ HBW1)
                | fail))
              all_goals
                clear CC x2 x23
                go_wp2
                go_roundw
                case rel => exact ⟨k + 1, ar2, lb, qa, qn, qc, by go_num, by omega, rfl, har2, rfl, rfl, _, R ++ a.rows, (R ++ a.rows).length, _, HQ.out.done HK1.out (by have := HXF.out; omega) (by have := HL1.out; rw [HS1.out] at this; exact this) rfl HXF4.out (⟨p2, pb, 0, n2, c2, ([] ++ R) ++ a.rows⟩ : ME) rfl, HMQ.out.less (H' := []) (fun e he => by cases he)⟩
                case measure => simp [intOf]; omega
            · have HE1 := Lib.hid (show Dk.ec (Jn.batchL D1 (3 : Nat) R s_ a.rows).e = 9 from by rw [e1]; rfl)
              have HML9 := Lib.hid (show (M : List ME).length ≤ 1000000 from by first | exact HML.out | exact Nat.zero_le _)
              have HK1 := Lib.hid k1_
              have HL1 := Lib.hid l1
              have HR1 := Lib.hid r1
              have HS1 := Lib.hid s1
              clear e1 l0 l1 r1 s1 k1_
              go_wp2_with (first
                | (go_at_call 17; with_reducible refine (mx_batch HXA.out HDC.out.lv HDC.out.xl HXF5.out HQB.out (c := 9) HE1.out rfl HR1.out HS1.out).mono ?_; rintro _ w9 ⟨rfl, hX⟩; have HXB := Lib.hid hX; clear hX; obtain ⟨x0, x1, x2, x3, x4⟩ := HXB.out.cells)
                | (go_at_call 33; with_reducible refine (mx_all HX.out).mono ?_; rintro _ w9 ⟨wa, wb, wn, wc9, rfl, hwn, hX⟩; have HXA := Lib.hid hX; have HWN := Lib.hid hwn; obtain ⟨f0, f1, f2, f3, f4⟩ := hX.cells; clear hX hwn))
              have HXD := Lib.hid (HXB.out.quiet (below_drew (Below.refl _ _)))
              have x2 := HXD.out.cells.2.2.1
              have HE0 := Lib.hid (sown_lit w9.drew (Nat.le_refl _) [] (by decide))
              have HB0_ := Lib.hid (below_new w9.drew (.cells (sv []).toArray 9))
              have CC := Lib.hid (fun (w' : World) (hb : Below w9.drew.heap.size w9.drew w') => (hb.cell (p := ⟨wr.heap.size, 2, none⟩) HXD.out.x.lt).trans x2)
              have HSW := Lib.hid (HXD.out.ml.held (⟨wa, wb, 0, wn, wc9, R⟩ : ME) (.inr List.mem_cons_self))
              have HLX := Lib.hid (HDC.out.lv.below HXD.out.ml.below)
              have hb1_ : ([] : List (List UInt8)).length + wn ≤ 1000000000 := by have := HWN.out; have := Jn.forms_count R; have := HFR.out; show 0 + wn ≤ _; omega
              have hb2_ : ([] ++ R).length + xn ≤ 1000000000 := by have := HWN.out; have := Jn.forms_count R; have := HFR.out; have := HDC.out.xl; have := HA.out.2.1; show R.length + xn ≤ _; omega
              clear x0 x1 x3 x4
              go_region_held3 (fun wz => wz.cell? ⟨wr.heap.size, 2, none⟩ = some (.slice xa xn xcap)) (first | exact x2 | exact CC.out _ HB0_.out | exact CC.out _ HBW1.out | exact CC.out _ HBW2.out | exact CC.out _ (below_al HBW2.out (Nat.le_refl _) _) | exact x23 | fail) ((first
                | (refine step_me_app (by rfl) _ _ (by rfl) (e := (⟨p2, pb, 0, n2, c2, ([] ++ R) ++ a.rows⟩ : ME)) HM4.out (.inr List.mem_cons_self) (by rfl) (by rfl) HML9.out ?_; intro qa qn qc u3 HMQ HQN HBK; have x23 : u3.cell? ⟨wr.heap.size, 2, none⟩ = some (.slice xa xn xcap) := (HBK.out _ _ ((HBW2.out.block _ HXD.out.x.lt).trans HXD.out.x)).cell (j := 2) rfl)
                | (refine step_app_lv (by rfl) _ _ (by rfl) (wb := w9.drew) (by rfl) HS1_.out HBW1.out (by rfl) (HLX.out.below HBW1.out) HDC.out.xl HDC.out.xnil hb2_ ?_; intro p2 n2 c2 u2 HS2_ HBW2; obtain ⟨pb, hpn, hM4⟩ := HXD.out.ml.fresh HBW2.out HS2_.out; have HM4 := Lib.hid hM4; clear hM4 hpn)
                | (refine step_app_lv (by rfl) _ _ (by rfl) (wb := w9.drew) (by rfl) HE0.out HB0_.out (by rfl) (HSW.out.lv.below HB0_.out) HSW.out.len HSW.out.nil hb1_ ?_; intro p1 n1 c1 u1 HS1_ HBW1)
                | fail))
              all_goals
                clear CC x2 x23
                go_wp2
                go_roundw
                case rel => exact ⟨k + 1, ar2, lb, qa, qn, qc, by go_num, by omega, rfl, har2, rfl, rfl, _, R ++ a.rows, s_, M ++ [(⟨p2, pb, 0, n2, c2, ([] ++ R) ++ a.rows⟩ : ME)], HQ.out.also HK1.out (by have := HXF.out; omega) HL1.out (List.take_append_of_le_length HQ.out.li.le) HXF4.out (⟨p2, pb, 0, n2, c2, ([] ++ R) ++ a.rows⟩ : ME) HXF4.out, HMQ.out.less (H' := []) (fun e he => by cases he)⟩
                case measure => simp [intOf]; omega
            · have HE1 := Lib.hid (show Dk.ec (Jn.batchL D1 (3 : Nat) R s_ a.rows).e = 8 from by rw [e1]; rfl)
              have HML9 := Lib.hid (show (M : List ME).length ≤ 1000000 from by first | exact HML.out | exact Nat.zero_le _)
              have HO1 := Lib.hid o1
              clear e1 l0 o1
              go_wp2_with (first
                | (go_at_call 17; with_reducible refine (mx_batch HXA.out HDC.out.lv HDC.out.xl HXF5.out HQB.out (c := 8) HE1.out rfl rfl rfl).mono ?_; rintro _ w9 ⟨rfl, hX⟩; have HXB := Lib.hid hX; clear hX; obtain ⟨x0, x1, x2, x3, x4⟩ := HXB.out.cells)
                | (go_at_call 33; with_reducible refine (mx_all HX.out).mono ?_; rintro _ w9 ⟨wa, wb, wn, wc9, rfl, hwn, hX⟩; have HXA := Lib.hid hX; have HWN := Lib.hid hwn; obtain ⟨f0, f1, f2, f3, f4⟩ := hX.cells; clear hX hwn))
              have HXD := Lib.hid (HXB.out.quiet (below_drew (Below.refl _ _)))
              have x2 := HXD.out.cells.2.2.1
              have HE0 := Lib.hid (sown_lit w9.drew (Nat.le_refl _) [] (by decide))
              have HB0_ := Lib.hid (below_new w9.drew (.cells (sv []).toArray 9))
              have CC := Lib.hid (fun (w' : World) (hb : Below w9.drew.heap.size w9.drew w') => (hb.cell (p := ⟨wr.heap.size, 2, none⟩) HXD.out.x.lt).trans x2)
              have HSW := Lib.hid (HXD.out.ml.held (⟨wa, wb, 0, wn, wc9, R⟩ : ME) (.inr List.mem_cons_self))
              have HLX := Lib.hid (HDC.out.lv.below HXD.out.ml.below)
              have hb1_ : ([] : List (List UInt8)).length + wn ≤ 1000000000 := by have := HWN.out; have := Jn.forms_count R; have := HFR.out; show 0 + wn ≤ _; omega
              have hb2_ : ([] ++ R).length + xn ≤ 1000000000 := by have := HWN.out; have := Jn.forms_count R; have := HFR.out; have := HDC.out.xl; have := HA.out.2.1; show R.length + xn ≤ _; omega
              clear x0 x1 x3 x4
              go_region_held3 (fun wz => wz.cell? ⟨wr.heap.size, 2, none⟩ = some (.slice xa xn xcap)) (first | exact x2 | exact CC.out _ HB0_.out | exact CC.out _ HBW1.out | exact CC.out _ HBW2.out | exact CC.out _ (below_al HBW2.out (Nat.le_refl _) _) | exact x23 | fail) ((first
                | (refine step_me_app (by rfl) _ _ (by rfl) (e := (⟨p2, pb, 0, n2, c2, ([] ++ R) ++ a.rows⟩ : ME)) HM4.out (.inr List.mem_cons_self) (by rfl) (by rfl) HML9.out ?_; intro qa qn qc u3 HMQ HQN HBK; have x23 : u3.cell? ⟨wr.heap.size, 2, none⟩ = some (.slice xa xn xcap) := (HBK.out _ _ ((HBW2.out.block _ HXD.out.x.lt).trans HXD.out.x)).cell (j := 2) rfl)
                | (refine step_app_lv (by rfl) _ _ (by rfl) (wb := w9.drew) (by rfl) HS1_.out HBW1.out (by rfl) (HLX.out.below HBW1.out) HDC.out.xl HDC.out.xnil hb2_ ?_; intro p2 n2 c2 u2 HS2_ HBW2; obtain ⟨pb, hpn, hM4⟩ := HXD.out.ml.fresh HBW2.out HS2_.out; have HM4 := Lib.hid hM4; clear hM4 hpn)
                | (refine step_app_lv (by rfl) _ _ (by rfl) (wb := w9.drew) (by rfl) HE0.out HB0_.out (by rfl) (HSW.out.lv.below HB0_.out) HSW.out.len HSW.out.nil hb1_ ?_; intro p1 n1 c1 u1 HS1_ HBW1)
                | fail))
              all_goals
                clear CC x2 x23
                obtain ⟨O, hag⟩ := HQ.out.again2 HO1.out hk30 (⟨p2, pb, 0, n2, c2, ([] ++ R) ++ a.rows⟩ : ME) rfl HXF4.out
                obtain ⟨jj, hpj⟩ := hag.parse
                have HAG := Lib.hid hag
                have HPJ := Lib.hid hpj
                obtain ⟨on, hon⟩ : ∃ on, O.length = on := ⟨_, rfl⟩
                have HON := Lib.hid hon
                have HON2 := Lib.hid (le_of_eq_le hon hag.len)
                have HML2 := Lib.hid (Nat.le_trans hag.ml ml_big)
                have HT0 := HMQ
                clear hag hpj hon
                go_wp2_with (first
                  | (go_at_call 36; with_reducible refine (ml_found HT6.out List.mem_cons_self HON2.out HML2.out HAG.out.each HAG.out.has).mono ?_; rintro _ w10 ⟨rfl, hJ⟩; have HT7 := Lib.hid hJ; clear hJ)
                  | (go_at_call 33; with_reducible refine (ml_all_eq HT5.out HON.out).mono ?_; rintro _ w9 ⟨za, zb, zc, rfl, hJ⟩; have HT6 := Lib.hid hJ; clear hJ)
                  | (go_at_call 33; with_reducible refine (ml_all_eq HT4.out HON.out).mono ?_; rintro _ w9 ⟨ya, yb, yc, rfl, hJ⟩; have HT5 := Lib.hid hJ; clear hJ)
                  | (go_at_call 34; with_reducible refine (ml_sure HT4.out HON.out).mono ?_; rintro _ w9 ⟨rfl, rfl⟩; skip)
                  | (go_at_call 13; with_reducible refine (ml_open HT3.out (HE.out.below HB2.out) 3 rfl (by decide) HAG.out.down HPJ.out).mono ?_; rintro _ w9 ⟨lb2, rfl, hJ⟩; have HT4 := Lib.hid hJ; clear hJ)
                  | (go_at_call 23; with_reducible refine (ml_start HT2.out).mono ?_; rintro _ w9 ⟨⟨v9, rfl⟩, hJ⟩; have HT3 := Lib.hid hJ; clear hJ)
                  | (go_at_call 25; with_reducible refine (ml_lose HT1.out (by decide)).mono ?_; rintro _ w9 ⟨⟨v9, rfl⟩, hJ⟩; have HT2 := Lib.hid hJ; clear hJ)
                  | (go_at_call 35; with_reducible refine (ml_arm_nil HT0.out (by decide)).mono ?_; rintro _ w9 ⟨⟨v9, rfl⟩, hJ⟩; have HT1 := Lib.hid hJ; clear hJ))
                go_roundw
                case rel => exact ⟨k + 1, ar2, lb2, some ⟨w10.heap.size, 0, none⟩, 1, 1, by go_num, by omega, rfl, har2, rfl, rfl, _, O, O.length, [⟨za, zb, 0, on, zc, O⟩], HAG.out.next _ rfl, (HT7.out.lit (e := ⟨za, zb, 0, on, zc, O⟩) (.inr List.mem_cons_self)).less (fun e he => by cases he)⟩
                case measure => simp [intOf]; omega
          by_cases r5 : r = 5
          · subst r5
            rcases Jn.rewriteL_out HQ.out.li (by decide) a.rows (by have := HXF.out; omega) with ⟨e1, l1, r1, s1, k1_⟩ | ⟨e1, l0, l1, r1, s1, k1_⟩ | ⟨e1, l0, o1⟩
            · have HE1 := Lib.hid (show Dk.ec (Jn.rewriteL D1 (3 : Nat) ((3 + 1 : Nat) : Int) R s_ a.rows).e = 0 from by rw [e1]; rfl)
              have HML9 := Lib.hid (show ([] : List ME).length ≤ 1000000 from by first | exact HML.out | exact Nat.zero_le _)
              have HK1 := Lib.hid k1_
              have HL1 := Lib.hid l1
              have HR1 := Lib.hid r1
              have HS1 := Lib.hid s1
              clear e1 l1 r1 s1 k1_
              go_wp2_with (first
                | (at_builtin; refine wpList_me_app rfl (.tmp 114) (.tmp 117) rfl (e := (⟨xa, xb, xoff, xn, xcap, a.rows⟩ : ME)) HMB.out (.inr List.mem_cons_self) rfl rfl HML9.out ?_; intro qa qn qc w9 HMQ HQN HBK; skip)
                | (go_at_call 19; with_reducible refine (mx_rewrite HXA.out HDC.out.lv HDC.out.xl HDC.out.xnil HXF5.out HQB.out (c := 0) HE1.out rfl HR1.out HS1.out).mono ?_; rintro _ w9 ⟨rfl, hX⟩; have HMB := Lib.hid (hX.ml.none_.arg HDC.out.lv HDC.out.xl HDC.out.xnil); obtain ⟨x0, x1, x2, x3, x4⟩ := hX.cells; clear hX x0 x1 x3 x4)
                | (go_at_call 33; with_reducible refine (mx_all HX.out).mono ?_; rintro _ w9 ⟨wa, wb, wn, wc9, rfl, hwn, hX⟩; have HXA := Lib.hid hX; have HWN := Lib.hid hwn; obtain ⟨f0, f1, f2, f3, f4⟩ := hX.cells; clear hX hwn))
              go_roundw
              case rel => exact ⟨k + 1, ar2, lb, qa, qn, qc, by go_num, by omega, rfl, har2, rfl, rfl, _, a.rows, a.rows.length, _, HQ.out.done HK1.out (by have := HXF.out; omega) (by have := HL1.out; rw [HS1.out] at this; exact this) rfl HXF3.out (⟨xa, xb, xoff, xn, xcap, a.rows⟩ : ME) rfl, HMQ.out.less (H' := []) (fun e he => by cases he)⟩
              case measure => simp [intOf]; omega
            · have HE1 := Lib.hid (show Dk.ec (Jn.rewriteL D1 (3 : Nat) ((3 + 1 : Nat) : Int) R s_ a.rows).e = 9 from by rw [e1]; rfl)
              have HML9 := Lib.hid (show (M : List ME).length ≤ 1000000 from by first | exact HML.out | exact Nat.zero_le _)
              have HK1 := Lib.hid k1_
              have HL1 := Lib.hid l1
              have HR1 := Lib.hid r1
              have HS1 := Lib.hid s1
              clear e1 l0 l1 r1 s1 k1_
              go_wp2_with (first
                | (at_builtin; refine wpList_me_app rfl (.tmp 114) (.tmp 117) rfl (e := (⟨xa, xb, xoff, xn, xcap, a.rows⟩ : ME)) HMB.out (.inr List.mem_cons_self) rfl rfl HML9.out ?_; intro qa qn qc w9 HMQ HQN HBK; skip)
                | (go_at_call 19; with_reducible refine (mx_rewrite HXA.out HDC.out.lv HDC.out.xl HDC.out.xnil HXF5.out HQB.out (c := 9) HE1.out rfl HR1.out HS1.out).mono ?_; rintro _ w9 ⟨rfl, hX⟩; have HMB := Lib.hid (hX.ml.arg HDC.out.lv HDC.out.xl HDC.out.xnil); obtain ⟨x0, x1, x2, x3, x4⟩ := hX.cells; clear hX x0 x1 x3 x4)
                | (go_at_call 33; with_reducible refine (mx_all HX.out).mono ?_; rintro _ w9 ⟨wa, wb, wn, wc9, rfl, hwn, hX⟩; have HXA := Lib.hid hX; have HWN := Lib.hid hwn; obtain ⟨f0, f1, f2, f3, f4⟩ := hX.cells; clear hX hwn))
              go_roundw
              case rel => exact ⟨k + 1, ar2, lb, qa, qn, qc, by go_num, by omega, rfl, har2, rfl, rfl, _, R, s_, M ++ [(⟨xa, xb, xoff, xn, xcap, a.rows⟩ : ME)], HQ.out.also HK1.out (by have := HXF.out; omega) HL1.out rfl HFR.out (⟨xa, xb, xoff, xn, xcap, a.rows⟩ : ME) HXF3.out, HMQ.out.less (H' := []) (fun e he => by cases he)⟩
              case measure => simp [intOf]; omega
            · have HE1 := Lib.hid (show Dk.ec (Jn.rewriteL D1 (3 : Nat) ((3 + 1 : Nat) : Int) R s_ a.rows).e = 8 from by rw [e1]; rfl)
              have HML9 := Lib.hid (show (M : List ME).length ≤ 1000000 from by first | exact HML.out | exact Nat.zero_le _)
              have HO1 := Lib.hid o1
              clear e1 l0 o1
              go_wp2_with (first
                | (go_at_call 36; with_reducible refine (ml_found HT6.out List.mem_cons_self HON2.out HML2.out HAG.out.each HAG.out.has).mono ?_; rintro _ w10 ⟨rfl, hJ⟩; have HT7 := Lib.hid hJ; clear hJ)
                | (go_at_call 33; with_reducible refine (ml_all_eq HT5.out HON.out).mono ?_; rintro _ w9 ⟨za, zb, zc, rfl, hJ⟩; have HT6 := Lib.hid hJ; clear hJ)
                | (go_at_call 33; with_reducible refine (ml_all_eq HT4.out HON.out).mono ?_; rintro _ w9 ⟨ya, yb, yc, rfl, hJ⟩; have HT5 := Lib.hid hJ; clear hJ)
                | (go_at_call 34; with_reducible refine (ml_sure HT4.out HON.out).mono ?_; rintro _ w9 ⟨rfl, rfl⟩; skip)
                | (go_at_call 13; with_reducible refine (ml_open HT3.out (HE.out.below HB2.out) 3 rfl (by decide) HAG.out.down HPJ.out).mono ?_; rintro _ w9 ⟨lb2, rfl, hJ⟩; have HT4 := Lib.hid hJ; clear hJ)
                | (go_at_call 23; with_reducible refine (ml_start HT2.out).mono ?_; rintro _ w9 ⟨⟨v9, rfl⟩, hJ⟩; have HT3 := Lib.hid hJ; clear hJ)
                | (go_at_call 25; with_reducible refine (ml_lose HT1.out (by decide)).mono ?_; rintro _ w9 ⟨⟨v9, rfl⟩, hJ⟩; have HT2 := Lib.hid hJ; clear hJ)
                | (go_at_call 35; with_reducible refine (ml_arm_nil HT0.out (by decide)).mono ?_; rintro _ w9 ⟨⟨v9, rfl⟩, hJ⟩; have HT1 := Lib.hid hJ; clear hJ)
                | (at_builtin; refine wpList_me_app rfl (.tmp 114) (.tmp 117) rfl (e := (⟨xa, xb, xoff, xn, xcap, a.rows⟩ : ME)) HMB.out (.inr List.mem_cons_self) rfl rfl HML9.out ?_; intro qa qn qc w9 HMQ HQN HBK; obtain ⟨O, hag⟩ := HQ.out.again3 HO1.out hk30 (⟨xa, xb, xoff, xn, xcap, a.rows⟩ : ME) HXF3.out; obtain ⟨jj, hpj⟩ := hag.parse; have HAG := Lib.hid hag; have HPJ := Lib.hid hpj; obtain ⟨on, hon⟩ : ∃ on, O.length = on := ⟨_, rfl⟩; have HON := Lib.hid hon; have HON2 := Lib.hid (le_of_eq_le hon hag.len); have HML2 := Lib.hid (Nat.le_trans hag.ml ml_big); have HT0 := HMQ; clear hag hpj hon)
                | (go_at_call 19; with_reducible refine (mx_rewrite HXA.out HDC.out.lv HDC.out.xl HDC.out.xnil HXF5.out HQB.out (c := 8) HE1.out rfl rfl rfl).mono ?_; rintro _ w9 ⟨rfl, hX⟩; have HMB := Lib.hid (hX.ml.arg HDC.out.lv HDC.out.xl HDC.out.xnil); obtain ⟨x0, x1, x2, x3, x4⟩ := hX.cells; clear hX x0 x1 x3 x4)
                | (go_at_call 33; with_reducible refine (mx_all HX.out).mono ?_; rintro _ w9 ⟨wa, wb, wn, wc9, rfl, hwn, hX⟩; have HXA := Lib.hid hX; have HWN := Lib.hid hwn; obtain ⟨f0, f1, f2, f3, f4⟩ := hX.cells; clear hX hwn))
              go_roundw
              case rel => exact ⟨k + 1, ar2, lb2, some ⟨w10.heap.size, 0, none⟩, 1, 1, by go_num, by omega, rfl, har2, rfl, rfl, _, O, O.length, [⟨za, zb, 0, on, zc, O⟩], HAG.out.next _ rfl, (HT7.out.lit (e := ⟨za, zb, 0, on, zc, O⟩) (.inr List.mem_cons_self)).less (fun e he => by cases he)⟩
              case measure => simp [intOf]; omega
          by_cases r6 : r = 6
          · subst r6
            go_wp2_with (first
              | (go_at_call 36; with_reducible refine (ml_found HT6.out List.mem_cons_self HON2.out HML2.out HAG.out.each HAG.out.has).mono ?_; rintro _ w10 ⟨rfl, hJ⟩; have HT7 := Lib.hid hJ; clear hJ)
              | (go_at_call 33; with_reducible refine (ml_all_eq HT5.out HON.out).mono ?_; rintro _ w9 ⟨za, zb, zc, rfl, hJ⟩; have HT6 := Lib.hid hJ; clear hJ)
              | (go_at_call 33; with_reducible refine (ml_all_eq HT4.out HON.out).mono ?_; rintro _ w9 ⟨ya, yb, yc, rfl, hJ⟩; have HT5 := Lib.hid hJ; clear hJ)
              | (go_at_call 34; with_reducible refine (ml_sure HT4.out HON.out).mono ?_; rintro _ w9 ⟨rfl, rfl⟩; skip)
              | (go_at_call 13; with_reducible refine (ml_open HT3.out (HE.out.below HB2.out) 3 rfl (by decide) HAG.out.down HPJ.out).mono ?_; rintro _ w9 ⟨lb2, rfl, hJ⟩; have HT4 := Lib.hid hJ; clear hJ)
              | (go_at_call 23; with_reducible refine (ml_start HT2.out).mono ?_; rintro _ w9 ⟨⟨v9, rfl⟩, hJ⟩; have HT3 := Lib.hid hJ; clear hJ)
              | (go_at_call 25; with_reducible refine (ml_lose HT1.out (by decide)).mono ?_; rintro _ w9 ⟨⟨v9, rfl⟩, hJ⟩; have HT2 := Lib.hid hJ; clear hJ)
              | (go_at_call 35; with_reducible refine (ml_arm_nil HT0.out (by decide)).mono ?_; rintro _ w9 ⟨⟨v9, rfl⟩, hJ⟩; have HT1 := Lib.hid hJ; clear hJ)
              | (go_at_call 21; with_reducible refine (ml_crash HXA.out.ml HKX.out).mono ?_; rintro _ w9 ⟨⟨v9, rfl⟩, hJ⟩; have HMQ := Lib.hid hJ; clear hJ; obtain ⟨O, hag⟩ := HQ.out.again (Jn.qi_crash HQ.out.li.qi a.keep rfl) hk30; obtain ⟨jj, hpj⟩ := hag.parse; have HAG := Lib.hid hag; have HPJ := Lib.hid hpj; obtain ⟨on, hon⟩ : ∃ on, O.length = on := ⟨_, rfl⟩; have HON := Lib.hid hon; have HON2 := Lib.hid (le_of_eq_le hon hag.len); have HML2 := Lib.hid (Nat.le_trans hag.ml ml_big); have HT0 := HMQ; clear hag hpj hon)
              | (go_at_call 33; with_reducible refine (mx_all HX.out).mono ?_; rintro _ w9 ⟨wa, wb, wn, wc9, rfl, hwn, hX⟩; have HXA := Lib.hid hX; have HWN := Lib.hid hwn; obtain ⟨f0, f1, f2, f3, f4⟩ := hX.cells; clear hX hwn))
            go_roundw
            case rel => exact ⟨k + 1, ar2, lb2, some ⟨w10.heap.size, 0, none⟩, 1, 1, by go_num, by omega, rfl, har2, rfl, rfl, _, O, O.length, [⟨za, zb, 0, on, zc, O⟩], HAG.out.next _ rfl, (HT7.out.lit (e := ⟨za, zb, 0, on, zc, O⟩) (.inr List.mem_cons_self)).less (fun e he => by cases he)⟩
            case measure => simp [intOf]; omega
          by_cases r7 : r = 7
          · subst r7
            have HPK := Lib.hid (fun (w : World) => pick_3 Z HZ.out.1 HZ.out.2 w)
            have hz3 : Z % 3 ≤ 9223372036854775807 := by omega
            obtain ⟨z3, hzz⟩ : ∃ z3, Z % 3 = z3 := ⟨_, rfl⟩
            rw [hzz] at HPK hz3
            clear hzz
            go_wp2_with (first
              | (go_at_call 25; with_reducible refine (ml_lose HXA.out.ml hz3).mono ?_; rintro _ w9 ⟨⟨v9, rfl⟩, hJ⟩; have HMQ := Lib.hid hJ; clear hJ)
              | (go_at_call 26; with_reducible refine (HPK.out _).mono ?_; rintro _ w9 ⟨rfl, rfl⟩; skip)
              | (go_at_call 33; with_reducible refine (mx_all HX.out).mono ?_; rintro _ w9 ⟨wa, wb, wn, wc9, rfl, hwn, hX⟩; have HXA := Lib.hid hX; have HWN := Lib.hid hwn; obtain ⟨f0, f1, f2, f3, f4⟩ := hX.cells; clear hX hwn))
            go_roundw
            case rel => exact ⟨k + 1, ar2, lb, va, vn, vc, by go_num, by omega, rfl, har2, rfl, rfl, _, R, s_, M, HQ.out.lose z3, HMQ.out.less (H' := []) (fun e he => by cases he)⟩
            case measure => simp [intOf]; omega
          have e3 : (r == 3) = false := by simpa using r3
          have e4 : (r == 4) = false := by simpa using r4
          have e5 : (r == 5) = false := by simpa using r5
          have e6 : (r == 6) = false := by simpa using r6
          have e7 : (r == 7) = false := by simpa using r7
          have hfl1 : (Jn.forms [t.data.toList]).length ≤ 216 := by rw [Jn.forms_one, Jn.form_length]; have := HTL.out; have := Lib.size_eq t; omega
          have HF1 := Lib.hid (show (Jn.forms (R ++ [t.data.toList])).length ≤ 1400 * (k + 1) from by rw [Jn.forms_append, List.length_append]; have := HQ.out.fl; omega)
          rcases Jn.add_out HQ.out.li (by decide) [t.data.toList] (by simp) (by have := HQ.out.fl; omega) with ⟨e1, l1, k1_⟩ | ⟨e1, l0, o1⟩
          · have HE1 := Lib.hid (show Dk.ec (Dk.write D1 (3 : Nat) ((16 + (Jn.forms R).length : Nat) : Int) (Jn.forms [t.data.toList])).1 = 0 from by rw [e1]; rfl)
            have HR1 := Lib.hid (show Jn.addRows (Dk.write D1 (3 : Nat) ((16 + (Jn.forms R).length : Nat) : Int) (Jn.forms [t.data.toList])).1 R [t.data.toList] = R ++ [t.data.toList] from by rw [e1]; exact if_pos rfl)
            have HK1 := Lib.hid k1_
            have HL1 := Lib.hid l1
            have HTL3 := Lib.hid (show t.size ≤ 300000 from by have := HTL.out; omega)
            clear e1 l1 k1_
            go_wp2_with (first
              | (go_at_call 28; with_reducible refine (ml_append HXA.out.ml t HTL3.out HQB.out (c := 0) HE1.out rfl HR1.out).mono ?_; rintro _ w9 ⟨rfl, hJ⟩; have HMQ := Lib.hid hJ; clear hJ)
              | (go_at_call 33; with_reducible refine (mx_all HX.out).mono ?_; rintro _ w9 ⟨wa, wb, wn, wc9, rfl, hwn, hX⟩; have HXA := Lib.hid hX; have HWN := Lib.hid hwn; obtain ⟨f0, f1, f2, f3, f4⟩ := hX.cells; clear hX hwn))
            go_roundw
            case rel => exact ⟨k + 1, ar2, lb, va, vn, vc, by go_num, by omega, rfl, har2, rfl, rfl, _, R ++ [t.data.toList], s_, M, HQ.out.more HK1.out (by omega) HL1.out (List.take_append_of_le_length HQ.out.li.le) HF1.out, HMQ.out.less (H' := []) (fun e he => by cases he)⟩
            case measure => simp [intOf]; omega
          · have HE1 := Lib.hid (show Dk.ec (Dk.write D1 (3 : Nat) ((16 + (Jn.forms R).length : Nat) : Int) (Jn.forms [t.data.toList])).1 = 8 from by rw [e1]; rfl)
            have HO1 := Lib.hid o1
            have HTL3 := Lib.hid (show t.size ≤ 300000 from by have := HTL.out; omega)
            clear e1 l0 o1
            go_wp2_with (first
              | (go_at_call 36; with_reducible refine (ml_found HT6.out List.mem_cons_self HON2.out HML2.out HAG.out.each HAG.out.has).mono ?_; rintro _ w10 ⟨rfl, hJ⟩; have HT7 := Lib.hid hJ; clear hJ)
              | (go_at_call 33; with_reducible refine (ml_all_eq HT5.out HON.out).mono ?_; rintro _ w9 ⟨za, zb, zc, rfl, hJ⟩; have HT6 := Lib.hid hJ; clear hJ)
              | (go_at_call 33; with_reducible refine (ml_all_eq HT4.out HON.out).mono ?_; rintro _ w9 ⟨ya, yb, yc, rfl, hJ⟩; have HT5 := Lib.hid hJ; clear hJ)
              | (go_at_call 34; with_reducible refine (ml_sure HT4.out HON.out).mono ?_; rintro _ w9 ⟨rfl, rfl⟩; skip)
              | (go_at_call 13; with_reducible refine (ml_open HT3.out (HE.out.below HB2.out) 3 rfl (by decide) HAG.out.down HPJ.out).mono ?_; rintro _ w9 ⟨lb2, rfl, hJ⟩; have HT4 := Lib.hid hJ; clear hJ)
              | (go_at_call 23; with_reducible refine (ml_start HT2.out).mono ?_; rintro _ w9 ⟨⟨v9, rfl⟩, hJ⟩; have HT3 := Lib.hid hJ; clear hJ)
              | (go_at_call 25; with_reducible refine (ml_lose HT1.out (by decide)).mono ?_; rintro _ w9 ⟨⟨v9, rfl⟩, hJ⟩; have HT2 := Lib.hid hJ; clear hJ)
              | (go_at_call 35; with_reducible refine (ml_arm_nil HT0.out (by decide)).mono ?_; rintro _ w9 ⟨⟨v9, rfl⟩, hJ⟩; have HT1 := Lib.hid hJ; clear hJ)
              | (go_at_call 28; with_reducible refine (ml_append HXA.out.ml t HTL3.out HQB.out (c := 8) HE1.out rfl rfl).mono ?_; rintro _ w9 ⟨rfl, hJ⟩; have HMQ := Lib.hid hJ; clear hJ; obtain ⟨O, hag⟩ := HQ.out.again HO1.out hk30; obtain ⟨jj, hpj⟩ := hag.parse; have HAG := Lib.hid hag; have HPJ := Lib.hid hpj; obtain ⟨on, hon⟩ : ∃ on, O.length = on := ⟨_, rfl⟩; have HON := Lib.hid hon; have HON2 := Lib.hid (le_of_eq_le hon hag.len); have HML2 := Lib.hid (Nat.le_trans hag.ml ml_big); have HT0 := HMQ; clear hag hpj hon)
              | (go_at_call 33; with_reducible refine (mx_all HX.out).mono ?_; rintro _ w9 ⟨wa, wb, wn, wc9, rfl, hwn, hX⟩; have HXA := Lib.hid hX; have HWN := Lib.hid hwn; obtain ⟨f0, f1, f2, f3, f4⟩ := hX.cells; clear hX hwn))
            go_roundw
            case rel => exact ⟨k + 1, ar2, lb2, some ⟨w10.heap.size, 0, none⟩, 1, 1, by go_num, by omega, rfl, har2, rfl, rfl, _, O, O.length, [⟨za, zb, 0, on, zc, O⟩], HAG.out.next _ rfl, (HT7.out.lit (e := ⟨za, zb, 0, on, zc, O⟩) (.inr List.mem_cons_self)).less (fun e he => by cases he)⟩
            case measure => simp [intOf]; omega
    · obtain rfl : k = n := by omega
      go_wp2
      go_ret
      exact ⟨rfl, below_to HB2.out (Nat.le_refl _) hm.below⟩
set_option maxHeartbeats 8000000 in
set_option maxRecDepth 100000 in
theorem jlasts_law (X : List Jn.Deed) (n : Nat) (hn : X.length = n) (ya : Option Addr) (b off cap : Nat) {ka : Option Addr} {kb ko kn kc : Nat} {ks : List Int} (w : World) (hl : LD w ya b off X) (hk : KL w ka kb ko kn kc ks) (hkr : ∀ z ∈ ks, z ≤ 9223372036854775807) (hE : EnvJ w) :
    Calls Tryd.prog 4 #[.slice ya n cap, .slice ka kn kc] w fun e w' => e = .returned (.bool true) ∧ Below w.heap.size w w' := by
  cases hf : Jn.few X with
  | false =>
    have C0 := Lib.hid (small_any w hE)
    have HL := Lib.hid hl
    have HN := Lib.hid hn
    have HF := Lib.hid hf
    clear hf hn hl hk hkr hE
    go_enter Tryd.func4, Tryd.ntmps4
    go_wp2_with (first
      | (go_at_call 10; with_reducible refine (few_of X n HN.out ya b off cap _ (HL.out.below HB0.out) HF.out).mono ?_; rintro _ w3 ⟨rfl, hb1⟩; have HB2 := Lib.hid (below_to HB0.out (Nat.le_refl _) hb1); clear hb1)
      | (go_at_call 9; with_reducible refine (C0.out).mono ?_; rintro _ w2 ⟨rfl, hb0⟩; have HB0 := Lib.hid hb0; clear hb0))
    go_ret
    exact ⟨rfl, HB2.out⟩
  | true =>
    by_cases hkn : kn ≤ 10
    · exact jlasts_yes X n hn ya b off cap w hl hk hkr hE hf hkn
    · have C0 := Lib.hid (small_any w hE)
      have HL := Lib.hid hl
      have HN := Lib.hid hn
      have HF := Lib.hid hf
      have k1 : decide (10 < kn) = true := by simp; omega
      have k1i : (10 : Int) < (kn : Int) := by omega
      clear hf hn hl hk hkr hE
      go_enter Tryd.func4, Tryd.ntmps4
      go_wp2_with (first
        | (go_at_call 10; with_reducible refine (few_of X n HN.out ya b off cap _ (HL.out.below HB0.out) HF.out).mono ?_; rintro _ w3 ⟨rfl, hb1⟩; have HB2 := Lib.hid (below_to HB0.out (Nat.le_refl _) hb1); clear hb1)
        | (go_at_call 9; with_reducible refine (C0.out).mono ?_; rintro _ w2 ⟨rfl, hb0⟩; have HB0 := Lib.hid hb0; clear hb0))
      go_ret
      exact ⟨rfl, HB2.out⟩
end Go.Proofs.YtbpodclodflgfaaDoor
