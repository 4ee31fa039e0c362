/-
  JournalSpoils: the law returns true.
-/
import Derived.Test.YtbpodclodflgfaaDoorJSq
namespace Go.Proofs.YtbpodclodflgfaaDoor
open Go Go.RowKit
def deed1 (X0 : List (List UInt8)) : List Jn.Deed := [⟨0, [], X0, [], 0⟩]
theorem few_one (w : World) (X0 : List (List UInt8)) (xa0 : Option Addr) (b0 o0 n0 c0 : Nat) (h0 : RL w xa0 b0 o0 n0 c0 X0) {q : Bool} (hq : Jn.few (deed1 X0) = q) :
    Calls Tryd.prog 10 #[.slice (some ⟨w.heap.size, 0, none⟩) 1 1] (w.alloc (.cells #[.int .i64 0, .string ⟨#[]⟩, .slice xa0 n0 c0, .slice none 0 0, .int .i64 0] 39)) fun e w' => e = .returned (.bool q) ∧ Below w.heap.size w w' := by
  have hb := below_new w (.cells #[.int .i64 0, .string ⟨#[]⟩, .slice xa0 n0 c0, .slice none 0 0, .int .i64 0] 39)
  have hB := Blk.made w #[.int .i64 0, .string ⟨#[]⟩, .slice xa0 n0 c0, .slice none 0 0, .int .i64 0] 39
  have hl : LD (w.alloc (.cells #[.int .i64 0, .string ⟨#[]⟩, .slice xa0 n0 c0, .slice none 0 0, .int .i64 0] 39)) (some ⟨w.heap.size, 0, none⟩) w.heap.size 0 (deed1 X0) := by
    refine ⟨fun _ => rfl, fun j a ha => ?_, fun _ => lt_alloc w _⟩
    match j, ha with
    | 0, ha =>
      obtain rfl := Option.some.inj ha
      refine ⟨xa0, b0, o0, n0, c0, none, 0, 0, 0, 0, ⟨(h0.below hb).lv, h0.len, h0.nil, ir_empty _ none, rfl, fun _ => rfl, dlo, dhi, dlo, dhi⟩, fun i v hv => ?_⟩
      match i, hv with
      | 0, hv => rw [← hv]; exact hB.cell (j := 0) rfl
      | 1, hv => rw [← hv]; exact hB.cell (j := 1) rfl
      | 2, hv => rw [← hv]; exact hB.cell (j := 2) rfl
      | 3, hv => rw [← hv]; exact hB.cell (j := 3) rfl
      | 4, hv => rw [← hv]; exact hB.cell (j := 4) rfl
      | i + 5, hv => cases hv
    | j + 1, ha => cases ha
  exact (few_any (deed1 X0) 1 rfl (some ⟨w.heap.size, 0, none⟩) w.heap.size 0 1 _ hl).mono fun e w' ⟨x, y⟩ => ⟨by rw [x, hq], below_to hb (Nat.le_refl _) y⟩
section
variable {w0 w : World} {g lb f sure : Nat} {D : Dk.Disk} {R : List (List UInt8)} {pa : Option Addr} {pc : Nat}
/-- A batch on a new disk's log. -/
theorem jv_batch_new (h : JV w0 w g lb f Dk.new [] 0 pa pc) {xa : Option Addr} {b off n cap : Nat} {X : List (List UInt8)} (hL : Lv w0 xa b off cap X) (hn : X.length = n) (hX : (Jn.forms X).length ≤ 300000) {D : Dk.Disk} (hD : Jn.batchL Dk.new f [] 0 X = ⟨.ok, D, X, X.length⟩) :
    Calls Tryd.prog 17 #[.pointer (some ⟨lb, 0, none⟩), .slice xa n cap] w fun e w' => e = .returned (.int .i64 0) ∧ Mine w0 w' g D := by
  refine (batch_any h (hL.below h.mine.below) (fun hp hf => by
    have h1 := hL.lt hp
    rcases hf with hf | hf | ⟨u, hc, hv⟩
    · have := h.mine.foot b hf; omega
    · have := h.ge; omega
    · rw [h.cells.2.2.1] at hc
      injection hc with hc
      subst hc
      have := own_from h.row b hv
      omega) hn hX (by decide)).mono fun e w' ⟨x, ⟨_, _, y⟩, _⟩ => ?_
  rw [hD] at x y
  exact ⟨x, y.mine⟩
theorem mine_read_up (h : Mine w0 w g D) (hd : D.down = false) (f : Nat) (fi : Int) (hfi : (f : Int) = fi) (hf : f < 12) {s : ByteArray} (hs : enc (Dk.read D f) = s) :
    Calls Tryd.prog 30 #[.pointer (some ⟨g, 0, none⟩), .int .i64 fi] w fun e w' => e = .returned (.tuple #[.string s, .int .i64 0]) ∧ Mine w0 w' g D := by
  subst hfi hs
  refine (mine_read h (f : Int)).mono fun e w' ⟨x, y⟩ => ?_
  rw [Dk.read_up' hd f hf] at x
  exact ⟨x, y⟩
end
/-- LAW -/
theorem conv_one (c : UInt8) (w : World) : (convert 62 9 (.slice (some ⟨w.heap.size, 0, none⟩) 1 1)).run Tryd.prog (w.alloc (.cells #[.int .u8 (c.toNat : Int)] 5)) = .ok (.string ⟨#[c]⟩) (w.alloc (.cells #[.int .u8 (c.toNat : Int)] 5)) := by
  have hb := Blk.made w #[.int .u8 (c.toNat : Int)] 5
  have := run_convert_bytes_back (P := Tryd.prog) (w.alloc (.cells #[.int .u8 (c.toNat : Int)] 5)) 62 9 5 ⟨w.heap.size, 0, none⟩ 1 [c] Tryd.underlying62 Tryd.underlying5 Tryd.underlying9 (fun j hj => by
    obtain rfl : j = 0 := by simpa using hj
    exact hb.cell (j := 0) rfl)
  exact this
theorem zero_take (l : List UInt8) (h : 8 ≤ l.length) : (l.take 8 == [0, 0, 0, 0, 0, 0, 0, 0]) = decide (Jn.val l = 0) := by
  have h8 : ([0, 0, 0, 0, 0, 0, 0, 0] : List UInt8) = Jn.num 0 := by decide +kernel
  rw [Bool.eq_iff_iff, beq_iff_eq, decide_eq_true_eq, h8]
  have hv : Jn.val (Jn.num 0 ++ []) = 0 := Jn.val_num 0 (by decide) (by decide) []
  rw [List.append_nil] at hv
  constructor
  · intro e
    have := Jn.val_more (l.take 8) (l.drop 8) (by rw [List.length_take]; omega)
    rw [List.take_append_drop, e, hv] at this
    exact this
  · intro e
    have hi := Jn.val_inj (e.trans hv.symm)
    refine List.ext_getElem (by rw [List.length_take, Jn.num_length]; omega) fun i h1 h2 => ?_
    have hi8 : i < 8 := by rw [Jn.num_length] at h2; exact h2
    have := hi i hi8
    rw [List.getD_eq_getElem?_getD, List.getD_eq_getElem?_getD, List.getElem?_eq_getElem (by omega), List.getElem?_eq_getElem h2] at this
    rw [List.getElem_take]
    exact this
theorem jv_read_up {w0 w : World} {g lb f sure : Nat} {D : Dk.Disk} {R : List (List UInt8)} {pa : Option Addr} {pc : Nat} (h : JV w0 w g lb f D R sure pa pc) (hd : D.down = false) (f1 : Nat) (fi : Int) (hfi : (f1 : Int) = fi) (hf : f1 < 12) {s : ByteArray} (hs : enc (Dk.read D f1) = s) :
    Calls Tryd.prog 30 #[.pointer (some ⟨g, 0, none⟩), .int .i64 fi] w fun e w' => e = .returned (.tuple #[.string s, .int .i64 0]) ∧ JV w0 w' g lb f D R sure pa pc := by
  subst hfi hs
  refine (mm_read h.mm (f1 : Int)).mono fun e w' ⟨x, y⟩ => ?_
  rw [Dk.read_up' hd f1 hf] at x
  exact ⟨x, (h.mv y).1⟩
theorem one_size (c : UInt8) : (⟨#[c]⟩ : ByteArray).size ≤ 100000 := by show 1 ≤ 100000; decide
theorem u8_str (c : UInt8) : (⟨#[c]⟩ : ByteArray).data.toList = [c] := rfl
section
variable {X0 : List (List UInt8)} {xa0 : Option Addr} {b0 o0 n0 c0 : Nat} {w : World}
set_option maxHeartbeats 4000000 in
set_option maxRecDepth 100000 in
theorem jspoils_no (x : Int) (c : UInt8) (h0 : RL w xa0 b0 o0 n0 c0 X0) (hE : EnvJ w) (hf : Jn.few (deed1 X0) = false) :
    Calls Tryd.prog 7 #[.slice xa0 n0 c0, .int .i64 x, .int .u8 (c.toNat : Int)] w fun e w' => e = .returned (.bool true) ∧ Below w.heap.size w w' := by
  have C0 := Lib.hid (small_any w hE)
  have H0 := Lib.hid h0
  have HF := Lib.hid hf
  clear h0 hf hE
  go_enter Tryd.func7, Tryd.ntmps7
  go_wp2_with (first
    | (go_at_call 10; go_loud (with_reducible refine (few_one _ X0 xa0 b0 o0 _ c0 (H0.out.below HB0.out) HF.out).mono ?_); rintro _ w3 ⟨rfl, hb1⟩; have HB2 := Lib.hid (below_to HB0.out (Nat.le_refl _) hb1); clear hb1)
    | (go_at_call 9; with_reducible refine (C0.out).mono ?_; rintro _ w2 ⟨rfl, hb0⟩; have HB0 := Lib.hid hb0; clear hb0))
  go_ret
  exact ⟨rfl, HB2.out⟩
set_option maxHeartbeats 4000000 in
set_option maxRecDepth 100000 in
theorem jspoils_empty (x : Int) (c : UInt8) (h0 : RL w xa0 b0 o0 n0 c0 X0) (hE : EnvJ w) (hf : Jn.few (deed1 X0) = true) (hn : n0 = 0) :
    Calls Tryd.prog 7 #[.slice xa0 n0 c0, .int .i64 x, .int .u8 (c.toNat : Int)] w fun e w' => e = .returned (.bool true) ∧ Below w.heap.size w w' := by
  have C0 := Lib.hid (small_any w hE)
  have H0 := Lib.hid h0
  have HF := Lib.hid hf
  subst hn
  clear h0 hf hE
  go_enter Tryd.func7, Tryd.ntmps7
  go_wp2_with (first
    | (go_at_call 10; with_reducible refine (few_one _ X0 xa0 b0 o0 _ c0 (H0.out.below HB0.out) HF.out).mono ?_; rintro _ w3 ⟨rfl, hb1⟩; have HB2 := Lib.hid (below_to HB0.out (Nat.le_refl _) hb1); clear hb1)
    | (go_at_call 9; with_reducible refine (C0.out).mono ?_; rintro _ w2 ⟨rfl, hb0⟩; have HB0 := Lib.hid hb0; clear hb0))
  go_ret
  exact ⟨rfl, HB2.out⟩
/-- What is known once the list is written. -/
structure SpP (X0 : List (List UInt8)) (D : Dk.Disk) (s : ByteArray) : Prop where
  few : Jn.few (deed1 X0) = true
  fl : (Jn.forms X0).length ≤ 2000
  bd : Jn.batchL Dk.new 4 [] 0 X0 = ⟨.ok, D, X0, X0.length⟩
  rest : Rest D
  armed : D.armed = 0
  last : D.last 4 = Jn.H X0
  s_ : enc (Jn.H X0) = s
  each : ∀ r ∈ X0, r.length ≤ 16777216
theorem SpP.size {D : Dk.Disk} {s : ByteArray} (h : SpP X0 D s) : s.size = (Jn.H X0).length := by rw [← h.s_, Lib.size_eq, enc_list]
set_option maxHeartbeats 8000000 in
set_option maxRecDepth 100000 in
theorem jspoils_yes (x : Int) (c : UInt8) (h0 : RL w xa0 b0 o0 n0 c0 X0) (hE : EnvJ w) (hx0 : -9223372036854775808 ≤ x) (hx1 : x ≤ 9223372036854775807) (hp : 0 < n0) (hn6 : n0 ≤ 6) {D : Dk.Disk} {s : ByteArray} (h : SpP X0 D s) :
    Calls Tryd.prog 7 #[.slice xa0 n0 c0, .int .i64 x, .int .u8 (c.toNat : Int)] w fun e w' => e = .returned (.bool true) ∧ Below w.heap.size w w' := by
  have C0 := Lib.hid (small_any w hE)
  have HE := Lib.hid hE
  have H0 := Lib.hid h0
  have HF := Lib.hid h.few
  have HFL := Lib.hid (show (Jn.forms X0).length ≤ 300000 from by have := h.fl; omega)
  have HD := Lib.hid h.bd
  have HRD := Lib.hid h.rest
  have HA := Lib.hid h.armed
  have HSP := Lib.hid h
  have HS := Lib.hid (show enc (Dk.read D 4) = s from by rw [h.rest.read 4, h.last]; exact h.s_)
  have hss := h.size
  have hHl := Jn.H_length X0
  have hfl2 := h.fl
  have P0 : RowKit.Hid (Jn.parse (Dk.read Dk.new 4) = some ([], 16)) := Lib.hid Jn.parse_empty
  clear h hE h0
  by_cases x0 : x < 0
  · have e0 : decide (x < 0) = true := by simpa using x0
    clear hss hHl hfl2
    go_enter Tryd.func7, Tryd.ntmps7
    go_wp2_with (first
      | (go_at_call 30; with_reducible refine (mine_read_up HM2.out HRD.out.down 4 4 rfl (by decide) HS.out).mono ?_; rintro _ w7 ⟨rfl, hm⟩; have HM3 := Lib.hid hm; clear hm)
      | (go_at_call 17; with_reducible refine (jv_batch_new HJ1.out (H0.out.below HB2.out).lv H0.out.len HFL.out HD.out).mono ?_; rintro _ w6 ⟨rfl, hm⟩; have HM2 := Lib.hid hm; clear hm)
      | (go_at_call 13; with_reducible refine (open_at HM.out (HE.out.below HB2.out) 4 4 rfl (by decide) rfl P0.out).mono ?_; rintro _ w5 ⟨l1, pa1, pc1, rfl, hJ, hx⟩; have HJ1 := Lib.hid hJ; clear hJ hx)
      | (go_at_call 11; with_reducible refine (mine_new _).mono ?_; rintro _ w4 ⟨rfl, hm⟩; have HM := Lib.hid hm; clear hm)
      | (go_at_call 10; with_reducible refine (few_one _ X0 xa0 b0 o0 _ c0 (H0.out.below HB0.out) HF.out).mono ?_; rintro _ w3 ⟨rfl, hb1⟩; have HB2 := Lib.hid (below_to HB0.out (Nat.le_refl _) hb1); clear hb1)
      | (go_at_call 9; with_reducible refine (C0.out).mono ?_; rintro _ w2 ⟨rfl, hb0⟩; have HB0 := Lib.hid hb0; clear hb0))
    go_ret
    exact ⟨rfl, below_to HB2.out (Nat.le_refl _) HM3.out.below⟩
  have e0 : decide (x < 0) = false := by simpa using x0
  obtain ⟨at_, rfl⟩ := Int.eq_ofNat_of_zero_le (show 0 ≤ x by omega)
  by_cases x1 : s.size ≤ at_
  · have e1 : decide (s.size ≤ at_) = true := by simpa using x1
    have e1i : (s.size : Int) ≤ (at_ : Int) := by omega
    clear hss hHl hfl2
    go_enter Tryd.func7, Tryd.ntmps7
    go_wp2_with (first
      | (go_at_call 30; with_reducible refine (mine_read_up HM2.out HRD.out.down 4 4 rfl (by decide) HS.out).mono ?_; rintro _ w7 ⟨rfl, hm⟩; have HM3 := Lib.hid hm; clear hm)
      | (go_at_call 17; with_reducible refine (jv_batch_new HJ1.out (H0.out.below HB2.out).lv H0.out.len HFL.out HD.out).mono ?_; rintro _ w6 ⟨rfl, hm⟩; have HM2 := Lib.hid hm; clear hm)
      | (go_at_call 13; with_reducible refine (open_at HM.out (HE.out.below HB2.out) 4 4 rfl (by decide) rfl P0.out).mono ?_; rintro _ w5 ⟨l1, pa1, pc1, rfl, hJ, hx⟩; have HJ1 := Lib.hid hJ; clear hJ hx)
      | (go_at_call 11; with_reducible refine (mine_new _).mono ?_; rintro _ w4 ⟨rfl, hm⟩; have HM := Lib.hid hm; clear hm)
      | (go_at_call 10; with_reducible refine (few_one _ X0 xa0 b0 o0 _ c0 (H0.out.below HB0.out) HF.out).mono ?_; rintro _ w3 ⟨rfl, hb1⟩; have HB2 := Lib.hid (below_to HB0.out (Nat.le_refl _) hb1); clear hb1)
      | (go_at_call 9; with_reducible refine (C0.out).mono ?_; rintro _ w2 ⟨rfl, hb0⟩; have HB0 := Lib.hid hb0; clear hb0))
    go_ret
    exact ⟨rfl, below_to HB2.out (Nat.le_refl _) HM3.out.below⟩
  have e1 : decide (s.size ≤ at_) = false := by simpa using x1
  have e1i : decide ((s.size : Int) ≤ (at_ : Int)) = false := by simp; omega
  have hat : at_ < s.size := by omega
  have hsz : s.size ≤ 2016 := by omega
  have hmin : min ((at_ : Nat) : Int) (wrap64 ((s.size : Int) - 1)) = (at_ : Int) := by unfold wrap64; omega
  have hmin2 : min ((at_ : Nat) : Int) ((s.size : Int) - 1) = (at_ : Int) := by omega
  have hdl : s.data.toList[at_]? = some s[at_] := Lib.data_getElem? s at_ hat
  obtain ⟨d, hd⟩ : ∃ d, s[at_] = d := ⟨_, rfl⟩
  rw [hd] at hdl
  have HDL := Lib.hid hdl
  by_cases hdc : d = c
  · have e2 : ((d.toNat : Int) == (c.toNat : Int)) = true := by rw [hdc]; simp
    clear hss hHl hfl2 hdl
    go_enter Tryd.func7, Tryd.ntmps7
    go_wp2_with (first
      | (go_at_call 30; with_reducible refine (mine_read_up HM2.out HRD.out.down 4 4 rfl (by decide) HS.out).mono ?_; rintro _ w7 ⟨rfl, hm⟩; have HM3 := Lib.hid hm; clear hm)
      | (go_at_call 17; with_reducible refine (jv_batch_new HJ1.out (H0.out.below HB2.out).lv H0.out.len HFL.out HD.out).mono ?_; rintro _ w6 ⟨rfl, hm⟩; have HM2 := Lib.hid hm; clear hm)
      | (go_at_call 13; with_reducible refine (open_at HM.out (HE.out.below HB2.out) 4 4 rfl (by decide) rfl P0.out).mono ?_; rintro _ w5 ⟨l1, pa1, pc1, rfl, hJ, hx⟩; have HJ1 := Lib.hid hJ; clear hJ hx)
      | (go_at_call 11; with_reducible refine (mine_new _).mono ?_; rintro _ w4 ⟨rfl, hm⟩; have HM := Lib.hid hm; clear hm)
      | (go_at_call 10; with_reducible refine (few_one _ X0 xa0 b0 o0 _ c0 (H0.out.below HB0.out) HF.out).mono ?_; rintro _ w3 ⟨rfl, hb1⟩; have HB2 := Lib.hid (below_to HB0.out (Nat.le_refl _) hb1); clear hb1)
      | (go_at_call 9; with_reducible refine (C0.out).mono ?_; rintro _ w2 ⟨rfl, hb0⟩; have HB0 := Lib.hid hb0; clear hb0))
    go_ret
    exact ⟨rfl, below_to HB2.out (Nat.le_refl _) HM3.out.below⟩
  have e2 : ((d.toNat : Int) == (c.toNat : Int)) = false := by
    rw [beq_eq_false_iff_ne]; intro e; exact hdc (by rw [← UInt8.toNat_inj]; omega)
  have HHL := Lib.hid hHl
  have HSS := Lib.hid hss
  clear hss hHl hdl
  go_enter Tryd.func7, Tryd.ntmps7
  go_wp2_with (first
    | (go_at_call 30; with_reducible refine (mine_read_up HM2.out HRD.out.down 4 4 rfl (by decide) HS.out).mono ?_; rintro _ w7 ⟨rfl, hm⟩; have HM3 := Lib.hid hm; clear hm)
    | (go_at_call 17; with_reducible refine (jv_batch_new HJ1.out (H0.out.below HB2.out).lv H0.out.len HFL.out HD.out).mono ?_; rintro _ w6 ⟨rfl, hm⟩; have HM2 := Lib.hid hm; clear hm)
    | (go_at_call 13; with_reducible refine (open_at HM.out (HE.out.below HB2.out) 4 4 rfl (by decide) rfl P0.out).mono ?_; rintro _ w5 ⟨l1, pa1, pc1, rfl, hJ, hx⟩; have HJ1 := Lib.hid hJ; clear hJ hx)
    | (go_at_call 11; with_reducible refine (mine_new _).mono ?_; rintro _ w4 ⟨rfl, hm⟩; have HM := Lib.hid hm; clear hm)
    | (go_at_call 10; with_reducible refine (few_one _ X0 xa0 b0 o0 _ c0 (H0.out.below HB0.out) HF.out).mono ?_; rintro _ w3 ⟨rfl, hb1⟩; have HB2 := Lib.hid (below_to HB0.out (Nat.le_refl _) hb1); clear hb1)
    | (go_at_call 9; with_reducible refine (C0.out).mono ?_; rintro _ w2 ⟨rfl, hb0⟩; have HB0 := Lib.hid hb0; clear hb0))
  go_loopw [14, 15] (fun x14 x15 wr => ∃ (k bg : Nat), x15 = .int .i64 k ∧ k ≤ n0 ∧ x14 = .int .i64 (bg : Int) ∧ bg ≤ 4000 ∧ Hid (bg = 16 + (Jn.forms (X0.take k)).length) ∧ Hid (∀ j, j < k → ¬ (16 + (Jn.forms (X0.take j)).length ≤ at_ ∧ at_ < 16 + (Jn.forms (X0.take j)).length + 8)) ∧ w7 = wr) (fun _ x15 _ => n0 - (intOf x15).toNat)
  case atStart => exact ⟨0, 16, rfl, Nat.zero_le _, rfl, by decide, rfl, fun j hj => absurd hj (Nat.not_lt_zero _), rfl⟩
  case round =>
    obtain ⟨k, bg, rfl, hk, rfl, hbl, hbg, hno, rfl⟩ := hrel
    by_cases hlt : k < n0
    · by_cases g1 : bg ≤ at_
      · have t1 : decide (bg ≤ at_) = true := by simpa using g1
        have t1i : decide ((bg : Int) ≤ (at_ : Int)) = true := by simp; omega
        by_cases g2 : at_ < bg + 8
        · have t2 : decide (at_ < bg + 8) = true := by simpa using g2
          have t2i : decide ((at_ : Int) < (bg : Int) + 8) = true := by simp; omega
          go_wp2
          go_ret
          exact ⟨rfl, below_to HB2.out (Nat.le_refl _) HM3.out.below⟩
        · have t2 : decide (at_ < bg + 8) = false := by simpa using g2
          have t2i : decide ((at_ : Int) < (bg : Int) + 8) = false := by simp; omega
          obtain rfl := (H0.out.below HB2.out).lv.at_ (by rw [H0.out.len]; omega)
          have c5 : w7.cell? ⟨b0, o0 + k, none⟩ = some (encStr (X0.getD k [])) := ((HM3.out.below.cell (p := ⟨b0, o0 + k, none⟩) ((H0.out.below HB2.out).lv.lt (by rw [H0.out.len]; omega))).trans ((H0.out.below HB2.out).lv.cell k (by rw [H0.out.len]; omega)))
          obtain ⟨u, hu⟩ : ∃ u, encStr (X0.getD k []) = .string u := ⟨_, rfl⟩
          rw [hu] at c5
          have hul := (encStr_size hu).2
          have hft := Jn.forms_take X0 k (by rw [H0.out.len]; exact hlt)
          have hle := Jn.forms_take_le X0 (k + 1)
          have hfe := congrArg List.length hft
          rw [List.length_append, Jn.form_length] at hfe
          have HNX := Lib.hid (show bg + 16 + u.size = 16 + (Jn.forms (X0.take (k + 1))).length from by have := hbg.out; omega)
          have hbd : bg + 16 + u.size ≤ 4000 := by have := hbg.out; omega
          clear hu hul hft hle hfe
          go_wp2
          go_roundw
          case rel => exact ⟨k + 1, bg + 16 + u.size, by go_num, by omega, by go_num, hbd, HNX.out, (fun j hj => by
            rcases Nat.lt_succ_iff_lt_or_eq.1 hj with h1 | rfl
            · exact hno.out j h1
            · have := hbg.out; omega), trivial⟩
          case measure => simp [intOf]; omega
      · have t1 : decide (bg ≤ at_) = false := by simpa using g1
        have t1i : decide ((bg : Int) ≤ (at_ : Int)) = false := by simp; omega
        obtain rfl := (H0.out.below HB2.out).lv.at_ (by rw [H0.out.len]; omega)
        have c5 : w7.cell? ⟨b0, o0 + k, none⟩ = some (encStr (X0.getD k [])) := ((HM3.out.below.cell (p := ⟨b0, o0 + k, none⟩) ((H0.out.below HB2.out).lv.lt (by rw [H0.out.len]; omega))).trans ((H0.out.below HB2.out).lv.cell k (by rw [H0.out.len]; omega)))
        obtain ⟨u, hu⟩ : ∃ u, encStr (X0.getD k []) = .string u := ⟨_, rfl⟩
        rw [hu] at c5
        have hul := (encStr_size hu).2
        have hft := Jn.forms_take X0 k (by rw [H0.out.len]; exact hlt)
        have hle := Jn.forms_take_le X0 (k + 1)
        have hfe := congrArg List.length hft
        rw [List.length_append, Jn.form_length] at hfe
        have HNX := Lib.hid (show bg + 16 + u.size = 16 + (Jn.forms (X0.take (k + 1))).length from by have := hbg.out; omega)
        have hbd : bg + 16 + u.size ≤ 4000 := by have := hbg.out; omega
        clear hu hul hft hle hfe
        go_wp2
        go_roundw
        case rel => exact ⟨k + 1, bg + 16 + u.size, by go_num, by omega, by go_num, hbd, HNX.out, (fun j hj => by
          rcases Nat.lt_succ_iff_lt_or_eq.1 hj with h1 | rfl
          · exact hno.out j h1
          · have := hbg.out; omega), trivial⟩
        case measure => simp [intOf]; omega
    · obtain rfl : k = n0 := by omega
      have hkk := hno.out
      have hcv := conv_one c w7
      have HPS := Lib.hid (fun (hz : Jn.val ((Jn.H X0).set at_ c) ≠ 0) => Jn.parse_spoil (R := X0) (at_ := at_) (n := c) HSP.out.each (by have := HFL.out; omega) (by rw [← HSS.out]; exact hat) (by
        have := HDL.out
        rw [← HSP.out.s_, enc_list] at this
        rw [this]
        exact fun e => hdc (Option.some.inj e)) (by rw [H0.out.len]; exact hkk) hz)
      have hrd : Dk.read (Dk.add D 4 at_ [c]) 4 = (Jn.H X0).set at_ c := by
        rw [Dk.read_add _ _ _ _ (by simp), HSP.out.rest.read 4, HSP.out.last]
        exact Jn.put_one _ _ _ (by rw [← HSS.out]; exact hat)
      obtain ⟨tt, htt⟩ : ∃ tt, enc ((Jn.H X0).set at_ c) = tt := ⟨_, rfl⟩
      have HT : RowKit.Hid (enc (Dk.read (Dk.add D 4 at_ (⟨#[c]⟩ : ByteArray).data.toList) 4) = tt) := Lib.hid (by rw [u8_str, hrd]; exact htt)
      have HDN : RowKit.Hid ((Dk.add D 4 at_ (⟨#[c]⟩ : ByteArray).data.toList).down = false) := Lib.hid HRD.out.down
      have hts : tt.size = s.size := by rw [← htt, Lib.size_eq, enc_list, List.length_set, HSS.out]
      have hzt : ((tt.extract 0 8).toList == [0, 0, 0, 0, 0, 0, 0, 0]) = decide (Jn.val ((Jn.H X0).set at_ c) = 0) := by
        rw [ByteArray.toList_eq, ext_take0, ← htt, enc_list]
        exact zero_take _ (by rw [List.length_set]; have := HHL.out; omega)
      have ht8 : 8 ≤ tt.size := by have := HHL.out; have := HSS.out; omega
      by_cases hz : Jn.val ((Jn.H X0).set at_ c) = 0
      · have P1 : RowKit.Hid (Jn.parse (Dk.read (Dk.add D 4 at_ (⟨#[c]⟩ : ByteArray).data.toList) 4) = some ([], 16)) := Lib.hid (by rw [u8_str, hrd]; exact Jn.parse_zero hz)
        have hzb : ((tt.extract 0 8).toList == [0, 0, 0, 0, 0, 0, 0, 0]) = true := by rw [hzt]; simpa using hz
        clear hkk hrd hz htt hzt
        go_wp2_with (first
          | (go_at_call 33; with_reducible refine (jv_all HJ7.out).mono ?_; rintro _ w11 ⟨ya, yc, yb, rfl, hJ, hl⟩; have HJ8 := Lib.hid hJ; clear hJ hl)
          | (go_at_call 30; with_reducible refine (jv_read_up HJ6.out HDN.out 4 4 rfl (by decide) HT.out).mono ?_; rintro _ w10 ⟨rfl, hJ⟩; have HJ7 := Lib.hid hJ; clear hJ)
          | (go_at_call 13; with_reducible refine (open_at HM5.out (HE.out.below HB2.out) 4 4 rfl (by decide) HDN.out P1.out).mono ?_; rintro _ w9 ⟨l2, pa2, pc2, rfl, hJ, hx⟩; have HJ6 := Lib.hid hJ; clear hJ hx)
          | (go_at_call 37; with_reducible refine (mine_wrote1 (HM3.out.alloc _) HRD.out.down HA.out 4 at_ 4 (at_ : Int) rfl rfl (by decide) ⟨#[c]⟩ (one_size c) (by omega) (HRD.out.qlen _)).mono ?_; rintro _ w8 ⟨rfl, hm⟩; have HM5 := Lib.hid hm; clear hm))
        go_ret
        exact ⟨rfl, below_to HB2.out (Nat.le_refl _) HJ8.out.mine.below⟩
      · have P1 : RowKit.Hid (Jn.parse (Dk.read (Dk.add D 4 at_ (⟨#[c]⟩ : ByteArray).data.toList) 4) = none) := Lib.hid (by rw [u8_str, hrd]; exact HPS.out hz)
        have hzb : ((tt.extract 0 8).toList == [0, 0, 0, 0, 0, 0, 0, 0]) = false := by rw [hzt]; simpa using hz
        clear hkk hrd hz htt hzt
        go_wp2_with (first
          | (go_at_call 30; with_reducible refine (mine_read_up HM6.out HDN.out 4 4 rfl (by decide) HT.out).mono ?_; rintro _ w10 ⟨rfl, hm⟩; have HM7 := Lib.hid hm; clear hm)
          | (go_at_call 13; with_reducible refine (open_not HM5.out (HE.out.below HB2.out) 4 4 rfl (by decide) HDN.out P1.out).mono ?_; rintro _ w9 ⟨rfl, hm⟩; have HM6 := Lib.hid hm; clear hm)
          | (go_at_call 37; with_reducible refine (mine_wrote1 (HM3.out.alloc _) HRD.out.down HA.out 4 at_ 4 (at_ : Int) rfl rfl (by decide) ⟨#[c]⟩ (one_size c) (by omega) (HRD.out.qlen _)).mono ?_; rintro _ w8 ⟨rfl, hm⟩; have HM5 := Lib.hid hm; clear hm))
        go_ret
        exact ⟨rfl, below_to HB2.out (Nat.le_refl _) HM7.out.below⟩
theorem jspoils_law (x n : Int) (hx0 : -9223372036854775808 ≤ x) (hx1 : x ≤ 9223372036854775807) (hn : (Lit.int .u8 n).wf = true) (h0 : RL w xa0 b0 o0 n0 c0 X0) (hE : EnvJ w) :
    Calls Tryd.prog 7 #[.slice xa0 n0 c0, .int .i64 x, .int .u8 n] w fun e w' => e = .returned (.bool true) ∧ Below w.heap.size w w' := by
  have hr : 0 ≤ n ∧ n ≤ 255 := by
    have h2 : (decide (IntKind.u8.min ≤ n) && decide (n ≤ IntKind.u8.max)) = true := hn
    simp only [Bool.and_eq_true, decide_eq_true_eq] at h2
    exact h2
  obtain ⟨c, rfl⟩ : ∃ c : UInt8, n = (c.toNat : Int) := ⟨UInt8.ofNat n.toNat, by rw [UInt8.toNat_ofNat']; omega⟩
  by_cases hf : Jn.few (deed1 X0) = true
  · obtain ⟨_, hall⟩ := Jn.few_true hf
    obtain ⟨_, r0, _, s0⟩ := hall ⟨0, [], X0, [], 0⟩ (by simp [deed1])
    have f0 := Jn.forms_le 6 200 X0 r0 s0
    have hl : n0 ≤ 6 := by rw [← h0.len]; exact r0
    by_cases hz : n0 = 0
    · exact jspoils_empty x c h0 hE hf hz
    · have hne : X0 ≠ [] := fun e => by have := h0.len; rw [e] at this; exact hz this.symm
      obtain ⟨D, hD, hR, ha, hL⟩ := Jn.batch_new 4 (by decide) X0 hne (by omega)
      exact jspoils_yes x c h0 hE hx0 hx1 (by omega) hl ⟨hf, by omega, hD, hR, ha, hL, rfl, fun r hr => Nat.le_trans (s0 r hr) (by decide)⟩
  · exact jspoils_no x c h0 hE (by simpa using hf)
end
end Go.Proofs.YtbpodclodflgfaaDoor
