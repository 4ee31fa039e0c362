/-
  JournalTurns: the law returns true.
-/
import Derived.Test.YtbpodclodflgfaaDoorJTa
namespace Go.Proofs.YtbpodclodflgfaaDoor
open Go Go.RowKit
/-- A list of strings that came in. -/
structure RL (w : World) (xa : Option Addr) (b off n cap : Nat) (X : List (List UInt8)) : Prop where
  lv : Lv w xa b off cap X
  len : X.length = n
  nil : xa = none → cap = 0
theorem RL.below {w w' : World} {xa : Option Addr} {b off n cap : Nat} {X : List (List UInt8)} (h : RL w xa b off n cap X) (hb : Below w.heap.size w w') : RL w' xa b off n cap X := ⟨h.lv.below hb, h.len, h.nil⟩
/-- A list of ints that came in. -/
structure KL (w : World) (ka : Option Addr) (b off n cap : Nat) (ks : List Int) : Prop where
  ir : IR w ka b off ks
  len : ks.length = n
  nil : ka = none → cap = 0
theorem KL.below {w w' : World} {ka : Option Addr} {b off n cap : Nat} {ks : List Int} (h : KL w ka b off n cap ks) (hb : Below w.heap.size w w') : KL w' ka b off n cap ks := ⟨h.ir.below hb, h.len, h.nil⟩
def deed2 (X0 X1 : List (List UInt8)) (ks : List Int) : List Jn.Deed := [⟨0, [], X0, ks, 0⟩, ⟨0, [], X1, [], 0⟩]
theorem dlo : (-9223372036854775808 : Int) ≤ 0 := by decide
theorem dhi : (0 : Int) ≤ 9223372036854775807 := by decide
theorem few_two (w : World) (X0 X1 : List (List UInt8)) (ks : List Int) (xa0 xa1 ka : Option Addr) (b0 o0 n0 c0 b1 o1 n1 c1 kb ko kn kc : Nat) (h0 : RL w xa0 b0 o0 n0 c0 X0) (h1 : RL w xa1 b1 o1 n1 c1 X1) (hk : KL w ka kb ko kn kc ks) {q : Bool} (hq : Jn.few (deed2 X0 X1 ks) = q) :
    Calls Tryd.prog 10 #[.slice (some ⟨w.heap.size, 0, none⟩) 2 2] (w.alloc (.cells #[.int .i64 0, .string ⟨#[]⟩, .slice xa0 n0 c0, .slice ka kn kc, .int .i64 0, .int .i64 0, .string ⟨#[]⟩, .slice xa1 n1 c1, .slice none 0 0, .int .i64 0] 39)) fun e w' => e = .returned (.bool q) ∧ Below w.heap.size w w' := by
  have hb := below_new w (.cells #[.int .i64 0, .string ⟨#[]⟩, .slice xa0 n0 c0, .slice ka kn kc, .int .i64 0, .int .i64 0, .string ⟨#[]⟩, .slice xa1 n1 c1, .slice none 0 0, .int .i64 0] 39)
  have hB := Blk.made w #[.int .i64 0, .string ⟨#[]⟩, .slice xa0 n0 c0, .slice ka kn kc, .int .i64 0, .int .i64 0, .string ⟨#[]⟩, .slice xa1 n1 c1, .slice none 0 0, .int .i64 0] 39
  have hl : LD (w.alloc (.cells #[.int .i64 0, .string ⟨#[]⟩, .slice xa0 n0 c0, .slice ka kn kc, .int .i64 0, .int .i64 0, .string ⟨#[]⟩, .slice xa1 n1 c1, .slice none 0 0, .int .i64 0] 39)) (some ⟨w.heap.size, 0, none⟩) w.heap.size 0 (deed2 X0 X1 ks) := by
    refine ⟨fun _ => rfl, fun j a ha => ?_, fun _ => lt_alloc w _⟩
    match j, ha with
    | 0, ha =>
      obtain rfl := Option.some.inj ha
      refine ⟨xa0, b0, o0, n0, c0, ka, kb, ko, kn, kc, ⟨(h0.below hb).lv, h0.len, h0.nil, (hk.below hb).ir, hk.len, hk.nil, dlo, dhi, dlo, dhi⟩, fun i v hv => ?_⟩
      match i, hv with
      | 0, hv => rw [← hv]; exact hB.cell (j := 0) rfl
      | 1, hv => rw [← hv]; exact hB.cell (j := 1) rfl
      | 2, hv => rw [← hv]; exact hB.cell (j := 2) rfl
      | 3, hv => rw [← hv]; exact hB.cell (j := 3) rfl
      | 4, hv => rw [← hv]; exact hB.cell (j := 4) rfl
      | i + 5, hv => cases hv
    | 1, ha =>
      obtain rfl := Option.some.inj ha
      refine ⟨xa1, b1, o1, n1, c1, none, 0, 0, 0, 0, ⟨(h1.below hb).lv, h1.len, h1.nil, ir_empty _ none, rfl, fun _ => rfl, dlo, dhi, dlo, dhi⟩, fun i v hv => ?_⟩
      match i, hv with
      | 0, hv => rw [← hv]; exact hB.cell (j := 5) rfl
      | 1, hv => rw [← hv]; exact hB.cell (j := 6) rfl
      | 2, hv => rw [← hv]; exact hB.cell (j := 7) rfl
      | 3, hv => rw [← hv]; exact hB.cell (j := 8) rfl
      | 4, hv => rw [← hv]; exact hB.cell (j := 9) rfl
      | i + 5, hv => cases hv
    | j + 2, ha => cases ha
  exact (few_any (deed2 X0 X1 ks) 2 rfl (some ⟨w.heap.size, 0, none⟩) w.heap.size 0 2 _ hl).mono fun e w' ⟨x, y⟩ => ⟨by rw [x, hq], below_to hb (Nat.le_refl _) y⟩
theorem open5 {w0 w : World} {g : Nat} {D : Dk.Disk} (h : Mine w0 w g D) (hE : EnvJ w0) (hD : D.down = false) {L : List (List UInt8)} {k : Nat} (hp : Jn.parse (Dk.read D 5) = some (L, k)) : Calls Tryd.prog 13 #[.pointer (some ⟨g, 0, none⟩), .int .i64 5] w fun e w' => ∃ lb pa pc, e = .returned (.tuple #[.pointer (some ⟨lb, 0, none⟩), .int .i64 0]) ∧ JV w0 w' g lb 5 D L L.length pa pc :=
  (open_ok h hE 5 (by decide) hD hp).mono fun _ _ ⟨a, b, c, d, _, e, _⟩ => ⟨a, b, c, d, e⟩
theorem parse_at {D : Dk.Disk} (hR : Rest D) {f : Nat} {L : List (List UInt8)} (hl : D.last f = Jn.H L) (hL : (Jn.forms L).length ≤ 300000) : Jn.parse (Dk.read D f) = some (L, 16 + (Jn.forms L).length) := by
  rw [hR.read f, hl]
  have := Jn.parse_H L [] (by omega)
  rwa [List.append_nil] at this
section
variable {X0 X1 : List (List UInt8)} {ks : List Int} {xa0 xa1 ka : Option Addr} {b0 o0 n0 c0 b1 o1 n1 c1 kb ko kn kc : Nat} {w : World}
set_option maxHeartbeats 4000000 in
set_option maxRecDepth 100000 in
theorem jturns_no (x : Int) (h0 : RL w xa0 b0 o0 n0 c0 X0) (h1 : RL w xa1 b1 o1 n1 c1 X1) (hk : KL w ka kb ko kn kc ks) (hE : EnvJ w) (hf : Jn.few (deed2 X0 X1 ks) = false) :
    Calls Tryd.prog 8 #[.slice xa0 n0 c0, .slice xa1 n1 c1, .int .i64 x, .slice ka kn kc] w fun e w' => e = .returned (.bool true) ∧ Below w.heap.size w w' := by
  have C0 := Lib.hid (small_any w hE)
  have H0 := Lib.hid h0
  have H1 := Lib.hid h1
  have HK := Lib.hid hk
  have HF := Lib.hid hf
  clear h0 h1 hk hf
  go_enter Tryd.func8, Tryd.ntmps8
  go_wp2_with (first | (go_at_call 10; with_reducible refine (few_two _ X0 X1 ks xa0 xa1 ka b0 o0 n0 c0 b1 o1 n1 c1 kb ko kn kc (H0.out.below HB0.out) (H1.out.below HB0.out) (HK.out.below HB0.out) HF.out).mono ?_; rintro _ w3 ⟨rfl, hb1⟩; have HB1 := Lib.hid hb1; clear hb1) | (go_at_call 9; with_reducible refine C0.out.mono ?_; rintro _ w2 ⟨rfl, hb0⟩; have HB0 := Lib.hid hb0; clear hb0))
  go_ret
  exact ⟨rfl, below_to HB0.out (Nat.le_refl _) HB1.out⟩
set_option maxHeartbeats 4000000 in
set_option maxRecDepth 100000 in
theorem jturns_ok (x : Int) (hx0 : -9223372036854775808 ≤ x) (hx1 : x ≤ 9223372036854775807) (h0 : RL w xa0 b0 o0 n0 c0 X0) (h1 : RL w xa1 b1 o1 n1 c1 X1) (hk : KL w ka kb ko kn kc ks) (hE : EnvJ w) (hf : Jn.few (deed2 X0 X1 ks) = true)
    (l0 : n0 ≤ 6) (l1 : n1 ≤ 6) (lk : kn ≤ 60) (f0 : (Jn.forms X0).length ≤ 300000) (f1 : (Jn.forms X1).length ≤ 300000) {q : Bool} (hq : sameRows X1 X0 = q) {a : Int} {D3 : Dk.Disk} (hD3 : D3 = Jn.RWd (Dk.arm (Jn.RWd Dk.new 5 (5 + 1) X0 0) (1 + x % 5) ks) 5 (5 + 1) X1 a)
    (hC : ∀ (w0 w : World) (g lb : Nat) (pa xa : Option Addr) (pc b off cap n : Nat), JV w0 w g lb 5 (Dk.arm (Jn.RWd Dk.new 5 (5 + 1) X0 0) (1 + x % 5) ks) X0 X0.length pa pc → Lv w0 xa b off cap X1 → X1.length = n → (xa = none → cap = 0) →
      Calls Tryd.prog 19 #[.pointer (some ⟨lb, 0, none⟩), .slice xa n cap] w fun e w' => ∃ pa pc, e = .returned (.int .i64 0) ∧ JV w0 w' g lb 5 D3 X1 X1.length pa pc) :
    Calls Tryd.prog 8 #[.slice xa0 n0 c0, .slice xa1 n1 c1, .int .i64 x, .slice ka kn kc] w fun e w' => e = .returned (.bool true) ∧ Below w.heap.size w w' := by
  have C0 := Lib.hid (small_any w hE)
  have R1 : Rest (Jn.RWd Dk.new 5 (5 + 1) X0 0) := rest_new.rw 5 X0 0
  have R2 := R1.arm (1 + x % 5) ks
  have R3 : Rest (Dk.arm D3 0 []) := by rw [hD3]; exact (R2.rw 5 X1 a).arm 0 []
  have L3 : (Dk.arm D3 0 []).last 5 = Jn.H X1 := by rw [hD3]; exact (Jn.RWd_read (Dk.arm (Jn.RWd Dk.new 5 (5 + 1) X0 0) (1 + x % 5) ks) 5 X1 a).2
  have P3 := Lib.hid (parse_at R3 L3 f1)
  obtain ⟨D5, hD5⟩ : ∃ D5, Dk.arm D3 0 [] = D5 := ⟨_, rfl⟩
  have A5 : D5.armed = 0 := by rw [← hD5]; rfl
  rw [hD5] at R3 P3
  have R6 := R3.rw 5 X1 0
  obtain ⟨R8, L8⟩ := R6.crash ks 5
  have P8 := Lib.hid (parse_at R8 (L8.trans (Jn.RWd_read D5 5 X1 0).2) f1)
  have P0 : RowKit.Hid (Jn.parse (Dk.read Dk.new 5) = some ([], 16)) := Lib.hid Jn.parse_empty
  have HR3 := Lib.hid R3
  have HA5 := Lib.hid A5
  have HR8 := Lib.hid R8
  have H0 := Lib.hid h0
  have H1 := Lib.hid h1
  have HK := Lib.hid hk
  have HF := Lib.hid hf
  have HE := Lib.hid hE
  have HC := Lib.hid hC
  have HQ := Lib.hid hq
  have HD5 := Lib.hid hD5
  have HX0 := Lib.hid (show X0.length ≤ 1000000 from by rw [h0.len]; omega)
  have HX1 := Lib.hid (show X1.length ≤ 1000000 from by rw [h1.len]; omega)
  have HS := Lib.hid (show sameRows X1 X1 = true from by simp [sameRows])
  have HS0 := Lib.hid (show sameRows X0 X0 = true from by simp [sameRows])
  have HPK := Lib.hid (fun (w : World) => pick_5 x hx0 hx1 w)
  have hp0 : 0 ≤ x % 5 := by omega
  have hp1 : x % 5 < 5 := by omega
  obtain ⟨p, hp⟩ : ∃ p, x % 5 = p := ⟨_, rfl⟩
  rw [hp] at hp0 hp1 HPK HC
  clear h0 h1 hk hf R1 R2 R3 R6 R8 L3 L8 A5 hC hq hD3 hD5 hE hp hx0 hx1
  have HL0 := Lib.hid H0.out.len
  cases q
  all_goals
    go_enter Tryd.func8, Tryd.ntmps8
    go_wp2_with (first
      | (go_at_call 32; with_reducible refine (jv_same HJ10.out HLX.out rfl (H1.out.below HB2.out).lv H1.out.len HX1.out (by omega) HS.out).mono ?_; rintro _ w9 ⟨rfl, hJ⟩; have HJ11 := Lib.hid hJ; clear hJ)
      | (go_at_call 33; with_reducible refine (jv_all HJ9.out).mono ?_; rintro _ w9 ⟨ta, tc, tb, rfl, hJ, hl⟩; have HJ10 := Lib.hid hJ; have HLX := Lib.hid hl; clear hJ hl)
      | (go_at_call 13; with_reducible refine (open5 HJ8c.out.mine HJ8c.out.env HR8.out.down P8.out).mono ?_; rintro _ w9 ⟨l5, pa7, pc7, rfl, hJ⟩; have HJ9 := Lib.hid hJ; clear hJ)
      | (go_at_call 23; with_reducible refine (jv_start HJ8b.out).mono ?_; rintro _ w9 ⟨⟨v9, rfl⟩, hJ⟩; have HJ8c := Lib.hid hJ; clear hJ)
      | (go_at_call 21; with_reducible refine (jv_crash HJ8.out ka kb ko kn kc ks (HK.out.below HB2.out).ir HK.out.len).mono ?_; rintro _ w9 ⟨⟨v9, rfl⟩, hJ⟩; have HJ8b := Lib.hid hJ; clear hJ)
      | (go_at_call 19; with_reducible refine (jv_rewrite HJ7.out HR3.out HA5.out (H1.out.below HB2.out).lv H1.out.len H1.out.nil (by decide) (by assumption)).mono ?_; rintro _ w9 ⟨pa6, pc6, rfl, hJ⟩; have HJ8 := Lib.hid hJ; clear hJ)
      | (go_at_call 32; with_reducible refine (jv_same HJ6b.out HLW.out rfl (H1.out.below HB2.out).lv H1.out.len HX1.out (by omega) HS.out).mono ?_; rintro _ w9 ⟨rfl, hJ⟩; have HJ7 := Lib.hid hJ; clear hJ)
      | (go_at_call 33; with_reducible refine (jv_all HJ6.out).mono ?_; rintro _ w9 ⟨za, zc, zb, rfl, hJ, hl⟩; have HJ6b := Lib.hid hJ; have HLW := Lib.hid hl; clear hJ hl)
      | (go_at_call 32; with_reducible refine (jv_same HJ5.out HLV.out rfl (H0.out.below HB2.out).lv H0.out.len HX1.out (by omega) HQ.out).mono ?_; rintro _ w9 ⟨rfl, hJ⟩; have HJ6 := Lib.hid hJ; clear hJ)
      | (go_at_call 33; with_reducible refine (jv_all HJ4b.out).mono ?_; rintro _ w9 ⟨ya, yc, yb, rfl, hJ, hl⟩; have HJ5 := Lib.hid hJ; have HLV := Lib.hid hl; clear hJ hl)
      | (go_at_call 13; with_reducible refine (open5 HJ4.out.mine HJ4.out.env HR3.out.down P3.out).mono ?_; rintro _ w9 ⟨l4, pa4, pc4, rfl, hJ⟩; have HJ4b := Lib.hid hJ; clear hJ)
      | (go_at_call 35; with_reducible refine (jv_arm_nil HJ3b.out 0 (by decide)).mono ?_; rintro _ w9 ⟨⟨v9, rfl⟩, hJ⟩; rw [HD5.out] at hJ; have HJ4 := Lib.hid hJ; clear hJ)
      | (go_at_call 19; with_reducible refine (HC.out _ _ _ _ _ _ _ _ _ _ _ HJ3.out (H1.out.below HB2.out).lv H1.out.len H1.out.nil).mono ?_; rintro _ w9 ⟨pa3, pc3, rfl, hJ⟩; have HJ3b := Lib.hid hJ; clear hJ)
      | (go_at_call 35; with_reducible refine (jv_arm HJ2.out (1 + p) (by omega) ka kb ko kn kc ks (HK.out.below HB2.out).ir HK.out.len HK.out.nil (by omega)).mono ?_; rintro _ w9 ⟨⟨v9, rfl⟩, hJ⟩; have HJ3 := Lib.hid hJ; clear hJ)
      | (go_at_call 26; with_reducible refine (HPK.out _).mono ?_; rintro _ w9 ⟨rfl, rfl⟩; skip)
      | (go_at_call 19; with_reducible refine (jv_rewrite HJ1.out rest_new rfl (H0.out.below HB2.out).lv H0.out.len H0.out.nil (by decide) (by assumption)).mono ?_; rintro _ w9 ⟨pa2, pc2, rfl, hJ⟩; have HJ2 := Lib.hid hJ; clear hJ)
      | (go_at_call 13; with_reducible refine (open5 HM.out (HE.out.below HB2.out) rfl P0.out).mono ?_; rintro _ w9 ⟨l1, pa1, pc1, rfl, hJ⟩; have HJ1 := Lib.hid hJ; clear hJ)
      | (go_at_call 11; with_reducible refine (mine_new _).mono ?_; rintro _ w9 ⟨rfl, hm⟩; have HM := Lib.hid hm; clear hm)
      | (go_at_call 10; with_reducible refine (few_two _ X0 X1 ks xa0 xa1 ka b0 o0 n0 c0 b1 o1 n1 c1 kb ko kn kc (H0.out.below HB0.out) (H1.out.below HB0.out) (HK.out.below HB0.out) HF.out).mono ?_; rintro _ w9 ⟨rfl, hb1⟩; have HB2 := Lib.hid (below_to HB0.out (Nat.le_refl _) hb1); clear hb1)
      | (go_at_call 9; with_reducible refine (C0.out).mono ?_; rintro _ w9 ⟨rfl, hb0⟩; have HB0 := Lib.hid hb0; clear hb0))
    go_ret
    exact ⟨rfl, below_to HB2.out (Nat.le_refl _) HJ11.out.mine.below⟩
set_option maxHeartbeats 4000000 in
set_option maxRecDepth 100000 in
theorem jturns_down (x : Int) (hx0 : -9223372036854775808 ≤ x) (hx1 : x ≤ 9223372036854775807) (h0 : RL w xa0 b0 o0 n0 c0 X0) (h1 : RL w xa1 b1 o1 n1 c1 X1) (hk : KL w ka kb ko kn kc ks) (hE : EnvJ w) (hf : Jn.few (deed2 X0 X1 ks) = true)
    (l0 : n0 ≤ 6) (l1 : n1 ≤ 6) (lk : kn ≤ 60) (f0 : (Jn.forms X0).length ≤ 300000) (f1 : (Jn.forms X1).length ≤ 300000) {q : Bool} (hq : sameRows X0 X1 = q) {D3 : Dk.Disk} (hD3 : Dk.Kept (Dk.arm (Jn.RWd Dk.new 5 (5 + 1) X0 0) (1 + x % 5) ks) D3 5)
    (hC : ∀ (w0 w : World) (g lb : Nat) (pa xa : Option Addr) (pc b off cap n : Nat), JV w0 w g lb 5 (Dk.arm (Jn.RWd Dk.new 5 (5 + 1) X0 0) (1 + x % 5) ks) X0 X0.length pa pc → Lv w0 xa b off cap X1 → X1.length = n → (xa = none → cap = 0) →
      Calls Tryd.prog 19 #[.pointer (some ⟨lb, 0, none⟩), .slice xa n cap] w fun e w' => ∃ pa pc, e = .returned (.int .i64 8) ∧ JV w0 w' g lb 5 D3 X0 X0.length pa pc) :
    Calls Tryd.prog 8 #[.slice xa0 n0 c0, .slice xa1 n1 c1, .int .i64 x, .slice ka kn kc] w fun e w' => e = .returned (.bool true) ∧ Below w.heap.size w w' := by
  have C0 := Lib.hid (small_any w hE)
  have R1 : Rest (Jn.RWd Dk.new 5 (5 + 1) X0 0) := rest_new.rw 5 X0 0
  have R2 := R1.arm (1 + x % 5) ks
  have R3 : Rest (Dk.start (Dk.arm D3 0 [])) := by
    have := R2.kept hD3
    exact ⟨this.down, this.queue, this.lost⟩
  have L3 : (Dk.start (Dk.arm D3 0 [])).last 5 = Jn.H X0 := by
    show D3.last 5 = _
    rw [hD3.last]
    exact (Jn.RWd_read Dk.new 5 X0 0).2
  have P3 := Lib.hid (parse_at R3 L3 f0)
  obtain ⟨D5, hD5⟩ : ∃ D5, Dk.start (Dk.arm D3 0 []) = D5 := ⟨_, rfl⟩
  have A5 : D5.armed = 0 := by rw [← hD5]; rfl
  rw [hD5] at R3 P3
  have R6 := R3.rw 5 X1 0
  obtain ⟨R8, L8⟩ := R6.crash ks 5
  have P8 := Lib.hid (parse_at R8 (L8.trans (Jn.RWd_read D5 5 X1 0).2) f1)
  have P0 : RowKit.Hid (Jn.parse (Dk.read Dk.new 5) = some ([], 16)) := Lib.hid Jn.parse_empty
  have HR3 := Lib.hid R3
  have HA5 := Lib.hid A5
  have HR8 := Lib.hid R8
  have H0 := Lib.hid h0
  have H1 := Lib.hid h1
  have HK := Lib.hid hk
  have HF := Lib.hid hf
  have HE := Lib.hid hE
  have HC := Lib.hid hC
  have HQ := Lib.hid hq
  have HD5 := Lib.hid hD5
  have HX0 := Lib.hid (show X0.length ≤ 1000000 from by rw [h0.len]; omega)
  have HX1 := Lib.hid (show X1.length ≤ 1000000 from by rw [h1.len]; omega)
  have HS := Lib.hid (show sameRows X1 X1 = true from by simp [sameRows])
  have HS0 := Lib.hid (show sameRows X0 X0 = true from by simp [sameRows])
  have HPK := Lib.hid (fun (w : World) => pick_5 x hx0 hx1 w)
  have hp0 : 0 ≤ x % 5 := by omega
  have hp1 : x % 5 < 5 := by omega
  obtain ⟨p, hp⟩ : ∃ p, x % 5 = p := ⟨_, rfl⟩
  rw [hp] at hp0 hp1 HPK HC
  clear h0 h1 hk hf R1 R2 R3 R6 R8 L3 L8 A5 hC hq hD3 hD5 hE hp hx0 hx1
  have HL0 := Lib.hid H0.out.len
  cases q
  all_goals
    go_enter Tryd.func8, Tryd.ntmps8
    go_wp2_with (first
      | (go_at_call 32; with_reducible refine (jv_same HJ10.out HLX.out rfl (H1.out.below HB2.out).lv H1.out.len HX1.out (by omega) HS.out).mono ?_; rintro _ w9 ⟨rfl, hJ⟩; have HJ11 := Lib.hid hJ; clear hJ)
      | (go_at_call 33; with_reducible refine (jv_all HJ9.out).mono ?_; rintro _ w9 ⟨ta, tc, tb, rfl, hJ, hl⟩; have HJ10 := Lib.hid hJ; have HLX := Lib.hid hl; clear hJ hl)
      | (go_at_call 13; with_reducible refine (open5 HJ8c.out.mine HJ8c.out.env HR8.out.down P8.out).mono ?_; rintro _ w9 ⟨l5, pa7, pc7, rfl, hJ⟩; have HJ9 := Lib.hid hJ; clear hJ)
      | (go_at_call 23; with_reducible refine (jv_start HJ8b.out).mono ?_; rintro _ w9 ⟨⟨v9, rfl⟩, hJ⟩; have HJ8c := Lib.hid hJ; clear hJ)
      | (go_at_call 21; with_reducible refine (jv_crash HJ8.out ka kb ko kn kc ks (HK.out.below HB2.out).ir HK.out.len).mono ?_; rintro _ w9 ⟨⟨v9, rfl⟩, hJ⟩; have HJ8b := Lib.hid hJ; clear hJ)
      | (go_at_call 19; with_reducible refine (jv_rewrite HJ7.out HR3.out HA5.out (H1.out.below HB2.out).lv H1.out.len H1.out.nil (by decide) (by assumption)).mono ?_; rintro _ w9 ⟨pa6, pc6, rfl, hJ⟩; have HJ8 := Lib.hid hJ; clear hJ)
      | (go_at_call 32; with_reducible refine (jv_same HJ6b.out HLW.out rfl (H1.out.below HB2.out).lv H1.out.len HX0.out (by omega) HQ.out).mono ?_; rintro _ w9 ⟨rfl, hJ⟩; have HJ7 := Lib.hid hJ; clear hJ)
      | (go_at_call 33; with_reducible refine (jv_all HJ6.out).mono ?_; rintro _ w9 ⟨za, zc, zb, rfl, hJ, hl⟩; have HJ6b := Lib.hid hJ; have HLW := Lib.hid hl; clear hJ hl)
      | (go_at_call 32; with_reducible refine (jv_same HJ5.out HLV.out rfl (H0.out.below HB2.out).lv H0.out.len HX0.out (by omega) HS0.out).mono ?_; rintro _ w9 ⟨rfl, hJ⟩; have HJ6 := Lib.hid hJ; clear hJ)
      | (go_at_call 33; with_reducible refine (jv_all HJ4b.out).mono ?_; rintro _ w9 ⟨ya, yc, yb, rfl, hJ, hl⟩; have HJ5 := Lib.hid hJ; have HLV := Lib.hid hl; clear hJ hl)
      | (go_at_call 13; with_reducible refine (open5 HJ4.out.mine HJ4.out.env HR3.out.down P3.out).mono ?_; rintro _ w9 ⟨l4, pa4, pc4, rfl, hJ⟩; have HJ4b := Lib.hid hJ; clear hJ)
      | (go_at_call 23; with_reducible refine (jv_start HJ3c.out).mono ?_; rintro _ w9 ⟨⟨v9, rfl⟩, hJ⟩; rw [HD5.out] at hJ; have HJ4 := Lib.hid hJ; clear hJ)
      | (go_at_call 35; with_reducible refine (jv_arm_nil HJ3b.out 0 (by decide)).mono ?_; rintro _ w9 ⟨⟨v9, rfl⟩, hJ⟩; have HJ3c := Lib.hid hJ; clear hJ)
      | (go_at_call 19; with_reducible refine (HC.out _ _ _ _ _ _ _ _ _ _ _ HJ3.out (H1.out.below HB2.out).lv H1.out.len H1.out.nil).mono ?_; rintro _ w9 ⟨pa3, pc3, rfl, hJ⟩; have HJ3b := Lib.hid hJ; clear hJ)
      | (go_at_call 35; with_reducible refine (jv_arm HJ2.out (1 + p) (by omega) ka kb ko kn kc ks (HK.out.below HB2.out).ir HK.out.len HK.out.nil (by omega)).mono ?_; rintro _ w9 ⟨⟨v9, rfl⟩, hJ⟩; have HJ3 := Lib.hid hJ; clear hJ)
      | (go_at_call 26; with_reducible refine (HPK.out _).mono ?_; rintro _ w9 ⟨rfl, rfl⟩; skip)
      | (go_at_call 19; with_reducible refine (jv_rewrite HJ1.out rest_new rfl (H0.out.below HB2.out).lv H0.out.len H0.out.nil (by decide) (by assumption)).mono ?_; rintro _ w9 ⟨pa2, pc2, rfl, hJ⟩; have HJ2 := Lib.hid hJ; clear hJ)
      | (go_at_call 13; with_reducible refine (open5 HM.out (HE.out.below HB2.out) rfl P0.out).mono ?_; rintro _ w9 ⟨l1, pa1, pc1, rfl, hJ⟩; have HJ1 := Lib.hid hJ; clear hJ)
      | (go_at_call 11; with_reducible refine (mine_new _).mono ?_; rintro _ w9 ⟨rfl, hm⟩; have HM := Lib.hid hm; clear hm)
      | (go_at_call 10; with_reducible refine (few_two _ X0 X1 ks xa0 xa1 ka b0 o0 n0 c0 b1 o1 n1 c1 kb ko kn kc (H0.out.below HB0.out) (H1.out.below HB0.out) (HK.out.below HB0.out) HF.out).mono ?_; rintro _ w9 ⟨rfl, hb1⟩; have HB2 := Lib.hid (below_to HB0.out (Nat.le_refl _) hb1); clear hb1)
      | (go_at_call 9; with_reducible refine (C0.out).mono ?_; rintro _ w9 ⟨rfl, hb0⟩; have HB0 := Lib.hid hb0; clear hb0))
    go_ret
    exact ⟨rfl, below_to HB2.out (Nat.le_refl _) HJ11.out.mine.below⟩
theorem jturns_law (x : Int) (hx0 : -9223372036854775808 ≤ x) (hx1 : x ≤ 9223372036854775807) (h0 : RL w xa0 b0 o0 n0 c0 X0) (h1 : RL w xa1 b1 o1 n1 c1 X1) (hk : KL w ka kb ko kn kc ks) (hE : EnvJ w) :
    Calls Tryd.prog 8 #[.slice xa0 n0 c0, .slice xa1 n1 c1, .int .i64 x, .slice ka kn kc] w fun e w' => e = .returned (.bool true) ∧ Below w.heap.size w w' := by
  by_cases hf : Jn.few (deed2 X0 X1 ks) = true
  · obtain ⟨_, hall⟩ := Jn.few_true hf
    obtain ⟨_, r0, k0, s0⟩ := hall ⟨0, [], X0, ks, 0⟩ (by simp [deed2])
    obtain ⟨_, r1, _, s1⟩ := hall ⟨0, [], X1, [], 0⟩ (by simp [deed2])
    have f0 := Jn.forms_le 6 200 X0 r0 s0
    have f1 := Jn.forms_le 6 200 X1 r1 s1
    have e0 : n0 ≤ 6 := by rw [← h0.len]; exact r0
    have e1 : n1 ≤ 6 := by rw [← h1.len]; exact r1
    have ek : kn ≤ 60 := by rw [← hk.len]; exact k0
    obtain ⟨c, D', R', s', ho, hC⟩ := rewrite_does (sure := X0.length) (R := X0) (X := X1) ((rest_new.rw 5 X0 0).arm (1 + x % 5) ks) (f := 5) (by decide) (by omega)
    cases ho with
    | ok a => exact jturns_ok x hx0 hx1 h0 h1 hk hE hf e0 e1 ek (by omega) (by omega) rfl rfl hC
    | down _ h => exact jturns_down x hx0 hx1 h0 h1 hk hE hf e0 e1 ek (by omega) (by omega) rfl h hC
  · exact jturns_no x h0 h1 hk hE (by simpa using hf)
end
end Go.Proofs.YtbpodclodflgfaaDoor
