/-
  JournalLists: the law returns true.
-/
import Derived.Test.YtbpodclodflgfaaDoorJLs
namespace Go.Proofs.YtbpodclodflgfaaDoor
open Go Go.RowKit
/-- The log and the law's own list of rows. -/
structure JT (w2 w : World) (g lb f : Nat) (D : Dk.Disk) (R : List (List UInt8)) (sure : Nat) (v : Value) (Y : List (List UInt8)) : Prop where
  jv : JL w2 w g lb f D R sure
  own : SOwn w w2.heap.size v Y
  ap : ∀ b, v.ownBlock = some b → ¬ JFoot w g lb b
section
variable {w2 w w' w1 : World} {g lb f sure : Nat} {D D' : Dk.Disk} {R R' Y Y' : List (List UInt8)} {sure' xb k : Nat} {v v' : Value} {L : List Value}
theorem JS.jt (h : JS w2 w g lb f D R sure v Y xb L) : JT w2 w g lb f D R sure v Y := ⟨h.jv, h.own, h.ap⟩
theorem JT.below (h : JT w2 w g lb f D R sure v Y) : Below w2.heap.size w2 w := by
  obtain ⟨pa, pc, hj⟩ := h.jv
  exact hj.mine.below
theorem JT.deed (h : JT w2 w g lb f D R sure v Y) (v0 v1 v3 v4 v5 : Value) : JS w2 (w.alloc (.cells #[v0, v1, v3, v4, v5] 39)) g lb f D R sure v Y w.heap.size [v0, v1, v3, v4, v5] := by
  obtain ⟨pa, pc, h0⟩ := h.jv
  have hb := below_new w (.cells #[v0, v1, v3, v4, v5] 39)
  obtain ⟨h1, h2⟩ := h0.quiet hb
  obtain ⟨h3, h4⟩ := own_jmv h.own h2 h.ap
  exact ⟨⟨pa, pc, h1⟩, h3, h4, Blk.made w #[v0, v1, v3, v4, v5] 39⟩
theorem JS.xcells {v0 v1 v3 v4 v5 : Value} (h : JS w2 w g lb f D R sure v Y xb [v0, v1, v3, v4, v5]) : w.cell? ⟨xb, 0, none⟩ = some v0 ∧ w.cell? ⟨xb, 1, none⟩ = some v1 ∧ w.cell? ⟨xb, 2, none⟩ = some v3 ∧ w.cell? ⟨xb, 3, none⟩ = some v4 ∧ w.cell? ⟨xb, 4, none⟩ = some v5 :=
  ⟨h.xblk.cell (j := 0) rfl, h.xblk.cell (j := 1) rfl, h.xblk.cell (j := 2) rfl, h.xblk.cell (j := 3) rfl, h.xblk.cell (j := 4) rfl⟩
/-- A log on a calm disk, k rounds done. -/
structure Calm8 (D : Dk.Disk) (f : Nat) (R : List (List UInt8)) (s k : Nat) : Prop where
  li : Jn.LI D f R s
  armed : D.armed = 0
  lost : D.lost ≤ 0
  q : D.queue.length ≤ 3000 * k
  fl : (Jn.forms R).length ≤ 1400 * k
  f6 : f ≤ 6
theorem Calm8.kp {D' : Dk.Disk} {s' : Nat} (h : Calm8 D f R sure k) {j : Nat} (hk : Jn.Kp D D' j) (hj : j ≤ 3000) (hl : Jn.LI D' f R' s') (hf : (Jn.forms R').length ≤ 1400 * (k + 1)) : Calm8 D' f R' s' (k + 1) :=
  ⟨hl, hk.armed h.armed, hk.lost h.lost, by have := hk.queue; have := h.q; omega, hf, h.f6⟩
theorem Calm8.next (h : Calm8 D f R sure k) : Calm8 D f R sure (k + 1) := h.kp (Jn.Kp.refl D 0) (by omega) h.li (by have := h.fl; omega)
theorem cl_flush (h : JS w2 w g lb f D R sure v Y xb L) (c : Calm8 D f R sure k) (hk : k ≤ 30) : Calls Tryd.prog 15 #[.pointer (some ⟨lb, 0, none⟩)] w fun e w' => e = .returned (.int .i64 0) ∧ ∃ D', JS w2 w' g lb f D' R R.length v Y xb L ∧ Calm8 D' f R R.length (k + 1) := by
  refine (js_flush h (by have := c.q; omega)).mono fun e w' ⟨x, y⟩ => ?_
  rcases Jn.flushL_out c.li c.f6 with ⟨e1, l1, s1, k1⟩ | ⟨_, e1, _⟩ | ⟨_, e1, _⟩
  · rw [e1] at x
    rw [s1] at y l1
    exact ⟨x, _, y, c.kp k1 (by omega) l1 (by have := c.fl; omega)⟩
  · have := c.lost; omega
  · exact absurd c.armed e1
theorem cl_batch (h : JS w2 w g lb f D R sure v Y xb L) (c : Calm8 D f R sure k) (hk : k ≤ 30) {xa : Option Addr} {b off n cap : Nat} {X : List (List UInt8)} (hL : Lv w2 xa b off cap X) (hn : X.length = n) (hX : (Jn.forms X).length ≤ 1300) : Calls Tryd.prog 17 #[.pointer (some ⟨lb, 0, none⟩), .slice xa n cap] w fun e w' => e = .returned (.int .i64 0) ∧ ∃ D', JS w2 w' g lb f D' (R ++ X) (R ++ X).length v Y xb L ∧ Calm8 D' f (R ++ X) (R ++ X).length (k + 1) := by
  refine (js_batch h hL hn (by omega) (by have := c.q; omega)).mono fun e w' ⟨x, y⟩ => ?_
  rcases Jn.batchL_out c.li c.f6 X (by have := c.fl; omega) with ⟨e1, l1, r1, s1, k1⟩ | ⟨_, e1, _⟩ | ⟨_, e1, _⟩
  · rw [e1] at x
    rw [r1, s1] at y
    rw [s1] at l1
    exact ⟨x, _, y, c.kp k1 (by omega) l1 (by rw [Jn.forms_append, List.length_append]; have := c.fl; omega)⟩
  · have := c.lost; omega
  · exact absurd c.armed e1
theorem cl_rewrite (h : JS w2 w g lb f D R sure v Y xb L) (c : Calm8 D f R sure k) (hk : k ≤ 30) {xa : Option Addr} {b off n cap : Nat} {X : List (List UInt8)} (hL : Lv w2 xa b off cap X) (hn : X.length = n) (hnil : xa = none → cap = 0) (hX : (Jn.forms X).length ≤ 1300) : Calls Tryd.prog 19 #[.pointer (some ⟨lb, 0, none⟩), .slice xa n cap] w fun e w' => e = .returned (.int .i64 0) ∧ ∃ D', JS w2 w' g lb f D' X X.length v Y xb L ∧ Calm8 D' f X X.length (k + 1) := by
  refine (js_rewrite h hL hn hnil c.f6 (by omega) (by have := c.q; omega)).mono fun e w' ⟨x, y⟩ => ?_
  rcases Jn.rewriteL_out c.li c.f6 X (by omega) with ⟨e1, l1, r1, s1, k1⟩ | ⟨_, e1, _⟩ | ⟨_, e1, _⟩
  · rw [e1] at x
    rw [r1, s1] at y
    rw [s1] at l1
    exact ⟨x, _, y, c.kp k1 (by omega) l1 (by omega)⟩
  · have := c.lost; omega
  · exact absurd c.armed e1
theorem cl_append (h : JS w2 w g lb f D R sure v Y xb L) (c : Calm8 D f R sure k) (hk : k ≤ 30) (r : ByteArray) (hr : r.size ≤ 200) : Calls Tryd.prog 28 #[.pointer (some ⟨lb, 0, none⟩), .string r] w fun e w' => e = .returned (.int .i64 0) ∧ ∃ D', JS w2 w' g lb f D' (R ++ [r.data.toList]) sure v Y xb L ∧ Calm8 D' f (R ++ [r.data.toList]) sure (k + 1) := by
  refine (js_append h r (by omega) (by have := c.q; omega)).mono fun e w' ⟨x, y⟩ => ?_
  have hz := Lib.size_eq r
  have hfl : (Jn.forms [r.data.toList]).length ≤ 216 := by rw [Jn.forms_one, Jn.form_length]; omega
  rcases Jn.add_out c.li c.f6 [r.data.toList] (by simp) (by have := c.fl; omega) with ⟨e1, l1, k1⟩ | ⟨_, e1, _⟩
  · rw [e1] at x y
    have e2 : Jn.addRows .ok R [r.data.toList] = R ++ [r.data.toList] := if_pos rfl
    rw [e2] at y
    exact ⟨x, _, y, c.kp k1 (by omega) l1 (by rw [Jn.forms_append, List.length_append]; have := c.fl; omega)⟩
  · exact absurd c.armed e1
theorem open_fi {w0 w : World} {g : Nat} {D : Dk.Disk} {L : List (List UInt8)} {k : Nat} (h : Mine w0 w g D) (hE : EnvJ w0) (f : Nat) (fi : Int) (hfi : (f : Int) = fi) (hf : f ≤ 6) (hd : D.down = false) (hp : Jn.parse (Dk.read D f) = some (L, k)) :
    Calls Tryd.prog 13 #[.pointer (some ⟨g, 0, none⟩), .int .i64 fi] w fun e w' => ∃ lb pa pc, e = .returned (.tuple #[.pointer (some ⟨lb, 0, none⟩), .int .i64 0]) ∧ JV w0 w' g lb f D L L.length pa pc := by
  subst hfi
  exact (open_ok h hE f hf hd hp).mono fun _ _ ⟨a, b, c, d, _, e, _⟩ => ⟨a, b, c, d, e⟩
theorem js_sure_eq (h : JS w2 w g lb f D R sure v Y xb L) {m : Nat} (hm : sure = m) : Calls Tryd.prog 34 #[.pointer (some ⟨lb, 0, none⟩)] w fun e w' => e = .returned (.int .i64 (m : Int)) ∧ w = w' := by
  subst hm
  exact js_sure h
end
theorem few_of (X : List Jn.Deed) (n : Nat) (hn : X.length = n) (ya : Option Addr) (b off cap : Nat) (w : World) (hl : LD w ya b off X) {q : Bool} (hq : Jn.few X = q) :
    Calls Tryd.prog 10 #[.slice ya n cap] w fun e w' => e = .returned (.bool q) ∧ Below w.heap.size w w' := by
  subst hq
  exact few_any X n hn ya b off cap w hl
theorem same_self (X : List (List UInt8)) : sameRows X X = true := by simp [sameRows]
theorem lit_one (w : World) (t : ByteArray) : Lv (w.alloc (.cells #[.string t] 9)) (some ⟨w.heap.size, 0, none⟩) w.heap.size 0 1 [t.data.toList] := by
  have := lv_lit w [t.data.toList]
  rw [show (sv [t.data.toList]).toArray = #[Value.string t] from by rw [show sv [t.data.toList] = [encStr t.data.toList] from rfl, encStr_to rfl]] at this
  exact this
set_option maxHeartbeats 8000000 in
set_option maxRecDepth 100000 in
theorem jlists_law (X : List Jn.Deed) (n : Nat) (hn : X.length = n) (_hb : n ≤ 9223372036854775807) (ya : Option Addr) (b off cap : Nat) (w : World) (hl : LD w ya b off X) (hE : EnvJ w) :
    Calls Tryd.prog 5 #[.slice ya n cap] w fun e w' => e = .returned (.bool true) ∧ Below w.heap.size w w' := by
  have C0 := Lib.hid (small_any w hE)
  have HE := Lib.hid hE
  have HL := Lib.hid hl
  have HN := Lib.hid hn
  clear hl hE
  cases hf : Jn.few X with
  | false =>
    have HF := Lib.hid hf
    clear hf hn
    go_enter Tryd.func5, Tryd.ntmps5
    go_wp2_with (first
      | (go_at_call 10; with_reducible refine (few_of X n HN.out ya b off cap _ (HL.out.below HB0.out) HF.out).mono ?_; rintro _ w3 ⟨rfl, hb1⟩; have HB2 := Lib.hid (below_to HB0.out (Nat.le_refl _) hb1); clear hb1)
      | (go_at_call 9; with_reducible refine (C0.out).mono ?_; rintro _ w2 ⟨rfl, hb0⟩; have HB0 := Lib.hid hb0; clear hb0))
    go_ret
    exact ⟨rfl, HB2.out⟩
  | true =>
    have HF := Lib.hid hf
    have HFT := Lib.hid (Jn.few_true hf)
    have hN : n ≤ 30 := by rw [← hn]; exact HFT.out.1
    have P0 : RowKit.Hid (Jn.parse (Dk.read Dk.new 0) = some ([], 16)) := Lib.hid Jn.parse_empty
    clear hf hn
    go_enter Tryd.func5, Tryd.ntmps5
    go_wp2_with (first
      | (go_at_call 13; with_reducible refine (open_fi HM.out (HE.out.below HB2.out) 0 0 rfl (by decide) rfl P0.out).mono ?_; rintro _ w5 ⟨lb, pa0, pc0, rfl, hJ⟩; have HJ0 := Lib.hid hJ; clear hJ)
      | (go_at_call 11; with_reducible refine (mine_new _).mono ?_; rintro _ w4 ⟨rfl, hm⟩; have HM := Lib.hid hm; clear hm)
      | (go_at_call 10; with_reducible refine (few_of X n HN.out ya b off cap _ (HL.out.below HB0.out) HF.out).mono ?_; rintro _ w3 ⟨rfl, hb1⟩; have HB2 := Lib.hid (below_to HB0.out (Nat.le_refl _) hb1); clear hb1)
      | (go_at_call 9; with_reducible refine (C0.out).mono ?_; rintro _ w2 ⟨rfl, hb0⟩; have HB0 := Lib.hid hb0; clear hb0))
    go_loopw [6, 7, 8, 9, 10, 11] (fun x6 x7 x8 x9 _ _ wr => ∃ (k : Nat) (va : Option Addr) (vn vc s : Nat), x9 = .int .i64 k ∧ k ≤ n ∧ x6 = .int .i64 0 ∧ x7 = .slice va vn vc ∧ x8 = .int .i64 (s : Int) ∧ Hid (∃ D R, R.length = vn ∧ JT w3 wr w3.heap.size lb 0 D R s (.slice va vn vc) R ∧ Calm8 D 0 R s k)) (fun _ _ _ x9 _ _ _ => n - (intOf x9).toNat)
    case atStart => exact ⟨0, none, 0, 0, 0, rfl, Nat.zero_le _, rfl, rfl, rfl, Dk.new, [], rfl, ⟨⟨pa0, pc0, HJ0.out⟩, SOwn.nil _ _, fun b hb => by cases hb⟩, Jn.li_new 0, rfl, Int.le_refl 0, Nat.le_refl _, Nat.le_refl _, by decide⟩
    case round =>
      obtain ⟨k, va, vn, vc, s, rfl, hk, rfl, rfl, rfl, hD⟩ := hrel
      obtain ⟨D, R, hvn, hJ, hC⟩ := hD.out
      clear hD
      have HT := Lib.hid hJ
      have HC := Lib.hid hC
      have HVN := Lib.hid hvn
      clear hJ hC hvn
      by_cases hlt : k < n
      · obtain ⟨a, ha⟩ : ∃ a, X[k]? = some a := ⟨_, List.getElem?_eq_getElem (by rw [HN.out]; exact hlt)⟩
        have HA := Lib.hid (HFT.out.2 a (List.mem_of_getElem? ha))
        have HL2 := Lib.hid (HL.out.below HB2.out)
        obtain rfl := HL2.out.at_ (by rw [HN.out]; omega)
        obtain ⟨xa, xb, xoff, xn, xcap, ka, kb, koff, kn, kcap, hac, hcs⟩ := HL2.out.cell k a ha
        have HDC := Lib.hid hac
        obtain ⟨c0, c1, c2, c3, c4⟩ := dlcells_at fun i v hv => (HT.out.below.cell (p := ⟨b, off + k * 5 + i, none⟩) (HL2.out.lt (by rw [HN.out]; omega))).trans (hcs i v hv)
        obtain ⟨t, ht⟩ : ∃ t, enc a.row = t := ⟨_, rfl⟩
        obtain ⟨N, hNN⟩ : ∃ N, a.do_ = N := ⟨_, rfl⟩
        obtain ⟨M, hMM⟩ : ∃ M, a.n = M := ⟨_, rfl⟩
        rw [ht] at c1
        rw [hNN] at c0
        rw [hMM] at c4
        have HTL := Lib.hid (show t.size ≤ 200 from by rw [← ht, Lib.size_eq, enc_list]; exact HA.out.1)
        have HXF := Lib.hid (show (Jn.forms a.rows).length ≤ 1300 from by have := Jn.forms_le 6 200 a.rows HA.out.2.1 HA.out.2.2.2; omega)
        have h7 := and_7 N
        have h7r : 0 ≤ N % 8 ∧ N % 8 < 8 := by omega
        obtain ⟨r, hr⟩ : ∃ r, N % 8 = r := ⟨_, rfl⟩
        rw [hr] at h7 h7r
        have HJ := Lib.hid (HT.out.deed (.int .i64 N) (.string t) (.slice xa xn xcap) (.slice ka kn kcap) (.int .i64 M))
        have HFL := HC.out.fl
        have HRC := Jn.forms_count R
        have hxn : xn ≤ 6 := by rw [← HDC.out.xl]; exact HA.out.2.1
        have HBG := Lib.hid (show R.length + xn ≤ 1000000000 from by omega)
        have HBG0 := Lib.hid (show ([] : List (List UInt8)).length + xn ≤ 1000000000 from by show 0 + xn ≤ _; omega)
        have HBG1 := Lib.hid (show R.length + 1 ≤ 1000000000 from by omega)
        have HRL := Lib.hid (show R.length ≤ 1000000 from by omega)
        have HRL4 := Lib.hid (show (R ++ a.rows).length ≤ 1000000 from by rw [List.length_append, HDC.out.xl]; omega)
        have HRL5 := Lib.hid (show a.rows.length ≤ 1000000 from by rw [HDC.out.xl]; omega)
        have HRL0 := Lib.hid (show (R ++ [t.data.toList]).length ≤ 1000000 from by rw [List.length_append]; show R.length + 1 ≤ _; omega)
        clear HFL HRC hxn hac hcs ht hNN hMM hr ha
        obtain ⟨d0, d1, d2, d3, d4⟩ := HJ.out.xcells
        clear d3 d4
        by_cases r3 : r = 3
        · subst r3
          go_wp2_with (first
            | (go_at_call 34; with_reducible refine (js_sure_eq HJ.out HVN.out).mono ?_; rintro _ w9 ⟨rfl, rfl⟩; skip)
            | (go_at_call 32; with_reducible refine (js_same HJ.out HO.out HRL.out HRL.out (same_self _)).mono ?_; rintro _ w9 ⟨rfl, hJ⟩; have HJ := Lib.hid hJ; clear hJ)
            | (go_at_call 33; with_reducible refine (js_all HJ.out).mono ?_; rintro _ w9 ⟨za, zn, zc, rfl, hJ, ho, hz⟩; have HJ := Lib.hid hJ; have HO := Lib.hid ho; clear hJ ho hz)
            | (go_at_call 15; with_reducible refine (cl_flush HJ.out HC.out (by omega)).mono ?_; rintro _ w9 ⟨rfl, D9, hJ, hC⟩; have HJ := Lib.hid hJ; have HC2 := Lib.hid hC; clear hJ hC))
          go_roundw
          case rel => exact ⟨k + 1, va, vn, vc, vn, by go_num, by omega, rfl, rfl, rfl, D9, R, HVN.out, by have := HJ.out.jt; rw [HVN.out] at this; exact this, by have := HC2.out; rw [HVN.out] at this; exact this⟩
          case measure => simp [intOf]; omega
        by_cases r4 : r = 4
        · subst r4
          go_wp2_with (first
            | (go_at_call 34; with_reducible refine (js_sure_eq HJ.out HPN.out).mono ?_; rintro _ w9 ⟨rfl, rfl⟩; skip)
            | (go_at_call 32; with_reducible refine (js_same HJ.out HO.out HRL4.out HRL4.out (same_self _)).mono ?_; rintro _ w9 ⟨rfl, hJ⟩; have HJ := Lib.hid hJ; clear hJ)
            | (go_at_call 33; with_reducible refine (js_all HJ.out).mono ?_; rintro _ w9 ⟨za, zn, zc, rfl, hJ, ho, hz⟩; have HJ := Lib.hid hJ; have HO := Lib.hid ho; clear hJ ho hz)
            | (at_builtin; refine wpList_js_app rfl (.tmp 63) (.tmp 65) rfl HJ.out rfl xa xb xoff xn xcap a.rows rfl (HDC.out.lv.below HJ.out.below) HDC.out.xl HDC.out.xnil HBG.out ?_; intro pa pn pc w9 HJ HPN)
            | (go_at_call 17; with_reducible refine (cl_batch HJ.out HC.out (by omega) HDC.out.lv HDC.out.xl HXF.out).mono ?_; rintro _ w9 ⟨rfl, D9, hJ, hC⟩; have HJ := Lib.hid hJ; have HC2 := Lib.hid hC; clear hJ hC; obtain ⟨d0, d1, d2, d3, d4⟩ := HJ.out.xcells; clear d0 d3 d4))
          go_roundw
          case rel => exact ⟨k + 1, pa, pn, pc, pn, by go_num, by omega, rfl, rfl, rfl, D9, R ++ a.rows, HPN.out, by have := HJ.out.jt; rw [HPN.out] at this; exact this, by have := HC2.out; rw [HPN.out] at this; exact this⟩
          case measure => simp [intOf]; omega
        by_cases r5 : r = 5
        · subst r5
          go_wp2_with (first
            | (go_at_call 34; with_reducible refine (js_sure_eq HJ.out HPN.out).mono ?_; rintro _ w9 ⟨rfl, rfl⟩; skip)
            | (go_at_call 32; with_reducible refine (js_same HJ.out HO.out HRL5.out HRL5.out (same_self _)).mono ?_; rintro _ w9 ⟨rfl, hJ⟩; have HJ := Lib.hid hJ; clear hJ)
            | (go_at_call 33; with_reducible refine (js_all HJ.out).mono ?_; rintro _ w9 ⟨za, zn, zc, rfl, hJ, ho, hz⟩; have HJ := Lib.hid hJ; have HO := Lib.hid ho; clear hJ ho hz)
            | (at_builtin; refine wpList_js_app rfl (.tmp 75) (.tmp 77) rfl HJ2.out rfl xa xb xoff xn xcap a.rows rfl (HDC.out.lv.below HJ2.out.below) HDC.out.xl HDC.out.xnil HBG0.out ?_; intro pa pn pc w9 HJ HPN; rw [List.nil_append] at HJ HPN)
            | (go_at_call 19; with_reducible refine (cl_rewrite HJ.out HC.out (by omega) HDC.out.lv HDC.out.xl HDC.out.xnil HXF.out).mono ?_; rintro _ w9 ⟨rfl, D9, hJ, hC⟩; have HJ := Lib.hid hJ; have HC2 := Lib.hid hC; clear hJ hC; obtain ⟨d0, d1, d2, d3, d4⟩ := HJ.out.xcells; clear d0 d3 d4; have HJ2 := Lib.hid HJ.out.empty; obtain ⟨f0, f1, f2, f3, f4⟩ := HJ2.out.xcells; clear f0 f1 f3 f4))
          go_roundw
          case rel => exact ⟨k + 1, pa, pn, pc, pn, by go_num, by omega, rfl, rfl, rfl, D9, a.rows, HPN.out, by have := HJ.out.jt; rw [HPN.out] at this; exact this, by have := HC2.out; rw [HPN.out] at this; exact this⟩
          case measure => simp [intOf]; omega
        by_cases r6 : r = 6
        · subst r6
          go_wp2_with (first
            | (go_at_call 34; with_reducible refine (js_sure_eq HJ.out rfl).mono ?_; rintro _ w9 ⟨rfl, rfl⟩; skip)
            | (go_at_call 32; with_reducible refine (js_same HJ.out HO.out HRL.out HRL.out (same_self _)).mono ?_; rintro _ w9 ⟨rfl, hJ⟩; have HJ := Lib.hid hJ; clear hJ)
            | (go_at_call 33; with_reducible refine (js_all HJ.out).mono ?_; rintro _ w9 ⟨za, zn, zc, rfl, hJ, ho, hz⟩; have HJ := Lib.hid hJ; have HO := Lib.hid ho; clear hJ ho hz))
          go_roundw
          case rel => exact ⟨k + 1, va, vn, vc, s, by go_num, by omega, rfl, rfl, rfl, D, R, HVN.out, HJ.out.jt, HC.out.next⟩
          case measure => simp [intOf]; omega
        by_cases r7 : r = 7
        · subst r7
          go_wp2_with (first
            | (go_at_call 34; with_reducible refine (js_sure_eq HJ.out rfl).mono ?_; rintro _ w9 ⟨rfl, rfl⟩; skip)
            | (go_at_call 32; with_reducible refine (js_same HJ.out HO.out HRL.out HRL.out (same_self _)).mono ?_; rintro _ w9 ⟨rfl, hJ⟩; have HJ := Lib.hid hJ; clear hJ)
            | (go_at_call 33; with_reducible refine (js_all HJ.out).mono ?_; rintro _ w9 ⟨za, zn, zc, rfl, hJ, ho, hz⟩; have HJ := Lib.hid hJ; have HO := Lib.hid ho; clear hJ ho hz))
          go_roundw
          case rel => exact ⟨k + 1, va, vn, vc, s, by go_num, by omega, rfl, rfl, rfl, D, R, HVN.out, HJ.out.jt, HC.out.next⟩
          case measure => simp [intOf]; omega
        have e3 : (r == 3) = false := by simpa using r3
        have e4 : (r == 4) = false := by simpa using r4
        have e5 : (r == 5) = false := by simpa using r5
        have e6 : (r == 6) = false := by simpa using r6
        have e7 : (r == 7) = false := by simpa using r7
        go_wp2_with (first
          | (go_at_call 34; with_reducible refine (js_sure_eq HJ.out rfl).mono ?_; rintro _ w9 ⟨rfl, rfl⟩; skip)
          | (go_at_call 32; with_reducible refine (js_same HJ.out HO.out HRL0.out HRL0.out (same_self _)).mono ?_; rintro _ w9 ⟨rfl, hJ⟩; have HJ := Lib.hid hJ; clear hJ)
          | (go_at_call 33; with_reducible refine (js_all HJ.out).mono ?_; rintro _ w9 ⟨za, zn, zc, rfl, hJ, ho, hz⟩; have HJ := Lib.hid hJ; have HO := Lib.hid ho; clear hJ ho hz)
          | (at_builtin; refine wpList_js_app rfl (.tmp 46) (.tmp 49) rfl HJ2.out rfl (some ⟨w9.heap.size, 0, none⟩) w9.heap.size 0 1 1 [t.data.toList] rfl (lit_one _ t) rfl (fun h => by cases h) HBG1.out ?_; intro pa pn pc w9 HJ HPN)
          | (go_at_call 28; with_reducible refine (cl_append HJ.out HC.out (by omega) t HTL.out).mono ?_; rintro _ w9 ⟨rfl, D9, hJ, hC⟩; have HJ := Lib.hid hJ; have HC2 := Lib.hid hC; clear hJ hC; obtain ⟨d0, d1, d2, d3, d4⟩ := HJ.out.xcells; clear d0 d3 d4; have HJ2 := Lib.hid (HJ.out.quiet (below_new _ (.cells #[.string t] 9)))))
        go_roundw
        case rel => exact ⟨k + 1, pa, pn, pc, s, by go_num, by omega, rfl, rfl, rfl, D9, R ++ [t.data.toList], HPN.out, HJ.out.jt, HC2.out⟩
        case measure => simp [intOf]; omega
      · obtain rfl : k = n := by omega
        go_wp2
        go_ret
        exact ⟨rfl, below_to HB2.out (Nat.le_refl _) HT.out.below⟩
end Go.Proofs.YtbpodclodflgfaaDoor
