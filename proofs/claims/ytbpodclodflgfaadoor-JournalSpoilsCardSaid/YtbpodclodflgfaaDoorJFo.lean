/-
  JournalForms: the law returns true.
-/
import Derived.Test.YtbpodclodflgfaaDoorJRr
namespace Go.Proofs.YtbpodclodflgfaaDoor
open Go Go.RowKit
section
variable {w0 w : World} {g lb f sure : Nat} {D : Dk.Disk} {R L : List (List UInt8)} {pa : Option Addr} {pc k : Nat}
theorem open_at (h : Mine w0 w g D) (hE : EnvJ w0) (f : Nat) (fi : Int) (hfi : (f : Int) = fi) (hf : f ≤ 6) (hd : D.down = false) (hp : Jn.parse (Dk.read D f) = some (L, k)) :
    Calls Tryd.prog 13 #[.pointer (some ⟨g, 0, none⟩), .int .i64 fi] w fun e w' => ∃ lb pa pc, e = .returned (.tuple #[.pointer (some ⟨lb, 0, none⟩), .int .i64 0]) ∧ JV w0 w' g lb f D L L.length pa pc ∧ Below w.heap.size w w' := by
  subst hfi
  exact (open_ok h hE f hf hd hp).mono fun _ _ ⟨a, b, c, d, _, e, i⟩ => ⟨a, b, c, d, e, i⟩
theorem open_not (h : Mine w0 w g D) (hE : EnvJ w0) (f : Nat) (fi : Int) (hfi : (f : Int) = fi) (hf : f ≤ 6) (hd : D.down = false) (hp : Jn.parse (Dk.read D f) = none) :
    Calls Tryd.prog 13 #[.pointer (some ⟨g, 0, none⟩), .int .i64 fi] w fun e w' => e = .returned (.tuple #[.pointer none, .int .i64 2]) ∧ Mine w0 w' g D := by
  subst hfi
  exact (open_no h hE f hf hd hp).mono fun _ _ ⟨a, b⟩ => ⟨a, h.quiet b⟩
/-- A write to a calm disk that fits. -/
theorem mine_wrote (h : Mine w0 w g D) (hd : D.down = false) (ha : D.armed = 0) (f at_ : Nat) (fi ai : Int) (hfi : (f : Int) = fi) (hai : (at_ : Int) = ai) (hf : f ≤ 11) (s : ByteArray) (hs : s.size ≤ 100000) (hat : at_ ≤ 100000) (hq : D.queue.length ≤ 100000) :
    Calls Tryd.prog 37 #[.pointer (some ⟨g, 0, none⟩), .int .i64 fi, .int .i64 ai, .string s] w fun e w' => e = .returned (.int .i64 0) ∧ MM w0 w w' g (Dk.add D f at_ s.data.toList) := by
  subst hfi hai
  have hz := Lib.size_eq s
  have hw := Dk.calm_write hd ha (f := (f : Int)) (at_ := (at_ : Int)) (by omega) (by omega) s.data.toList (Dk.fits_of (by omega) (by omega))
  rw [Int.toNat_natCast, Int.toNat_natCast] at hw
  refine (mm_write (⟨h, Mv.refl _ _⟩ : MM w0 w w g D) (f : Int) (at_ : Int) (by omega) (by omega) s (by omega) (by omega)).mono fun e w' ⟨x, y⟩ => ?_
  rw [hw] at x y
  exact ⟨x, y⟩
theorem mine_wrote1 (h : Mine w0 w g D) (hd : D.down = false) (ha : D.armed = 0) (f at_ : Nat) (fi ai : Int) (hfi : (f : Int) = fi) (hai : (at_ : Int) = ai) (hf : f ≤ 11) (s : ByteArray) (hs : s.size ≤ 100000) (hat : at_ ≤ 100000) (hq : D.queue.length ≤ 100000) :
    Calls Tryd.prog 37 #[.pointer (some ⟨g, 0, none⟩), .int .i64 fi, .int .i64 ai, .string s] w fun e w' => e = .returned (.int .i64 0) ∧ Mine w0 w' g (Dk.add D f at_ s.data.toList) :=
  (mine_wrote h hd ha f at_ fi ai hfi hai hf s hs hat hq).mono fun _ _ ⟨x, y⟩ => ⟨x, y.mine⟩
/-- A write beside a row of strings. -/
theorem mine_wrote2 {base : Nat} {v : Value} {X : List (List UInt8)} (h : Mine w0 w g D) (ho : SOwn w base v X) (hd : D.down = false) (ha : D.armed = 0) (f at_ : Nat) (fi ai : Int) (hfi : (f : Int) = fi) (hai : (at_ : Int) = ai) (hf : f ≤ 11) (s : ByteArray) (hs : s.size ≤ 100000) (hat : at_ ≤ 100000) (hq : D.queue.length ≤ 100000) :
    Calls Tryd.prog 37 #[.pointer (some ⟨g, 0, none⟩), .int .i64 fi, .int .i64 ai, .string s] w fun e w' => e = .returned (.int .i64 0) ∧ Mine w0 w' g (Dk.add D f at_ s.data.toList) ∧ SOwn w' base v X :=
  (mine_wrote h hd ha f at_ fi ai hfi hai hf s hs hat hq).mono fun _ _ ⟨x, y⟩ => ⟨x, y.mine, own_mv ho h.at_ y.mv (by decide) (by decide) (by decide)⟩
/-- All, beside a row of strings. -/
theorem all_own {base : Nat} {v : Value} {X : List (List UInt8)} (h : JV w0 w g lb f D R sure pa pc) (ho : SOwn w base v X) : Calls Tryd.prog 33 #[.pointer (some ⟨lb, 0, none⟩)] w fun e w' => ∃ xa xc b, e = .returned (.slice xa R.length xc) ∧ JV w0 w' g lb f D R sure pa pc ∧ Lv w' xa b 0 xc R ∧ SOwn w' base v X :=
  (all_any h).mono fun _ _ ⟨xa, xc, a, hr, hb⟩ => by
    obtain ⟨b, hl, _, _⟩ := hr.lv
    exact ⟨xa, xc, b, a, (h.quiet hb).1, hl, ho.below hb⟩
/-- Same of what All gave, and the row. -/
theorem same_own {base : Nat} {ya : Option Addr} {yn yc : Nat} {X : List (List UInt8)} {xa : Option Addr} {b xc r : Nat} (h : JV w0 w g lb f D R sure pa pc) (hl : Lv w xa b 0 xc R) (hr : R.length = r) (ho : SOwn w base (.slice ya yn yc) X) (hR : R.length ≤ 1000000) (hX : X.length ≤ 1000000) {q : Bool} (hq : sameRows R X = q) :
    Calls Tryd.prog 32 #[.slice xa r xc, .slice ya yn yc] w fun e w' => e = .returned (.bool q) ∧ JV w0 w' g lb f D R sure pa pc ∧ SOwn w' base (.slice ya yn yc) X := by
  obtain ⟨b', hl', hn', _⟩ := ho.lv
  exact (same_any R X r yn hr hn' (by omega) (by omega) xa ya b 0 xc b' 0 yc w hl hl').mono fun _ _ ⟨x, y⟩ => ⟨by rw [x, hq], (h.quiet y).1, ho.below y⟩
end
theorem rrows_some (s : ByteArray) (hs : s.size ≤ 100000000) (w : World) {L : List (List UInt8)} {k : Nat} (hp : Jn.parse s.data.toList = some (L, k)) :
    Calls Tryd.prog 38 #[.string s] w fun e w' => ∃ pa pc, e = .returned (.tuple #[.slice pa L.length pc, .bool true]) ∧ SOwn w' w.heap.size (.slice pa L.length pc) L ∧ Below w.heap.size w w' :=
  (rrows_any s hs w).mono fun e w' ⟨hb, hc⟩ => by
    rcases hc with ⟨h1, _⟩ | ⟨L', k', pa, pc, h1, h2, h3⟩
    · rw [hp] at h1; cases h1
    · rw [hp] at h1
      injection h1 with h1
      injection h1 with h1 _
      subst h1
      exact ⟨pa, pc, h2, h3, hb⟩
theorem rrows_none (s : ByteArray) (hs : s.size ≤ 100000000) (w : World) (hp : Jn.parse s.data.toList = none) :
    Calls Tryd.prog 38 #[.string s] w fun e w' => (∃ v, e = .returned (.tuple #[v, .bool false])) ∧ Below w.heap.size w w' :=
  (rrows_any s hs w).mono fun e w' ⟨hb, hc⟩ => by
    rcases hc with ⟨_, h2⟩ | ⟨L', k', pa, pc, h1, _, _⟩
    · exact ⟨h2, hb⟩
    · rw [hp] at h1; cases h1
theorem read_add0 (s : List UInt8) (f : Nat) : Dk.read (Dk.add Dk.new f 0 s) f = s := Dk.read_new_write Dk.new rfl f rfl s
theorem read_more (s t : List UInt8) (f : Nat) : Dk.read (Dk.add (Dk.add Dk.new f 0 s) f s.length t) f = s ++ t := by
  by_cases h : t = []
  · subst h
    have e : Dk.add (Dk.add Dk.new f 0 s) f s.length [] = Dk.add Dk.new f 0 s := by
      show ({ Dk.add Dk.new f 0 s with queue := _ } : Dk.Disk) = _
      rw [Dk.pieces_nil, List.append_nil]
    rw [e, read_add0, List.append_nil]
  · rw [Dk.read_add _ _ _ _ h, read_add0, Dk.put_end]
set_option maxHeartbeats 4000000 in
set_option maxRecDepth 100000 in
theorem jforms_law (s more : ByteArray) (w : World) (hE : EnvJ w) :
    Calls Tryd.prog 6 #[.string s, .string more] w fun e w' => e = .returned (.bool true) ∧ Below w.heap.size w w' := by
  have C0 := Lib.hid (small_any w hE)
  have HE := Lib.hid hE
  clear hE
  have hz := Lib.size_eq s
  have hzm := Lib.size_eq more
  by_cases l1 : 1000 < s.size
  · have e1 : (1000 : Int) < (s.size : Int) := by omega
    clear hz hzm
    go_enter Tryd.func6, Tryd.ntmps6
    go_wp2_with (first
      | (go_at_call 9; with_reducible refine (C0.out).mono ?_; rintro _ w9 ⟨rfl, hb0⟩; have HB0 := Lib.hid hb0; clear hb0))
    go_ret
    exact ⟨rfl, HB0.out⟩
  have e1 : decide ((1000 : Int) < (s.size : Int)) = false := by simp; omega
  have e1n : decide (1000 < s.size) = false := by simp; omega
  by_cases l2 : 1000 < more.size
  · have e2 : (1000 : Int) < (more.size : Int) := by omega
    clear hz hzm
    go_enter Tryd.func6, Tryd.ntmps6
    go_wp2_with (first
      | (go_at_call 9; with_reducible refine (C0.out).mono ?_; rintro _ w9 ⟨rfl, hb0⟩; have HB0 := Lib.hid hb0; clear hb0))
    go_ret
    exact ⟨rfl, HB0.out⟩
  have e2 : decide ((1000 : Int) < (more.size : Int)) = false := by simp; omega
  have e2n : decide (1000 < more.size) = false := by simp; omega
  have hs : s.size ≤ 1000 := by omega
  have hm : more.size ≤ 1000 := by omega
  have hP1 : Jn.parse (Dk.read (Dk.add Dk.new 1 0 s.data.toList) 1) = Jn.parse s.data.toList := by rw [read_add0]
  have hq1 := Dk.add_queue Dk.new 1 0 s.data.toList
  have hq0 : Dk.new.queue.length = 0 := rfl
  have HD1 : RowKit.Hid ((Dk.add Dk.new 1 0 s.data.toList).down = false) := Lib.hid rfl
  have HA1 : RowKit.Hid ((Dk.add Dk.new 1 0 s.data.toList).armed = 0) := Lib.hid rfl
  have HQ1 := Lib.hid (show (Dk.add Dk.new 1 0 s.data.toList).queue.length ≤ 100000 by omega)
  cases hp : Jn.parse s.data.toList with
  | none =>
    have PS := Lib.hid hp
    have P1 := Lib.hid (hP1.trans hp)
    clear hz hzm hP1 hp hq1 hq0
    go_enter Tryd.func6, Tryd.ntmps6
    go_wp2_with (first
      | (go_at_call 38; with_reducible refine (rrows_none s (by omega) _ PS.out).mono ?_; rintro _ w9 ⟨⟨v9, rfl⟩, hb⟩; have HM3 := Lib.hid (HM2.out.quiet hb); clear hb)
      | (go_at_call 13; with_reducible refine (open_not HM1.out (HE.out.below HB0.out) 1 1 rfl (by decide) HD1.out P1.out).mono ?_; rintro _ w9 ⟨rfl, hm⟩; have HM2 := Lib.hid hm; clear hm)
      | (go_at_call 37; with_reducible refine (mine_wrote1 HM.out rfl rfl 1 0 1 0 rfl rfl (by decide) s (by omega) (by decide) (by decide)).mono ?_; rintro _ w9 ⟨rfl, hm⟩; have HM1 := Lib.hid hm; clear hm)
      | (go_at_call 11; with_reducible refine (mine_new _).mono ?_; rintro _ w9 ⟨rfl, hm⟩; have HM := Lib.hid hm; clear hm)
      | (go_at_call 9; with_reducible refine (C0.out).mono ?_; rintro _ w9 ⟨rfl, hb0⟩; have HB0 := Lib.hid hb0; clear hb0))
    go_ret
    exact ⟨rfl, below_to HB0.out (Nat.le_refl _) HM3.out.below⟩
  | some Lk =>
    obtain ⟨L, k⟩ := Lk
    have PS := Lib.hid hp
    have P1 := Lib.hid (hP1.trans hp)
    have HLL := Lib.hid (show L.length ≤ 1000000 from by have := (Jn.parse_end_is hp).2; have := Jn.forms_count L; omega)
    have HS := Lib.hid (show sameRows L L = true from by simp [sameRows])
    by_cases l16 : s.size < 16
    · have e3 : decide ((s.size : Int) < 16) = true := by simp; omega
      have e3n : decide (s.size < 16) = true := by simp; omega
      have e3i : (s.size : Int) < 16 := by omega
      clear hz hzm hP1 hp hq1 hq0
      go_enter Tryd.func6, Tryd.ntmps6
      go_wp2_with (first
        | (go_at_call 32; with_reducible refine (same_own HJ3.out HL3.out rfl HO3.out HLL.out HLL.out HS.out).mono ?_; rintro _ w9 ⟨rfl, hJ, ho⟩; have HJ4 := Lib.hid hJ; have HO4 := Lib.hid ho; clear hJ ho)
        | (go_at_call 33; with_reducible refine (all_own HJ2.out HO2.out).mono ?_; rintro _ w9 ⟨xa, xc, xb, rfl, hJ, hl, ho⟩; have HJ3 := Lib.hid hJ; have HL3 := Lib.hid hl; have HO3 := Lib.hid ho; clear hJ hl ho)
        | (go_at_call 38; with_reducible refine (rrows_some s (by omega) _ PS.out).mono ?_; rintro _ w9 ⟨ra, rc, rfl, ho, hb⟩; have HJ2 := Lib.hid (HJ1.out.quiet hb).1; have HO2 := Lib.hid ho; clear hb ho)
        | (go_at_call 13; with_reducible refine (open_at HM1.out (HE.out.below HB0.out) 1 1 rfl (by decide) HD1.out P1.out).mono ?_; rintro _ w9 ⟨l1, pa1, pc1, rfl, hJ, _⟩; have HJ1 := Lib.hid hJ; clear hJ)
        | (go_at_call 37; with_reducible refine (mine_wrote1 HM.out rfl rfl 1 0 1 0 rfl rfl (by decide) s (by omega) (by decide) (by decide)).mono ?_; rintro _ w9 ⟨rfl, hm⟩; have HM1 := Lib.hid hm; clear hm)
        | (go_at_call 11; with_reducible refine (mine_new _).mono ?_; rintro _ w9 ⟨rfl, hm⟩; have HM := Lib.hid hm; clear hm)
        | (go_at_call 9; with_reducible refine (C0.out).mono ?_; rintro _ w9 ⟨rfl, hb0⟩; have HB0 := Lib.hid hb0; clear hb0))
      go_ret
      exact ⟨rfl, below_to HB0.out (Nat.le_refl _) HJ4.out.mine.below⟩
    · have e3 : decide ((s.size : Int) < 16) = false := by simp; omega
      have e3n : decide (s.size < 16) = false := by simp; omega
      have P2 : RowKit.Hid (Jn.parse (Dk.read (Dk.add (Dk.add Dk.new 1 0 s.data.toList) 1 s.size more.data.toList) 1) = some (L, k)) := Lib.hid (by
        rw [hz, read_more]
        exact Jn.parse_more _ (by omega) hp)
      have HD2 : RowKit.Hid ((Dk.add (Dk.add Dk.new 1 0 s.data.toList) 1 s.size more.data.toList).down = false) := Lib.hid rfl
      clear hz hzm hP1 hp hq1 hq0
      go_enter Tryd.func6, Tryd.ntmps6
      go_wp2_with (first
        | (go_at_call 32; with_reducible refine (same_own HJ7.out HL7.out rfl HO7.out HLL.out HLL.out HS.out).mono ?_; rintro _ w9 ⟨rfl, hJ, ho⟩; have HJ8 := Lib.hid hJ; clear hJ ho)
        | (go_at_call 33; with_reducible refine (all_own HJ6.out HO6.out).mono ?_; rintro _ w9 ⟨ya, yc, yb, rfl, hJ, hl, ho⟩; have HJ7 := Lib.hid hJ; have HL7 := Lib.hid hl; have HO7 := Lib.hid ho; clear hJ hl ho)
        | (go_at_call 13; with_reducible refine (open_at HM5.out (HE.out.below HB0.out) 1 1 rfl (by decide) HD2.out P2.out).mono ?_; rintro _ w9 ⟨l2, pa2, pc2, rfl, hJ, hb⟩; have HJ6 := Lib.hid hJ; have HO6 := Lib.hid (HO5.out.below hb); clear hJ hb)
        | (go_at_call 37; with_reducible refine (mine_wrote2 HJ4.out.mine HO4.out HD1.out HA1.out 1 s.size 1 (s.size : Int) rfl rfl (by decide) more (by omega) (by omega) HQ1.out).mono ?_; rintro _ w9 ⟨rfl, hm, ho⟩; have HM5 := Lib.hid hm; have HO5 := Lib.hid ho; clear hm ho)
        | (go_at_call 32; with_reducible refine (same_own HJ3.out HL3.out rfl HO3.out HLL.out HLL.out HS.out).mono ?_; rintro _ w9 ⟨rfl, hJ, ho⟩; have HJ4 := Lib.hid hJ; have HO4 := Lib.hid ho; clear hJ ho)
        | (go_at_call 33; with_reducible refine (all_own HJ2.out HO2.out).mono ?_; rintro _ w9 ⟨xa, xc, xb, rfl, hJ, hl, ho⟩; have HJ3 := Lib.hid hJ; have HL3 := Lib.hid hl; have HO3 := Lib.hid ho; clear hJ hl ho)
        | (go_at_call 38; with_reducible refine (rrows_some s (by omega) _ PS.out).mono ?_; rintro _ w9 ⟨ra, rc, rfl, ho, hb⟩; have HJ2 := Lib.hid (HJ1.out.quiet hb).1; have HO2 := Lib.hid ho; clear hb ho)
        | (go_at_call 13; with_reducible refine (open_at HM1.out (HE.out.below HB0.out) 1 1 rfl (by decide) HD1.out P1.out).mono ?_; rintro _ w9 ⟨l1, pa1, pc1, rfl, hJ, _⟩; have HJ1 := Lib.hid hJ; clear hJ)
        | (go_at_call 37; with_reducible refine (mine_wrote1 HM.out rfl rfl 1 0 1 0 rfl rfl (by decide) s (by omega) (by decide) (by decide)).mono ?_; rintro _ w9 ⟨rfl, hm⟩; have HM1 := Lib.hid hm; clear hm)
        | (go_at_call 11; with_reducible refine (mine_new _).mono ?_; rintro _ w9 ⟨rfl, hm⟩; have HM := Lib.hid hm; clear hm)
        | (go_at_call 9; with_reducible refine (C0.out).mono ?_; rintro _ w9 ⟨rfl, hb0⟩; have HB0 := Lib.hid hb0; clear hb0))
      go_ret
      exact ⟨rfl, below_to HB0.out (Nat.le_refl _) HJ8.out.mine.below⟩
end Go.Proofs.YtbpodclodflgfaaDoor
