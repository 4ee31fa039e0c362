/-
  The law WirePrefix, walked: no encoding begins with that of another value of the same kind.
-/
import Derived.Test.YthknahghmlfegaaDoorWBack
import Derived.Test.YthknahghmlfegaaDoorWEq
namespace Go.Proofs.YthknahghmlfegaaDoor
open Go Go.RowKit Go.Shelf

/-- few of one value. -/
theorem few_one (x : Wr.Vl) (y : ByteArray) (hy : encStr x.S = .string y) (xa ya : Option Addr) (b off c b' off' c' : Nat) (W w : World) (hb : Below W.heap.size W w) (hf : FV W x xa ya b off b' off') (g : Bool) (hg : Wr.fewB [x] = g) (n : Nat) :
    Calls Tryd.prog 10 #[.slice (some ⟨w.heap.size, 0, none⟩) 1 1] ((w.alloc (.cells #[.int .i64 x.K, .int .i64 x.N, .string y, .slice xa x.L.length c, .slice ya x.T.length c'] 25)).drewN n) fun e w' =>
      e = .returned (.bool g) ∧ Below w.heap.size w w' := by
  have hr : RowVl ((w.alloc (.cells #[.int .i64 x.K, .int .i64 x.N, encStr x.S, .slice xa x.L.length c, .slice ya x.T.length c'] 25)).drewN n) (some ⟨w.heap.size, 0, none⟩) w.heap.size 0 [x] := (rowVl_one (w := w) c c' hf hb).below (below_drewN (Below.refl _ _) n)
  have := few_any _ _ _ 1 [x] _ hr (by simp)
  rw [hg, hy] at this
  exact this.mono fun _ _ ⟨h1, m, h2⟩ => ⟨h1, h2 ▸ below_drewN (below_drewN ((Below.refl _ _).alloc (Nat.le_refl _) _) n) m⟩

theorem few_one0 (x : Wr.Vl) (y : ByteArray) (hy : encStr x.S = .string y) (xa ya : Option Addr) (b off c b' off' c' : Nat) (W w : World) (hb : Below W.heap.size W w) (hf : FV W x xa ya b off b' off') (g : Bool) (hg : Wr.fewB [x] = g) :
    Calls Tryd.prog 10 #[.slice (some ⟨w.heap.size, 0, none⟩) 1 1] (w.alloc (.cells #[.int .i64 x.K, .int .i64 x.N, .string y, .slice xa x.L.length c, .slice ya x.T.length c'] 25)) fun e w' =>
      e = .returned (.bool g) ∧ Below w.heap.size w w' := few_one x y hy xa ya b off c b' off' c' W w hb hf g hg 0

theorem few_one1 (x : Wr.Vl) (y : ByteArray) (hy : encStr x.S = .string y) (xa ya : Option Addr) (b off c b' off' c' : Nat) (W w : World) (hb : Below W.heap.size W w) (hf : FV W x xa ya b off b' off') (g : Bool) (hg : Wr.fewB [x] = g) :
    Calls Tryd.prog 10 #[.slice (some ⟨w.heap.size, 0, none⟩) 1 1] (w.alloc (.cells #[.int .i64 x.K, .int .i64 x.N, .string y, .slice xa x.L.length c, .slice ya x.T.length c'] 25)).drew fun e w' =>
      e = .returned (.bool g) ∧ Below w.heap.size w w' := few_one x y hy xa ya b off c b' off' c' W w hb hf g hg 1

/-- The five cells of a boxed value. -/
def Box (g : Nat) (k n : Int) (y : ByteArray) (s t : Value) (W : World) : Prop :=
  W.cell? ⟨g, 0, none⟩ = some (.int .i64 k) ∧ W.cell? ⟨g, 1, none⟩ = some (.int .i64 n) ∧ W.cell? ⟨g, 2, none⟩ = some (.string y) ∧ W.cell? ⟨g, 3, none⟩ = some s ∧ W.cell? ⟨g, 4, none⟩ = some t
theorem Box.below {W W' : World} {g B : Nat} {k n : Int} {y : ByteArray} {s t : Value} (h : Box g k n y s t W) (hb : Below B W W') (hg : g < B) : Box g k n y s t W' :=
  ⟨(hb.cell (p := ⟨g, 0, none⟩) hg).trans h.1, (hb.cell (p := ⟨g, 1, none⟩) hg).trans h.2.1, (hb.cell (p := ⟨g, 2, none⟩) hg).trans h.2.2.1, (hb.cell (p := ⟨g, 3, none⟩) hg).trans h.2.2.2.1, (hb.cell (p := ⟨g, 4, none⟩) hg).trans h.2.2.2.2⟩
/-- What stays: the two boxes, and all that was there. -/
def Keep (P Q : World → Prop) (W w : World) : Prop := Below W.heap.size W w ∧ W.heap.size + 1 < w.heap.size ∧ P w ∧ Q w
theorem Keep.next {k n k' n' : Int} {y y' : ByteArray} {s t s' t' : Value} {W w w' : World} (h : Keep (Box W.heap.size k n y s t) (Box (W.heap.size + 1) k' n' y' s' t') W w) (hb : Below w.heap.size w w') : Keep (Box W.heap.size k n y s t) (Box (W.heap.size + 1) k' n' y' s' t') W w' :=
  ⟨h.1.trans (hb.mono h.1.size), Nat.lt_of_lt_of_le h.2.1 hb.size, h.2.2.1.below hb (by have := h.2.1; omega), h.2.2.2.below hb h.2.1⟩
theorem Keep.drews {P Q : World → Prop} {W w : World} (hP : ∀ n, P w → P (w.drewN n)) (hQ : ∀ n, Q w → Q (w.drewN n)) (h : Keep P Q W w) (n : Nat) : Keep P Q W (w.drewN n) := ⟨below_drewN h.1 n, h.2.1, hP n h.2.2.1, hQ n h.2.2.2⟩
theorem box_drews {g : Nat} {k n : Int} {y : ByteArray} {s t : Value} {w : World} (m : Nat) (h : Box g k n y s t w) : Box g k n y s t (w.drewN m) := h

set_option maxHeartbeats 8000000 in
set_option maxRecDepth 100000 in
theorem prefix_few1 (x z : Wr.Vl) (xa ya : Option Addr) (b off c b' off' c' : Nat) (za ua : Option Addr) (d doff e d' doff' e' : Nat) (W : World) (hE : Env W) (hx : FV W x xa ya b off b' off') (hz : FV W z za ua d doff d' doff') (h1 : Wr.fewB [x] = false) :
    Calls Tryd.prog 7 #[argV x xa ya c c', argV z za ua e e'] W fun e w' => e = .returned (.bool true) ∧ Below W.heap.size W w' := by
  have HE := Lib.hid hE
  have HX := Lib.hid hx
  have HZ := Lib.hid hz

  unfold argV
  obtain ⟨y, hy⟩ : ∃ y : ByteArray, encStr x.S = .string y := ⟨_, rfl⟩
  obtain ⟨v, hv⟩ : ∃ v : ByteArray, encStr z.S = .string v := ⟨_, rfl⟩
  rw [hy, hv]
  have HY := Lib.hid hy
  have HV := Lib.hid hv
  have HFx := Lib.hid (fun w (h : Below W.heap.size W w) => few_one1 x y hy xa ya b off c b' off' c' W w h hx false h1)
  have HFx0 := Lib.hid (fun w (h : Below W.heap.size W w) => few_one0 x y hy xa ya b off c b' off' c' W w h hx false h1)
  clear hE hx hz hy hv h1
  go_enter Tryd.func7, Tryd.ntmps7
  go_wp2_with fail
  have hB0 : Below W.heap.size W ((W.alloc (.cells #[.int .i64 x.K, .int .i64 x.N, .string y, .slice xa x.L.length c, .slice ya x.T.length c'] 25)).alloc (.cells #[.int .i64 z.K, .int .i64 z.N, .string v, .slice za z.L.length e, .slice ua z.T.length e'] 25)) := ((Below.refl _ W).alloc (Nat.le_refl _) _).alloc (by simp) _
  have HB0 := Lib.hid hB0
  clear hB0
  refine (small_any _ (HE.out.new HB0.out)).mono ?_
  rintro q w1 ⟨rfl, hb⟩
  have HKp : Hid (Keep (Box W.heap.size x.K x.N y (.slice xa x.L.length c) (.slice ya x.T.length c')) (Box (W.heap.size + 1) z.K z.N v (.slice za z.L.length e) (.slice ua z.T.length e')) W w1) := by
    refine Keep.next (w := (W.alloc (.cells #[.int .i64 x.K, .int .i64 x.N, .string y, .slice xa x.L.length c, .slice ya x.T.length c'] 25)).alloc (.cells #[.int .i64 z.K, .int .i64 z.N, .string v, .slice za z.L.length e, .slice ua z.T.length e'] 25)) ⟨HB0.out, by simp, ?_, ?_⟩ hb
    · exact ⟨by simp, by simp, by simp, by simp, by simp⟩
    · exact ⟨by simp, by simp, by simp, by simp, by simp⟩
  obtain ⟨hbW, _, ⟨k0, k1, k2, k3, k4⟩, ⟨m0, m1, m2, m3, m4⟩⟩ := id HKp.out
  clear hb
  go_wp2_with fail
  go_region_with (first
      | (go_at_call 10; (first | (with_reducible refine (HFx.out w1 hbW).mono ?_) | (with_reducible refine (HFx0.out w1 hbW).mono ?_)); rintro q w2 ⟨rfl, hb⟩; replace HKp := Lib.hid (HKp.out.next hb); obtain ⟨hbW, _, ⟨k0, k1, k2, k3, k4⟩, ⟨m0, m1, m2, m3, m4⟩⟩ := id HKp.out))
  all_goals
    go_wp2
    go_ret
    exact ⟨rfl, by first | exact HKp.out.1 | exact below_drewN HKp.out.1 _⟩

set_option maxHeartbeats 8000000 in
set_option maxRecDepth 100000 in
theorem prefix_few2 (x z : Wr.Vl) (xa ya : Option Addr) (b off c b' off' c' : Nat) (za ua : Option Addr) (d doff e d' doff' e' : Nat) (W : World) (hE : Env W) (hx : FV W x xa ya b off b' off') (hz : FV W z za ua d doff d' doff') (h1 : Wr.fewB [x] = true) (h2 : Wr.fewB [z] = false) :
    Calls Tryd.prog 7 #[argV x xa ya c c', argV z za ua e e'] W fun e w' => e = .returned (.bool true) ∧ Below W.heap.size W w' := by
  have HE := Lib.hid hE
  have HX := Lib.hid hx
  have HZ := Lib.hid hz

  unfold argV
  obtain ⟨y, hy⟩ : ∃ y : ByteArray, encStr x.S = .string y := ⟨_, rfl⟩
  obtain ⟨v, hv⟩ : ∃ v : ByteArray, encStr z.S = .string v := ⟨_, rfl⟩
  rw [hy, hv]
  have HY := Lib.hid hy
  have HV := Lib.hid hv
  have HFx := Lib.hid (fun w (h : Below W.heap.size W w) => few_one1 x y hy xa ya b off c b' off' c' W w h hx true h1)
  have HFx0 := Lib.hid (fun w (h : Below W.heap.size W w) => few_one0 x y hy xa ya b off c b' off' c' W w h hx true h1)
  have HFz := Lib.hid (fun w (h : Below W.heap.size W w) => few_one1 z v hv za ua d doff e d' doff' e' W w h hz false h2)
  have HFz0 := Lib.hid (fun w (h : Below W.heap.size W w) => few_one0 z v hv za ua d doff e d' doff' e' W w h hz false h2)
  clear hE hx hz hy hv h1 h2
  go_enter Tryd.func7, Tryd.ntmps7
  go_wp2_with fail
  have hB0 : Below W.heap.size W ((W.alloc (.cells #[.int .i64 x.K, .int .i64 x.N, .string y, .slice xa x.L.length c, .slice ya x.T.length c'] 25)).alloc (.cells #[.int .i64 z.K, .int .i64 z.N, .string v, .slice za z.L.length e, .slice ua z.T.length e'] 25)) := ((Below.refl _ W).alloc (Nat.le_refl _) _).alloc (by simp) _
  have HB0 := Lib.hid hB0
  clear hB0
  refine (small_any _ (HE.out.new HB0.out)).mono ?_
  rintro q w1 ⟨rfl, hb⟩
  have HKp : Hid (Keep (Box W.heap.size x.K x.N y (.slice xa x.L.length c) (.slice ya x.T.length c')) (Box (W.heap.size + 1) z.K z.N v (.slice za z.L.length e) (.slice ua z.T.length e')) W w1) := by
    refine Keep.next (w := (W.alloc (.cells #[.int .i64 x.K, .int .i64 x.N, .string y, .slice xa x.L.length c, .slice ya x.T.length c'] 25)).alloc (.cells #[.int .i64 z.K, .int .i64 z.N, .string v, .slice za z.L.length e, .slice ua z.T.length e'] 25)) ⟨HB0.out, by simp, ?_, ?_⟩ hb
    · exact ⟨by simp, by simp, by simp, by simp, by simp⟩
    · exact ⟨by simp, by simp, by simp, by simp, by simp⟩
  obtain ⟨hbW, _, ⟨k0, k1, k2, k3, k4⟩, ⟨m0, m1, m2, m3, m4⟩⟩ := id HKp.out
  clear hb
  go_wp2_with fail
  go_region_with (first
      | (go_at_call 10; (first | (with_reducible refine (HFx.out w1 hbW).mono ?_) | (with_reducible refine (HFx0.out w1 hbW).mono ?_)); rintro q w2 ⟨rfl, hb⟩; replace HKp := Lib.hid (HKp.out.next hb); obtain ⟨hbW, _, ⟨k0, k1, k2, k3, k4⟩, ⟨m0, m1, m2, m3, m4⟩⟩ := id HKp.out)
      | (go_at_call 10; (first | (with_reducible refine (HFz.out w2 hbW).mono ?_) | (with_reducible refine (HFz0.out w2 hbW).mono ?_)); rintro q w3 ⟨rfl, hb⟩; replace HKp := Lib.hid (HKp.out.next hb); obtain ⟨hbW, _, ⟨k0, k1, k2, k3, k4⟩, ⟨m0, m1, m2, m3, m4⟩⟩ := id HKp.out))
  all_goals
    go_wp2
    go_ret
    exact ⟨rfl, by first | exact HKp.out.1 | exact below_drewN HKp.out.1 _⟩
end Go.Proofs.YthknahghmlfegaaDoor
