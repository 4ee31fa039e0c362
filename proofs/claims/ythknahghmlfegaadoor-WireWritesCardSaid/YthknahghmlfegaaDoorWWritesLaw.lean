/-
  The law WireWrites, walked: the writers return the encodings of the reference.
-/
import Derived.Test.YthknahghmlfegaaDoorWRefW
import Derived.Test.YthknahghmlfegaaDoorWPrefix
import Derived.Deep.RegionHeld3
namespace Go.Proofs.YthknahghmlfegaaDoor
open Go Go.RowKit Go.Shelf

/-- What stays: the box, and all that was there. -/
def Keep1 (P : World → Prop) (W w : World) : Prop := Below W.heap.size W w ∧ W.heap.size < w.heap.size ∧ P w ∧ True
theorem Keep1.next {k n : Int} {y : ByteArray} {s t : Value} {W w w' : World} (h : Keep1 (Box W.heap.size k n y s t) W w) (hb : Below w.heap.size w w') : Keep1 (Box W.heap.size k n y s t) W w' :=
  ⟨h.1.trans (hb.mono h.1.size), Nat.lt_of_lt_of_le h.2.1 hb.size, h.2.2.1.below hb h.2.1, trivial⟩
theorem Keep1.drews {k n : Int} {y : ByteArray} {s t : Value} {W w : World} (h : Keep1 (Box W.heap.size k n y s t) W w) (m : Nat) : Keep1 (Box W.heap.size k n y s t) W (w.drewN m) := ⟨below_drewN h.1 m, h.2.1, h.2.2.1, trivial⟩

set_option maxHeartbeats 4000000 in
set_option maxRecDepth 100000 in
theorem writes_few (x : Wr.Vl) (xa ya : Option Addr) (b off c b' off' c' : Nat) (W : World) (hE : Env W) (hx : FV W x xa ya b off b' off') (h1 : Wr.fewB [x] = false) :
    Calls Tryd.prog 3 #[argV x xa ya c c'] W fun e w' => e = .returned (.bool true) ∧ Below W.heap.size W w' := by
  unfold argV
  obtain ⟨y, hy⟩ : ∃ y : ByteArray, encStr x.S = .string y := ⟨_, rfl⟩
  rw [hy]
  have HE := Lib.hid hE
  have HX := Lib.hid hx
  have HFew := Lib.hid (fun w (h : Below W.heap.size W w) => few_one0 x y hy xa ya b off c b' off' c' W w h hx false h1)
  clear hE hx hy h1
  go_enter Tryd.func3, Tryd.ntmps3
  go_wp2_with fail
  have HB0 : Hid (Below W.heap.size W (W.alloc (.cells #[.int .i64 x.K, .int .i64 x.N, .string y, .slice xa x.L.length c, .slice ya x.T.length c'] 25))) := (Below.refl _ W).alloc (Nat.le_refl _) _
  refine (small_any _ (HE.out.new HB0.out)).mono ?_
  rintro q w1 ⟨rfl, hb⟩
  have HKp : Hid (Keep1 (Box W.heap.size x.K x.N y (.slice xa x.L.length c) (.slice ya x.T.length c')) W w1) := by
    refine Keep1.next (w := W.alloc (.cells #[.int .i64 x.K, .int .i64 x.N, .string y, .slice xa x.L.length c, .slice ya x.T.length c'] 25)) ⟨HB0.out, by simp, ?_, trivial⟩ hb
    exact ⟨by simp, by simp, by simp, by simp, by simp⟩
  obtain ⟨hbW, _, ⟨k0, k1, k2, k3, k4⟩, _⟩ := id HKp.out
  clear hb
  go_wp2_with fail
  refine (HFew.out _ hbW).mono ?_
  rintro q w2 ⟨rfl, hb⟩
  replace HKp := Lib.hid (HKp.out.next hb)
  obtain ⟨hbW, _, ⟨k0, k1, k2, k3, k4⟩, _⟩ := id HKp.out
  clear hb
  go_wp2
  go_ret
  exact ⟨rfl, HKp.out.1⟩

set_option maxHeartbeats 4000000 in
set_option maxRecDepth 100000 in
theorem writes_walk (x : Wr.Vl) (xa ya : Option Addr) (b off c b' off' c' : Nat) (W : World) (hE : Env W) (hx : FV W x xa ya b off b' off') (h1 : Wr.fewB [x] = true) :
    Calls Tryd.prog 3 #[argV x xa ya c c'] W fun e w' => e = .returned (.bool true) ∧ Below W.heap.size W w' := by
  unfold argV
  obtain ⟨y, hy⟩ : ∃ y : ByteArray, encStr x.S = .string y := ⟨_, rfl⟩
  rw [hy]
  have HE := Lib.hid hE
  have HX := Lib.hid hx
  have HFew := Lib.hid (fun w (h : Below W.heap.size W w) => few_one0 x y hy xa ya b off c b' off' c' W w h hx true h1)
  have hyl : y.data.toList = x.S := by
    have : (⟨x.S.toArray⟩ : ByteArray) = y := by injection hy
    rw [← this]
  have hlow : Wr.lowV x = true := (Wr.fewB_parts h1).2 x (by simp)
  have hp := Wr.lowV_parts hlow
  have hys : y.size ≤ 100000000 := by rw [Lib.size_eq, hyl]; omega
  have hL2 : (x.L.map Wr.encInt).flatten.length ≤ 100000000 := by
    have := Wr.ints_len x.L hx.fit.ints
    omega
  have hT2 : (x.T.map Wr.encText).flatten.length ≤ 100000000 := by
    have := Wr.texts_len x.T hp.2.2.2
    omega
  have HN := Lib.hid (fun w (h : Below W.heap.size W w) => wnum_any x.N hx.fit.N w (hE.new h))
  have RN := Lib.hid (fun w => rnum_any x.N hx.fit.N w)
  have HI := Lib.hid (fun w (h : Below W.heap.size W w) => wint_any x.N hx.fit.N w (hE.new h))
  have RI := Lib.hid (fun w => rint_any x.N hx.fit.N w)
  have HT := Lib.hid (fun w (h : Below W.heap.size W w) => wtext_any y hys w (hE.new h))
  have RT := Lib.hid (fun w => rtext_any y hys w)
  have HL := Lib.hid (fun w (h : Below W.heap.size W w) => wnums_any xa b off c x.L w (hx.L.below h) (by omega) hL2 hx.fit.ints (hE.new h))
  have RL := Lib.hid (fun w (h : Below W.heap.size W w) => rnums_any xa b off c x.L w (hx.L.below h) (by omega) hL2 hx.fit.ints)
  have HS := Lib.hid (fun w (h : Below W.heap.size W w) => wtexts_any ya b' off' c' x.T w (hx.T.below h) (by omega) hT2 (hE.new h))
  have RS := Lib.hid (fun w (h : Below W.heap.size W w) => rtexts_any ya b' off' c' x.T w (hx.T.below h) (by omega) hT2)
  generalize (⟨(Wr.encNum x.N).toArray⟩ : ByteArray) = E1 at HN RN
  generalize (⟨(Wr.encInt x.N).toArray⟩ : ByteArray) = E2 at HI RI
  generalize (⟨(Wr.encText y.data.toList).toArray⟩ : ByteArray) = E3 at HT RT
  generalize (⟨(Wr.encList Wr.encInt x.L).toArray⟩ : ByteArray) = E4 at HL RL
  generalize (⟨(Wr.encList Wr.encText x.T).toArray⟩ : ByteArray) = E5 at HS RS
  have q1 : (E1.toList == E1.toList) = true := by simp
  have q2 : (E2.toList == E2.toList) = true := by simp
  have q3 : (E3.toList == E3.toList) = true := by simp
  have q4 : (E4.toList == E4.toList) = true := by simp
  have q5 : (E5.toList == E5.toList) = true := by simp
  clear hE hx hy h1 hyl hlow hp hys hL2 hT2
  go_enter Tryd.func3, Tryd.ntmps3
  go_wp2_with fail
  have HB0 : Hid (Below W.heap.size W (W.alloc (.cells #[.int .i64 x.K, .int .i64 x.N, .string y, .slice xa x.L.length c, .slice ya x.T.length c'] 25))) := (Below.refl _ W).alloc (Nat.le_refl _) _
  refine (small_any _ (HE.out.new HB0.out)).mono ?_
  rintro q w1 ⟨rfl, hb⟩
  have HKp : Hid (Keep1 (Box W.heap.size x.K x.N y (.slice xa x.L.length c) (.slice ya x.T.length c')) W w1) := by
    refine Keep1.next (w := W.alloc (.cells #[.int .i64 x.K, .int .i64 x.N, .string y, .slice xa x.L.length c, .slice ya x.T.length c'] 25)) ⟨HB0.out, by simp, ?_, trivial⟩ hb
    exact ⟨by simp, by simp, by simp, by simp, by simp⟩
  obtain ⟨hbW, _, ⟨k0, k1, k2, k3, k4⟩, _⟩ := id HKp.out
  clear hb
  go_wp2_with fail
  refine (HFew.out _ hbW).mono ?_
  rintro q w2 ⟨rfl, hb⟩
  replace HKp := Lib.hid (HKp.out.next hb)
  obtain ⟨hbW, _, ⟨k0, k1, k2, k3, k4⟩, _⟩ := id HKp.out
  clear hb
  go_wp2_with fail
  go_region_held3 (fun w' => w'.cell? ⟨W.heap.size, 0, none⟩ = some (.int .i64 x.K) ∧ w'.cell? ⟨W.heap.size, 1, none⟩ = some (.int .i64 x.N) ∧ w'.cell? ⟨W.heap.size, 2, none⟩ = some (.string y) ∧ w'.cell? ⟨W.heap.size, 3, none⟩ = some (.slice xa x.L.length c) ∧ w'.cell? ⟨W.heap.size, 4, none⟩ = some (.slice ya x.T.length c'))
    (first | go_keep | exact ⟨HKp.out.2.2.1.1, HKp.out.2.2.1.2.1, HKp.out.2.2.1.2.2.1, HKp.out.2.2.1.2.2.2.1, HKp.out.2.2.1.2.2.2.2⟩)
    (first
      | (go_at_call 11; (with_reducible refine (HN.out _ (by first | exact hbW | exact below_drewN hbW _ | exact hbW.drew)).mono ?_); rintro q wk ⟨rfl, hb⟩; replace HKp := Lib.hid (by first | exact HKp.out.next hb | exact (HKp.out.drews 1).next hb); obtain ⟨hbW, _, ⟨k0, k1, k2, k3, k4⟩, _⟩ := id HKp.out)
      | (go_at_call 12; (with_reducible refine (RN.out _).mono ?_); rintro q wk ⟨rfl, hb⟩; replace HKp := Lib.hid (by first | exact HKp.out.next hb | exact (HKp.out.drews 1).next hb); obtain ⟨hbW, _, ⟨k0, k1, k2, k3, k4⟩, _⟩ := id HKp.out)
      | (go_at_call 13; (with_reducible refine (HI.out _ (by first | exact hbW | exact below_drewN hbW _ | exact hbW.drew)).mono ?_); rintro q wk ⟨rfl, hb⟩; replace HKp := Lib.hid (by first | exact HKp.out.next hb | exact (HKp.out.drews 1).next hb); obtain ⟨hbW, _, ⟨k0, k1, k2, k3, k4⟩, _⟩ := id HKp.out)
      | (go_at_call 14; (with_reducible refine (RI.out _).mono ?_); rintro q wk ⟨rfl, hb⟩; replace HKp := Lib.hid (by first | exact HKp.out.next hb | exact (HKp.out.drews 1).next hb); obtain ⟨hbW, _, ⟨k0, k1, k2, k3, k4⟩, _⟩ := id HKp.out)
      | (go_at_call 15; (with_reducible refine (HT.out _ (by first | exact hbW | exact below_drewN hbW _ | exact hbW.drew)).mono ?_); rintro q wk ⟨rfl, hb⟩; replace HKp := Lib.hid (by first | exact HKp.out.next hb | exact (HKp.out.drews 1).next hb); obtain ⟨hbW, _, ⟨k0, k1, k2, k3, k4⟩, _⟩ := id HKp.out)
      | (go_at_call 16; (with_reducible refine (RT.out _).mono ?_); rintro q wk ⟨rfl, hb⟩; replace HKp := Lib.hid (by first | exact HKp.out.next hb | exact (HKp.out.drews 1).next hb); obtain ⟨hbW, _, ⟨k0, k1, k2, k3, k4⟩, _⟩ := id HKp.out))
  go_wp2_with fail
  go_region_held3 (fun w' => w'.cell? ⟨W.heap.size, 0, none⟩ = some (.int .i64 x.K) ∧ w'.cell? ⟨W.heap.size, 1, none⟩ = some (.int .i64 x.N) ∧ w'.cell? ⟨W.heap.size, 2, none⟩ = some (.string y) ∧ w'.cell? ⟨W.heap.size, 3, none⟩ = some (.slice xa x.L.length c) ∧ w'.cell? ⟨W.heap.size, 4, none⟩ = some (.slice ya x.T.length c'))
    (first | go_keep | exact ⟨HKp.out.2.2.1.1, HKp.out.2.2.1.2.1, HKp.out.2.2.1.2.2.1, HKp.out.2.2.1.2.2.2.1, HKp.out.2.2.1.2.2.2.2⟩)
    (first
      | (go_at_call 17; (with_reducible refine (HL.out _ (by first | exact hbW | exact below_drewN hbW _ | exact hbW.drew)).mono ?_); rintro q wk ⟨rfl, hb⟩; replace HKp := Lib.hid (by first | exact HKp.out.next hb | exact (HKp.out.drews 1).next hb); obtain ⟨hbW, _, ⟨k0, k1, k2, k3, k4⟩, _⟩ := id HKp.out)
      | (go_at_call 18; (with_reducible refine (RL.out _ (by first | exact hbW | exact below_drewN hbW _ | exact hbW.drew)).mono ?_); rintro q wk ⟨rfl, hb⟩; replace HKp := Lib.hid (by first | exact HKp.out.next hb | exact (HKp.out.drews 1).next hb); obtain ⟨hbW, _, ⟨k0, k1, k2, k3, k4⟩, _⟩ := id HKp.out)
      | (go_at_call 19; (with_reducible refine (HS.out _ (by first | exact hbW | exact below_drewN hbW _ | exact hbW.drew)).mono ?_); rintro q wk ⟨rfl, hb⟩; replace HKp := Lib.hid (by first | exact HKp.out.next hb | exact (HKp.out.drews 1).next hb); obtain ⟨hbW, _, ⟨k0, k1, k2, k3, k4⟩, _⟩ := id HKp.out)
      | (go_at_call 20; (with_reducible refine (RS.out _ (by first | exact hbW | exact below_drewN hbW _ | exact hbW.drew)).mono ?_); rintro q wk ⟨rfl, hb⟩; replace HKp := Lib.hid (by first | exact HKp.out.next hb | exact (HKp.out.drews 1).next hb); obtain ⟨hbW, _, ⟨k0, k1, k2, k3, k4⟩, _⟩ := id HKp.out))
  go_wp2
  go_ret
  exact ⟨rfl, HKp.out.1⟩

/-- The law WireWrites, walked. -/
theorem writes_law (x : Wr.Vl) (xa ya : Option Addr) (b off c b' off' c' : Nat) (W : World) (hE : Env W) (hx : FV W x xa ya b off b' off') :
    Calls Tryd.prog 3 #[argV x xa ya c c'] W fun e w' => e = .returned (.bool true) ∧ Below W.heap.size W w' := by
  cases h1 : Wr.fewB [x] with
  | false => exact writes_few x xa ya b off c b' off' c' W hE hx h1
  | true => exact writes_walk x xa ya b off c b' off' c' W hE hx h1
end Go.Proofs.YthknahghmlfegaaDoor
