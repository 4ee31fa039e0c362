/-
  missivelaw02.small: the documented examples have the documented results; missivelaw02.kind.
-/
import Derived.Test.YthknahghmlfegaaDoorWLists
import Derived.Test.YthknahghmlfegaaDoorWWrites
namespace Go.Proofs.YthknahghmlfegaaDoor
open Go Go.RowKit Go.Shelf

theorem num_c1 (W : World) (hE : Env W) : Calls Tryd.prog 11 #[.int .i64 0] W fun x w' => x = .returned (.string ⟨#[48, 59]⟩) ∧ Below W.heap.size W w' :=
  (wnum_any 0 (by unfold Wr.i64; omega) W hE).mono fun _ _ ⟨a, b⟩ => ⟨a.trans (by rw [show Wr.encNum 0 = [48, 59] from by decide +kernel]), b⟩
theorem num_c2 (W : World) (hE : Env W) : Calls Tryd.prog 11 #[.int .i64 300] W fun x w' => x = .returned (.string ⟨#[51, 48, 48, 59]⟩) ∧ Below W.heap.size W w' :=
  (wnum_any 300 (by unfold Wr.i64; omega) W hE).mono fun _ _ ⟨a, b⟩ => ⟨a.trans (by rw [show Wr.encNum 300 = [51, 48, 48, 59] from by decide +kernel]), b⟩
theorem num_c3 (W : World) (hE : Env W) : Calls Tryd.prog 11 #[.int .i64 (-1)] W fun x w' => x = .returned (.string ⟨#[]⟩) ∧ Below W.heap.size W w' :=
  (wnum_any (-1) (by unfold Wr.i64; omega) W hE).mono fun _ _ ⟨a, b⟩ => ⟨a.trans (by rw [show Wr.encNum (-1) = [] from by decide +kernel]), b⟩
theorem int_c1 (W : World) (hE : Env W) : Calls Tryd.prog 13 #[.int .i64 (-7)] W fun x w' => x = .returned (.string ⟨#[45, 55, 59]⟩) ∧ Below W.heap.size W w' :=
  (wint_any (-7) (by unfold Wr.i64; omega) W hE).mono fun _ _ ⟨a, b⟩ => ⟨a.trans (by rw [show Wr.encInt (-7) = [45, 55, 59] from by decide +kernel]), b⟩
theorem int_c2 (W : World) (hE : Env W) : Calls Tryd.prog 13 #[.int .i64 7] W fun x w' => x = .returned (.string ⟨#[55, 59]⟩) ∧ Below W.heap.size W w' :=
  (wint_any 7 (by unfold Wr.i64; omega) W hE).mono fun _ _ ⟨a, b⟩ => ⟨a.trans (by rw [show Wr.encInt 7 = [55, 59] from by decide +kernel]), b⟩
theorem text_c (W : World) (hE : Env W) : Calls Tryd.prog 15 #[.string ⟨#[97, 44, 98]⟩] W fun x w' => x = .returned (.string ⟨#[51, 58, 97, 44, 98, 44]⟩) ∧ Below W.heap.size W w' :=
  (wtext_any ⟨#[97, 44, 98]⟩ (by decide) W hE).mono fun _ _ ⟨a, b⟩ => ⟨a.trans (by show _ = Ending.returned (.string ⟨[51, 58, 97, 44, 98, 44].toArray⟩); rw [show Wr.encText (⟨#[97, 44, 98]⟩ : ByteArray).data.toList = [51, 58, 97, 44, 98, 44] from by decide +kernel]), b⟩
theorem nums_c (g cap : Nat) (W : World) (hE : Env W) (c0 : W.cell? ⟨g, 0, none⟩ = some (.int .i64 1)) (c1 : W.cell? ⟨g, 1, none⟩ = some (.int .i64 (-1))) (hg : g < W.heap.size) :
    Calls Tryd.prog 17 #[.slice (some ⟨g, 0, none⟩) 2 cap] W fun x w' => x = .returned (.string ⟨#[50, 91, 49, 59, 45, 49, 59, 93]⟩) ∧ Below W.heap.size W w' := by
  have hX : ∀ x ∈ [(1 : Int), -1], Wr.i64 x := by
    intro x hx
    unfold Wr.i64
    simp at hx
    omega
  refine (wnums_any (some ⟨g, 0, none⟩) g 0 cap [1, -1] W ⟨fun _ => rfl, fun j x hj => ?_, fun _ => hg⟩ (by decide) (by decide +kernel) hX hE).mono fun _ _ ⟨a, b⟩ => ⟨a.trans (by rw [show Wr.encList Wr.encInt [1, -1] = [50, 91, 49, 59, 45, 49, 59, 93] from by decide +kernel]), b⟩
  rcases j with _ | _ | j
  · simp at hj; subst hj; exact c0
  · simp at hj; subst hj; exact c1
  · simp at hj
theorem texts_c (W : World) (hE : Env W) : Calls Tryd.prog 19 #[.slice none 0 0] W fun x w' => x = .returned (.string ⟨#[48, 91, 93]⟩) ∧ Below W.heap.size W w' :=
  (wtexts_any none 0 0 0 [] W ⟨fun h => absurd h (by simp), fun j x hj => by simp at hj, fun h => absurd h (by simp)⟩ (by decide) (by decide) hE).mono fun _ _ ⟨a, b⟩ => ⟨a.trans (by rw [show Wr.encList Wr.encText [] = [48, 91, 93] from by decide +kernel]), b⟩
theorem rnum_c (g : Nat) (W : World) (h : Rd W g ⟨#[48, 48, 55, 59]⟩ false) (hE : Env W) :
    Calls Tryd.prog 24 #[.pointer (some ⟨g, 0, none⟩)] W fun x w' => x = .returned (.int .i64 0) ∧ Rd w' g ⟨#[]⟩ true ∧ Gr g W w' := by
  have e : Wr.takeNum 59 (⟨#[48, 48, 55, 59]⟩ : ByteArray).data.toList = none := by decide +kernel
  have := num_any g _ false W h hE (by decide)
  rw [e] at this
  exact this

set_option maxHeartbeats 4000000 in
set_option maxRecDepth 100000 in
theorem small_any (W : World) (hE : Env W) : Calls Tryd.prog 9 #[] W fun e w' => e = .returned (.bool true) ∧ Below W.heap.size W w' := by
  have HE := Lib.hid hE
  clear hE
  go_enter Tryd.func9, Tryd.ntmps9
  go_wp2_with fail
  refine (num_c1 _ HE.out).mono ?_
  rintro x w1 ⟨rfl, hb⟩
  have HB1 := Lib.hid hb
  clear hb
  go_wp2_with fail
  refine (num_c2 _ (HE.out.new HB1.out)).mono ?_
  rintro x w2 ⟨rfl, hb⟩
  have HB2 := Lib.hid (HB1.out.trans (hb.mono HB1.out.size))
  clear hb
  go_wp2_with fail
  refine (num_c3 _ (HE.out.new HB2.out)).mono ?_
  rintro x w3 ⟨rfl, hb⟩
  have HB3 := Lib.hid (HB2.out.trans (hb.mono HB2.out.size))
  clear hb
  go_wp2_with fail
  refine (int_c1 _ (HE.out.new HB3.out)).mono ?_
  rintro x w4 ⟨rfl, hb⟩
  have HB4 := Lib.hid (HB3.out.trans (hb.mono HB3.out.size))
  clear hb
  go_wp2_with fail
  refine (int_c2 _ (HE.out.new HB4.out)).mono ?_
  rintro x w5 ⟨rfl, hb⟩
  have HB5 := Lib.hid (HB4.out.trans (hb.mono HB4.out.size))
  clear hb
  go_wp2_with fail
  refine (text_c _ (HE.out.new HB5.out)).mono ?_
  rintro x w6 ⟨rfl, hb⟩
  have HB6 := Lib.hid (HB5.out.trans (hb.mono HB5.out.size))
  clear hb
  go_wp2_with fail
  have HB6' : Hid (Below W.heap.size W (w6.alloc (.cells #[.int .i64 1, .int .i64 (-1)] 3))) := HB6.out.alloc HB6.out.size _
  refine (nums_c w6.heap.size 2 _ (HE.out.new HB6'.out) (by simp) (by simp) (by simp)).mono ?_
  rintro x w7 ⟨rfl, hb⟩
  have HB7 := Lib.hid (HB6'.out.trans (hb.mono HB6'.out.size))
  clear hb
  go_wp2_with fail
  refine (texts_c _ (HE.out.new HB7.out)).mono ?_
  rintro x w8 ⟨rfl, hb⟩
  have HB8 := Lib.hid (HB7.out.trans (hb.mono HB7.out.size))
  clear hb
  go_wp2_with fail
  refine (open_any _ _).mono ?_
  rintro x w9 ⟨rfl, hR, hb⟩
  have HR := Lib.hid hR
  have HB9 := Lib.hid (HB8.out.trans (hb.mono HB8.out.size))
  clear hR hb
  go_wp2_with fail
  refine (rnum_c _ _ HR.out (HE.out.new HB9.out)).mono ?_
  rintro x w10 ⟨rfl, hR, hg⟩
  have HR2 := Lib.hid hR
  have HB10 := Lib.hid (HB9.out.trans (Gr.below hg HB9.out.size HB8.out.size))
  clear hR hg
  go_wp2_with fail
  refine (left_any _ _ _ _ HR2.out).mono ?_
  rintro x w' ⟨rfl, rfl⟩
  go_wp2_with fail
  refine (done_any _ _ _ _ HR2.out).mono ?_
  rintro x w' ⟨rfl, rfl⟩
  go_wp2
  go_ret
  exact ⟨rfl, HB10.out⟩

theorem tmod5 (k : Int) : (0 ≤ k.tmod 5 ∧ k % 5 = k.tmod 5 ∧ k.tmod 5 < 5) ∨ (k.tmod 5 < 0 ∧ k % 5 = k.tmod 5 + 5 ∧ -5 < k.tmod 5) := by
  by_cases h : 0 ≤ k
  · rw [Int.tmod_eq_emod_of_nonneg h]; left; omega
  · obtain ⟨m, rfl⟩ : ∃ m : Int, k = -m := ⟨-k, by omega⟩
    rw [Int.neg_tmod, Int.tmod_eq_emod_of_nonneg (by omega)]
    omega

set_option maxHeartbeats 1000000 in
set_option maxRecDepth 100000 in
theorem kind_any (k n : Int) (s : ByteArray) (xa ya : Option Addr) (l c l' c' : Nat) (W : World) :
    Calls Tryd.prog 23 #[.agg #[.int .i64 k, .int .i64 n, .string s, .slice xa l c, .slice ya l' c']] W fun e w' => e = .returned (.int .i64 (k % 5)) ∧ Below W.heap.size W w' := by
  have ht := tmod5 k
  obtain ⟨q, hq⟩ : ∃ q, k.tmod 5 = q := ⟨_, rfl⟩
  rw [hq] at ht
  rcases ht with ⟨h0, e, h5⟩ | ⟨h0, e, h5⟩
  · have HE := Lib.hid e
    clear e
    go_enter Tryd.func23, Tryd.ntmps23
    go_wp2
    go_ret
    exact ⟨ret_int HE.out.symm, (Below.refl _ _).alloc (Nat.le_refl _) _⟩
  · have HE := Lib.hid e
    clear e
    go_enter Tryd.func23, Tryd.ntmps23
    go_wp2
    go_ret
    exact ⟨ret_int HE.out.symm, (Below.refl _ _).alloc (Nat.le_refl _) _⟩
end Go.Proofs.YthknahghmlfegaaDoor
