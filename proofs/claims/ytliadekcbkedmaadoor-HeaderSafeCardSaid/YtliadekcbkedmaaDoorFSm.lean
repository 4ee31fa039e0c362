/-
  missivelaw09.small.
-/
import Derived.Test.YtliadekcbkedmaaDoorFSa
namespace Go.Proofs.YtliadekcbkedmaaDoor
open Go Go.RowKit Go.Shelf
theorem lit1 (W : World) (a b : List UInt8) (T : TypeId) : PL (W.alloc (.cells #[encStr a, encStr b] T)) (some ⟨W.heap.size, 0, none⟩) W.heap.size 0 [(a, b)] :=
  ⟨fun _ => rfl, fun j p hp => by
    have := cells_new W (pv [(a, b)]) T
    cases j with
    | zero => cases hp; exact ⟨this 0 _ rfl, this 1 _ rfl⟩
    | succ j => simp at hp, fun _ => by rw [alloc_size]; omega⟩
theorem lit2 (W : World) (a b c d : List UInt8) (T : TypeId) : PL (W.alloc (.cells #[encStr a, encStr b, encStr c, encStr d] T)) (some ⟨W.heap.size, 0, none⟩) W.heap.size 0 [(a, b), (c, d)] :=
  ⟨fun _ => rfl, fun j p hp => by
    have := cells_new W (pv [(a, b), (c, d)]) T
    match j with
    | 0 => cases hp; exact ⟨this 0 _ rfl, this 1 _ rfl⟩
    | 1 => cases hp; exact ⟨this 2 _ rfl, this 3 _ rfl⟩
    | j + 2 => simp at hp, fun _ => by rw [alloc_size]; omega⟩
/-- What Parse answers, as a slice that reads. -/
theorem parse_to {s : ByteArray} {X : List Hd.Fd} {n m : Nat} (hX : (Hd.parse s.data.toList).1 = X) (hm : s.size - (Hd.parse s.data.toList).2.length = m) (hn : X.length = n) (hs : s.size ≤ 30000) (w : World) (hM : MaxAt w) :
    Calls Tryd.prog 21 #[.string s] w fun e w' => ∃ a b c, e = .returned (.tuple #[.slice a n c, .int .i64 m]) ∧ Hid (PL w' a b 0 X) ∧ Hid (Below w.heap.size w w') := by
  refine (parse_any s w hs hM).mono ?_
  rintro e w' ⟨a, k, c, rfl, hO, hb⟩
  obtain ⟨xa, b, cap, hv, hP, _⟩ := hO.row
  injection hv with e1 e2 e3
  subst e1 e3
  rw [hX] at e2 hP
  rw [hm, e2, hn]
  exact ⟨_, _, _, rfl, Lib.hid hP, Lib.hid hb⟩
theorem params_to {s : ByteArray} {M : List UInt8} {X : List Hd.Fd} {n : Nat} (hX : Hd.params s.data.toList = (M, X)) (hn : X.length = n) (hs : s.size ≤ 100000) (w : World) (hM : MaxAt w) :
    Calls Tryd.prog 10 #[.string s] w fun e w' => ∃ a b c, e = .returned (.tuple #[.string ⟨M.toArray⟩, .slice a n c]) ∧ Hid (PL w' a b 0 X) ∧ Hid (Below w.heap.size w w') := by
  refine (params_any s w hs hM).mono ?_
  rintro e w' ⟨a, k, c, rfl, hO, hb⟩
  obtain ⟨xa, b, cap, hv, hP, _⟩ := hO.row
  injection hv with e1 e2 e3
  subst e1 e3
  rw [hX] at e2 hP ⊢
  rw [e2, hn]
  exact ⟨_, _, _, rfl, Lib.hid hP, Lib.hid hb⟩
theorem sameF_yes {X : List Hd.Fd} {n cx cy : Nat} {xa ya : Option Addr} {xb yb : Nat} {w : World} (hX : PL w xa xb 0 X) (hY : PL w ya yb 0 X) (hn : X.length = n) (h2 : n ≤ 1000000) :
    Calls Tryd.prog 22 #[.slice xa n cx, .slice ya n cy] w fun e w' => e = .returned (.bool true) ∧ Hid (Below w.heap.size w w') := by
  refine (sameF_any X X n n cx cy xa ya xb yb 0 0 w hX hY hn hn h2).mono ?_
  rintro e w' ⟨h, hd⟩
  unfold SameIs at h
  rw [decide_eq_true rfl] at h
  exact ⟨h, Lib.hid hd.below⟩
theorem sameP_yes {X : List Hd.Fd} {n cx cy : Nat} {xa ya : Option Addr} {xb yb : Nat} {w : World} (hX : PL w xa xb 0 X) (hY : PL w ya yb 0 X) (hn : X.length = n) (h2 : n ≤ 1000000) :
    Calls Tryd.prog 14 #[.slice xa n cx, .slice ya n cy] w fun e w' => e = .returned (.bool true) ∧ Hid (Below w.heap.size w w') := by
  refine (sameP_any X X n n cx cy xa ya xb yb 0 0 w hX hY hn hn h2).mono ?_
  rintro e w' ⟨h, hd⟩
  unfold SameIs at h
  rw [decide_eq_true rfl] at h
  exact ⟨h, Lib.hid hd.below⟩
/-- The world further on. -/
structure On (w W : World) : Prop where
  b : Below w.heap.size w W
  m : MaxAt W
theorem On.refl {w : World} (h : MaxAt w) : On w w := ⟨Below.refl _ _, h⟩
theorem On.more {w W W' : World} (h : On w W) (hb : Below W.heap.size W W') : On w W' := ⟨below_to h.b (Nat.le_refl _) hb, h.m.below hb h.m.pos⟩
theorem On.new {w W : World} (h : On w W) (o : Obj) : On w (W.alloc o) := h.more (below_new W o)
set_option maxHeartbeats 4000000 in
set_option maxRecDepth 100000 in
theorem small_any (w : World) (hM : MaxAt w) :
    Calls Tryd.prog 9 #[] w fun e w' => e = .returned (.bool true) ∧ Below w.heap.size w w' := by
  have H1 := Lib.hid (fun W h => parse_to (s := ⟨#[65, 58, 32, 49, 10, 32, 32, 50, 10, 98, 58, 10, 10, 120]⟩) (X := [([65], [49, 32, 50]), ([98], [])]) (n := 2) (m := 13) (by decide +kernel) (by decide +kernel) rfl (by decide) W h)
  have H2 := Lib.hid (fun W h => parse_to (s := ⟨#[65, 58, 32, 49, 10, 110, 111, 32, 102, 105, 101, 108, 100, 10]⟩) (X := [([65], [49])]) (n := 1) (m := 5) (by decide +kernel) (by decide +kernel) rfl (by decide) W h)
  have H3 := Lib.hid (fun W h => params_to (s := ⟨#[116, 101, 120, 116, 47, 112, 108, 97, 105, 110, 59, 32, 67, 104, 97, 114, 115, 101, 116, 61, 117, 116, 102, 45, 56, 59, 32, 120, 59, 32, 110, 97, 109, 101, 61, 34, 97, 32, 92, 34, 98, 34]⟩) (M := [116, 101, 120, 116, 47, 112, 108, 97, 105, 110]) (X := [([99, 104, 97, 114, 115, 101, 116], [117, 116, 102, 45, 56]), ([110, 97, 109, 101], [97, 32, 34, 98])]) (n := 2) (by decide +kernel) rfl (by decide) W h)
  have H4 : Hid (∀ W a b c, PL W a b 0 [([99, 104, 97, 114, 115, 101, 116], [117, 116, 102, 45, 56]), ([110, 97, 109, 101], [97, 32, 98])] → MaxAt W → Calls Tryd.prog 15 #[.string ⟨#[116, 101, 120, 116, 47, 112, 108, 97, 105, 110]⟩, .slice a 2 c] W fun e w' => e = .returned (.string ⟨#[116, 101, 120, 116, 47, 112, 108, 97, 105, 110, 59, 32, 99, 104, 97, 114, 115, 101, 116, 61, 117, 116, 102, 45, 56, 59, 32, 110, 97, 109, 101, 61, 34, 97, 32, 98, 34]⟩) ∧ Hid (Below W.heap.size W w')) := Lib.hid (fun W a b c hP h => by
    have := quote_any ⟨#[116, 101, 120, 116, 47, 112, 108, 97, 105, 110]⟩ [([99, 104, 97, 114, 115, 101, 116], [117, 116, 102, 45, 56]), ([110, 97, 109, 101], [97, 32, 98])] 2 c a b 0 W (by decide) hP rfl (by omega) (by decide +kernel) h
    rw [show Hd.quote (⟨#[116, 101, 120, 116, 47, 112, 108, 97, 105, 110]⟩ : ByteArray).data.toList [([99, 104, 97, 114, 115, 101, 116], [117, 116, 102, 45, 56]), ([110, 97, 109, 101], [97, 32, 98])] = [116, 101, 120, 116, 47, 112, 108, 97, 105, 110, 59, 32, 99, 104, 97, 114, 115, 101, 116, 61, 117, 116, 102, 45, 56, 59, 32, 110, 97, 109, 101, 61, 34, 97, 32, 98, 34] by decide +kernel] at this
    exact this)
  have H5 : Hid (∀ W a b c, PL W a b 0 [([65], [32, 120, 10, 121, 32]), ([98, 32, 99], [])] → MaxAt W → Calls Tryd.prog 20 #[.slice a 2 c] W fun e w' => e = .returned (.string ⟨#[65, 58, 32, 120, 32, 121, 10]⟩) ∧ Hid (Below W.heap.size W w')) := Lib.hid (fun W a b c hP h => by
    have := write_any [([65], [32, 120, 10, 121, 32]), ([98, 32, 99], [])] 2 c a b 0 W hP rfl (by omega) (by decide +kernel) h
    rw [show Hd.write [([65], [32, 120, 10, 121, 32]), ([98, 32, 99], [])] = [65, 58, 32, 120, 32, 121, 10] by decide +kernel] at this
    exact this)
  have S1 : Hid (∀ W a b c a2 b2 c2, PL W a b 0 [([65], [49, 32, 50]), ([98], [])] → PL W a2 b2 0 [([65], [49, 32, 50]), ([98], [])] → Calls Tryd.prog 22 #[.slice a 2 c, .slice a2 2 c2] W fun e w' => e = .returned (.bool true) ∧ Hid (Below W.heap.size W w')) := Lib.hid (fun W a b c a2 b2 c2 h1 h2 => sameF_yes h1 h2 rfl (by decide))
  have S2 : Hid (∀ W a b c a2 b2 c2, PL W a b 0 [([65], [49])] → PL W a2 b2 0 [([65], [49])] → Calls Tryd.prog 22 #[.slice a 1 c, .slice a2 1 c2] W fun e w' => e = .returned (.bool true) ∧ Hid (Below W.heap.size W w')) := Lib.hid (fun W a b c a2 b2 c2 h1 h2 => sameF_yes h1 h2 rfl (by decide))
  have S3 : Hid (∀ W a b c a2 b2 c2, PL W a b 0 [([99, 104, 97, 114, 115, 101, 116], [117, 116, 102, 45, 56]), ([110, 97, 109, 101], [97, 32, 34, 98])] → PL W a2 b2 0 [([99, 104, 97, 114, 115, 101, 116], [117, 116, 102, 45, 56]), ([110, 97, 109, 101], [97, 32, 34, 98])] → Calls Tryd.prog 14 #[.slice a 2 c, .slice a2 2 c2] W fun e w' => e = .returned (.bool true) ∧ Hid (Below W.heap.size W w')) := Lib.hid (fun W a b c a2 b2 c2 h1 h2 => sameP_yes h1 h2 rfl (by decide))
  have HO := Lib.hid (On.refl hM)
  clear hM
  go_enter Tryd.func9, Tryd.ntmps9
  go_wp2_with (first
    | (go_at_call 21; with_reducible refine (H1.out _ HO.out.m).mono ?_; rintro e w1 ⟨a1, b1, c1, rfl, hP1, hb1⟩; have HO1 := Lib.hid (HO.out.more hb1.out); clear hb1)
    | (go_at_call 21; with_reducible refine (H2.out _ HO1.out.m).mono ?_; rintro e w2 ⟨a2, b2, c2, rfl, hP2, hb2⟩; have HO2 := Lib.hid (HO1.out.more hb2.out); have hP12 := Lib.hid (hP1.out.new hb2.out); clear hb2)
    | (go_at_call 10; with_reducible refine (H3.out _ HO2.out.m).mono ?_; rintro e w3 ⟨a3, b3, c3, rfl, hP3, hb3⟩; have HO3 := Lib.hid (HO2.out.more hb3.out); have hP13 := Lib.hid (hP12.out.new hb3.out); have hP23 := Lib.hid (hP2.out.new hb3.out); clear hb3)
    | (go_at_call 15; with_reducible refine (H4.out _ _ _ _ (lit2 w3 _ _ _ _ _) (HO3.out.new _).m).mono ?_; rintro e w4 ⟨rfl, hb4⟩; have HB4 := Lib.hid ((below_new w3 _).trans (hb4.out.mono (by rw [alloc_size]; omega))); have HO4 := Lib.hid (HO3.out.more HB4.out); clear hb4)
    | (go_at_call 22; with_reducible refine (S1.out _ _ _ _ _ _ _ ((hP13.out.new HB4.out).new (below_new w4 _)) (lit2 w4 _ _ _ _ _)).mono ?_; rintro e w5 ⟨rfl, hb5⟩; have HB5 := Lib.hid ((below_new w4 _).trans (hb5.out.mono (by rw [alloc_size]; omega))); have HO5 := Lib.hid (HO4.out.more HB5.out); have hP25 := Lib.hid ((hP23.out.new HB4.out).new HB5.out); have hP35 := Lib.hid ((hP3.out.new HB4.out).new HB5.out); clear hb5)
    | (go_at_call 22; with_reducible refine (S2.out _ _ _ _ _ _ _ (hP25.out.new (below_new w5 _)) (lit1 w5 _ _ _)).mono ?_; rintro e w6 ⟨rfl, hb6⟩; have HB6 := Lib.hid ((below_new w5 _).trans (hb6.out.mono (by rw [alloc_size]; omega))); have HO6 := Lib.hid (HO5.out.more HB6.out); have hP36 := Lib.hid (hP35.out.new HB6.out); clear hb6)
    | (go_at_call 14; with_reducible refine (S3.out _ _ _ _ _ _ _ (hP36.out.new (below_new w6 _)) (lit2 w6 _ _ _ _ _)).mono ?_; rintro e w7 ⟨rfl, hb7⟩; have HB7 := Lib.hid ((below_new w6 _).trans (hb7.out.mono (by rw [alloc_size]; omega))); have HO7 := Lib.hid (HO6.out.more HB7.out); clear hb7)
    | (go_at_call 20; with_reducible refine (H5.out _ _ _ _ (lit2 w7 _ _ _ _ _) (HO7.out.new _).m).mono ?_; rintro e w8 ⟨rfl, hb8⟩; have HO8 := Lib.hid ((HO7.out.new _).more hb8.out); clear hb8))
  go_ret
  exact ⟨rfl, HO8.out.b⟩
end Go.Proofs.YtliadekcbkedmaaDoor
