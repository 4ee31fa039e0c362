/-
  missivelaw02.equal, on a reader that stands at the encoding of the value.
-/
import Derived.Test.YthknahghmlfegaaDoorWWr
import Derived.RegionTactic
import Derived.Deep.RegionWith
import Derived.Deep.RegionHeld3
namespace Go.Proofs.YthknahghmlfegaaDoor
open Go Go.RowKit Go.Shelf

theorem back_num {x : Wr.Vl} (hf : Wr.Fit x) (hk : x.K % 5 = 0) {l t : List UInt8} (h : l = Wr.encV x ++ t) : Wr.takeNum 59 l = some (Wr.numb x.N, t) := by
  obtain ⟨h1, h2⟩ := Wr.numb_i64 hf.N
  rw [h, Wr.encV_0 hk]
  unfold Wr.encNum Wr.encInt
  rw [if_neg (by omega), List.append_assoc]
  exact Wr.takeNum_enc (by decide) h1 h2 t
theorem back_int {x : Wr.Vl} (hf : Wr.Fit x) (hk : x.K % 5 = 1) {l t : List UInt8} (h : l = Wr.encV x ++ t) : Wr.takeInt 59 l = some (x.N, t) := by
  rw [h, Wr.encV_1 hk]; exact Wr.takeInt_nums hf.N t
theorem back_text {x : Wr.Vl} (hf : Wr.Fit x) (hk : x.K % 5 = 2) {l t : List UInt8} (h : l = Wr.encV x ++ t) : Wr.takeText l = some (x.S, t) := by
  rw [h, Wr.encV_2 hk]; exact Wr.takeText_enc hf.S t
theorem back_nums {x : Wr.Vl} (hf : Wr.Fit x) (hk : x.K % 5 = 3) {l t : List UInt8} (h : l = Wr.encV x ++ t) : Wr.takeList (Wr.takeInt 59) l = some (x.L, t) := by
  rw [h, Wr.encV_3 hk]; exact Wr.takeList_enc hf.L (fun y hy r => Wr.takeInt_nums (hf.ints y hy) r) t
theorem back_texts {x : Wr.Vl} (hf : Wr.Fit x) (hk : x.K % 5 = 4) {l t : List UInt8} (h : l = Wr.encV x ++ t) : Wr.takeList Wr.takeText l = some (x.T, t) := by
  rw [h, Wr.encV_4 hk]; exact Wr.takeList_enc hf.T (fun y hy r => Wr.takeText_enc (hf.texts y hy) r) t
theorem gr_cell {g : Nat} {W W' : World} (h : Gr g W W') {b o : Nat} (hb : b < W.heap.size) (hne : b ≠ g) : W'.cell? ⟨b, o, none⟩ = W.cell? ⟨b, o, none⟩ :=
  World.cell?_of_block (h.block b hb (fun e => hne (by injection e)))
theorem Gr.drews {g : Nat} {a b : World} (h : Gr g a b) (n : Nat) : Gr g a (b.drewN n) := ⟨h.os, h.tape, h.output, h.size, h.block⟩
theorem RowV.gr {g : Nat} {W W' : World} {xa : Option Addr} {b off : Nat} {vs : List Value} (h : RowV W xa b off vs) (hb : Gr g W W') (hne : 0 < vs.length → b ≠ g) : RowV W' xa b off vs :=
  h.keep (fun hp hl => hb.block b hl (fun e => hne hp (by injection e))) hb.size

set_option maxHeartbeats 4000000 in
set_option maxRecDepth 100000 in
theorem equal_0 (x : Wr.Vl) (xa ya : Option Addr) (b off c b' off' c' : Nat) (W : World) (hE : Env W) (hf : FV W x xa ya b off b' off') (hk : x.K % 5 = 0)
    (g : Nat) (r : ByteArray) (t : List UInt8) (h : Rd W g r false) (hs : r.size ≤ 1000000) (hr : r.data.toList = Wr.encV x ++ t) :
    Calls Tryd.prog 41 #[.pointer (some ⟨g, 0, none⟩), argV x xa ya c c'] W fun e w' => e = .returned (.bool true) ∧ Rd w' g ⟨t.toArray⟩ false ∧ Gr g W w' := by
  have hx := back_num hf.fit hk hr
  unfold argV
  obtain ⟨y, hy⟩ : ∃ y : ByteArray, encStr x.S = .string y := ⟨_, rfl⟩
  have hyl : y.data.toList = x.S := by
    have : (⟨x.S.toArray⟩ : ByteArray) = y := by injection hy
    rw [← this]
  rw [hy]
  have HK := Lib.hid (fun w => kind_any x.K x.N y xa ya x.L.length c x.T.length c' w)
  rw [hk] at HK
  have HE := Lib.hid hE
  have HF := Lib.hid hf
  have HX := Lib.hid hx
  have HR := Lib.hid h
  have hgl := h.lt
  have HN := Lib.hid hf.fit.N
  clear hE hf hk hy hyl hx h hr
  go_enter Tryd.func41, Tryd.ntmps41
  go_wp2_with fail
  refine (HK.out _).mono ?_
  rintro e w1 ⟨rfl, hb⟩
  have hB1 : Below W.heap.size W w1 := ((Below.refl _ W).alloc (Nat.le_refl _) _).trans (hb.mono (by simp))
  have hc : w1.cell? ⟨W.heap.size, 1, none⟩ = some (.int .i64 x.N) := (hb.cell (p := ⟨W.heap.size, 1, none⟩) (by simp)).trans (by simp)
  have hz : W.heap.size < w1.heap.size := by have := hb.size; simp at this; omega
  have HB1 := Lib.hid hB1
  have HR1 := Lib.hid (HR.out.below hB1)
  clear hb hB1
  have HQ : Hid (∀ w, Below w1.heap.size w1 w → Calls Tryd.prog 24 #[.pointer (some ⟨g, 0, none⟩)] w fun e w' => e = .returned (.int .i64 (Wr.numb x.N)) ∧ Rd w' g ⟨t.toArray⟩ false ∧ Gr g w1 w') := fun w hb => by
    have := num_any g r false w (HR1.out.below hb) ((HE.out.new HB1.out).new hb) hs
    rw [HX.out] at this
    exact this.mono fun _ _ ⟨h1, h2, h3⟩ => ⟨h1, h2, Gr.trans (Gr.of_below hb) h3⟩

  go_wp2_with fail
  go_region_held3 (fun w' => w'.cell? ⟨W.heap.size, 1, none⟩ = some (.int .i64 x.N)) (first | go_keep | assumption)
    (first
      | (go_at_call 24; refine (HQ.out _ (by first | exact Below.refl _ _ | exact below_drewN (Below.refl _ _) _ | exact (Below.refl _ _).drew)).mono ?_; rintro e w2 ⟨rfl, h2, h3⟩; have hc2 := (gr_cell h3 (o := 1) hz (by omega)).trans hc)
      | (go_at_call 56; refine (numb_any x.N HN.out _).mono ?_; rintro e w' ⟨rfl, rfl⟩))
  go_wp2
  go_ret
  exact ⟨rfl, h2, Gr.trans (Gr.of_below HB1.out) (by first | exact h3 | exact Gr.drews h3 _)⟩

set_option maxHeartbeats 4000000 in
set_option maxRecDepth 100000 in
theorem equal_1 (x : Wr.Vl) (xa ya : Option Addr) (b off c b' off' c' : Nat) (W : World) (hE : Env W) (hf : FV W x xa ya b off b' off') (hk : x.K % 5 = 1)
    (g : Nat) (r : ByteArray) (t : List UInt8) (h : Rd W g r false) (hs : r.size ≤ 1000000) (hr : r.data.toList = Wr.encV x ++ t) :
    Calls Tryd.prog 41 #[.pointer (some ⟨g, 0, none⟩), argV x xa ya c c'] W fun e w' => e = .returned (.bool true) ∧ Rd w' g ⟨t.toArray⟩ false ∧ Gr g W w' := by
  have hx := back_int hf.fit hk hr
  unfold argV
  obtain ⟨y, hy⟩ : ∃ y : ByteArray, encStr x.S = .string y := ⟨_, rfl⟩
  have hyl : y.data.toList = x.S := by
    have : (⟨x.S.toArray⟩ : ByteArray) = y := by injection hy
    rw [← this]
  rw [hy]
  have HK := Lib.hid (fun w => kind_any x.K x.N y xa ya x.L.length c x.T.length c' w)
  rw [hk] at HK
  have HE := Lib.hid hE
  have HF := Lib.hid hf
  have HX := Lib.hid hx
  have HR := Lib.hid h
  have hgl := h.lt

  clear hE hf hk hy hyl hx h hr
  go_enter Tryd.func41, Tryd.ntmps41
  go_wp2_with fail
  refine (HK.out _).mono ?_
  rintro e w1 ⟨rfl, hb⟩
  have hB1 : Below W.heap.size W w1 := ((Below.refl _ W).alloc (Nat.le_refl _) _).trans (hb.mono (by simp))
  have hc : w1.cell? ⟨W.heap.size, 1, none⟩ = some (.int .i64 x.N) := (hb.cell (p := ⟨W.heap.size, 1, none⟩) (by simp)).trans (by simp)
  have hz : W.heap.size < w1.heap.size := by have := hb.size; simp at this; omega
  have HB1 := Lib.hid hB1
  have HR1 := Lib.hid (HR.out.below hB1)
  clear hb hB1
  have HQ : Hid (∀ w, Below w1.heap.size w1 w → Calls Tryd.prog 26 #[.pointer (some ⟨g, 0, none⟩)] w fun e w' => e = .returned (.int .i64 x.N) ∧ Rd w' g ⟨t.toArray⟩ false ∧ Gr g w1 w') := fun w hb => by
    have := int_any g r false w (HR1.out.below hb) ((HE.out.new HB1.out).new hb) hs
    rw [HX.out] at this
    exact this.mono fun _ _ ⟨h1, h2, h3⟩ => ⟨h1, h2, Gr.trans (Gr.of_below hb) h3⟩

  go_wp2_with fail
  go_region_held3 (fun w' => w'.cell? ⟨W.heap.size, 1, none⟩ = some (.int .i64 x.N)) (first | go_keep | assumption)
    (first
      | (go_at_call 26; refine (HQ.out _ (by first | exact Below.refl _ _ | exact below_drewN (Below.refl _ _) _ | exact (Below.refl _ _).drew)).mono ?_; rintro e w2 ⟨rfl, h2, h3⟩; have hc2 := (gr_cell h3 (o := 1) hz (by omega)).trans hc)
      | (fail))
  go_wp2
  go_ret
  exact ⟨rfl, h2, Gr.trans (Gr.of_below HB1.out) (by first | exact h3 | exact Gr.drews h3 _)⟩

set_option maxHeartbeats 4000000 in
set_option maxRecDepth 100000 in
theorem equal_2 (x : Wr.Vl) (xa ya : Option Addr) (b off c b' off' c' : Nat) (W : World) (hE : Env W) (hf : FV W x xa ya b off b' off') (hk : x.K % 5 = 2)
    (g : Nat) (r : ByteArray) (t : List UInt8) (h : Rd W g r false) (hs : r.size ≤ 1000000) (hr : r.data.toList = Wr.encV x ++ t) :
    Calls Tryd.prog 41 #[.pointer (some ⟨g, 0, none⟩), argV x xa ya c c'] W fun e w' => e = .returned (.bool true) ∧ Rd w' g ⟨t.toArray⟩ false ∧ Gr g W w' := by
  have hx := back_text hf.fit hk hr
  unfold argV
  obtain ⟨y, hy⟩ : ∃ y : ByteArray, encStr x.S = .string y := ⟨_, rfl⟩
  have hyl : y.data.toList = x.S := by
    have : (⟨x.S.toArray⟩ : ByteArray) = y := by injection hy
    rw [← this]
  rw [hy]
  have HK := Lib.hid (fun w => kind_any x.K x.N y xa ya x.L.length c x.T.length c' w)
  rw [hk] at HK
  have HE := Lib.hid hE
  have HF := Lib.hid hf
  have HX := Lib.hid hx
  have HR := Lib.hid h
  have hgl := h.lt
  have HY := Lib.hid hy
  have hyy : (y.toList == y.toList) = true := by simp
  clear hE hf hk hy hyl hx h hr
  go_enter Tryd.func41, Tryd.ntmps41
  go_wp2_with fail
  refine (HK.out _).mono ?_
  rintro e w1 ⟨rfl, hb⟩
  have hB1 : Below W.heap.size W w1 := ((Below.refl _ W).alloc (Nat.le_refl _) _).trans (hb.mono (by simp))
  have hc : w1.cell? ⟨W.heap.size, 2, none⟩ = some (.string y) := (hb.cell (p := ⟨W.heap.size, 2, none⟩) (by simp)).trans (by simp)
  have hz : W.heap.size < w1.heap.size := by have := hb.size; simp at this; omega
  have HB1 := Lib.hid hB1
  have HR1 := Lib.hid (HR.out.below hB1)
  clear hb hB1
  have HQ : Hid (∀ w, Below w1.heap.size w1 w → Calls Tryd.prog 28 #[.pointer (some ⟨g, 0, none⟩)] w fun e w' => e = .returned (.string y) ∧ Rd w' g ⟨t.toArray⟩ false ∧ Gr g w1 w') := fun w hb => by
    have := text_any g r false w (HR1.out.below hb) ((HE.out.new HB1.out).new hb) hs
    rw [HX.out] at this
    exact this.mono fun _ _ ⟨h1, h2, h3⟩ => ⟨h1.trans (by rw [← HY.out]; rfl), h2, Gr.trans (Gr.of_below hb) h3⟩

  go_wp2_with fail
  go_region_held3 (fun w' => w'.cell? ⟨W.heap.size, 2, none⟩ = some (.string y)) (first | go_keep | assumption)
    (first
      | (go_at_call 28; refine (HQ.out _ (by first | exact Below.refl _ _ | exact below_drewN (Below.refl _ _) _ | exact (Below.refl _ _).drew)).mono ?_; rintro e w2 ⟨rfl, h2, h3⟩; have hc2 := (gr_cell h3 (o := 2) hz (by omega)).trans hc)
      | (fail))
  go_wp2
  go_ret
  exact ⟨rfl, h2, Gr.trans (Gr.of_below HB1.out) (by first | exact h3 | exact Gr.drews h3 _)⟩

set_option maxHeartbeats 4000000 in
set_option maxRecDepth 100000 in
theorem equal_3 (x : Wr.Vl) (xa ya : Option Addr) (b off c b' off' c' : Nat) (W : World) (hE : Env W) (hf : FV W x xa ya b off b' off') (hk : x.K % 5 = 3)
    (g : Nat) (r : ByteArray) (t : List UInt8) (h : Rd W g r false) (hg : 6 ≤ g) (hs : r.size ≤ 1000000) (hr : r.data.toList = Wr.encV x ++ t) (hne : 0 < x.L.length → b ≠ g) :
    Calls Tryd.prog 41 #[.pointer (some ⟨g, 0, none⟩), argV x xa ya c c'] W fun e w' => e = .returned (.bool true) ∧ Rd w' g ⟨t.toArray⟩ false ∧ Gr g W w' := by
  have hx := back_nums hf.fit hk hr
  unfold argV
  obtain ⟨y, hy⟩ : ∃ y : ByteArray, encStr x.S = .string y := ⟨_, rfl⟩
  have hyl : y.data.toList = x.S := by
    have : (⟨x.S.toArray⟩ : ByteArray) = y := by injection hy
    rw [← this]
  rw [hy]
  have HK := Lib.hid (fun w => kind_any x.K x.N y xa ya x.L.length c x.T.length c' w)
  rw [hk] at HK
  have HE := Lib.hid hE
  have HF := Lib.hid hf
  have HX := Lib.hid hx
  have HR := Lib.hid h
  have hgl := h.lt
  have hgz := hg
  have HLm := Lib.hid hf.fit.L
  have HNe := Lib.hid hne
  clear hE hf hk hy hyl hx h hr
  go_enter Tryd.func41, Tryd.ntmps41
  go_wp2_with fail
  refine (HK.out _).mono ?_
  rintro e w1 ⟨rfl, hb⟩
  have hB1 : Below W.heap.size W w1 := ((Below.refl _ W).alloc (Nat.le_refl _) _).trans (hb.mono (by simp))
  have hc : w1.cell? ⟨W.heap.size, 3, none⟩ = some (.slice xa x.L.length c) := (hb.cell (p := ⟨W.heap.size, 3, none⟩) (by simp)).trans (by simp)
  have hz : W.heap.size < w1.heap.size := by have := hb.size; simp at this; omega
  have HB1 := Lib.hid hB1
  have HR1 := Lib.hid (HR.out.below hB1)
  clear hb hB1
  have HQ : Hid (∀ w, Below w1.heap.size w1 w → Calls Tryd.prog 31 #[.pointer (some ⟨g, 0, none⟩)] w fun e w' => ∃ za zb zc, e = .returned (.slice za x.L.length zc) ∧ RowV w' za zb 0 (x.L.map (Value.int .i64)) ∧ Rd w' g ⟨t.toArray⟩ false ∧ Gr g w1 w') := fun w hb => by
    have := nums_any g r false w (HR1.out.below hb) (fun h => by cases h) ((HE.out.new HB1.out).new hb) hg hs
    rw [HX.out] at this
    exact this.mono fun _ _ ⟨v, h1, h0, h2, h3⟩ => by
      obtain ⟨za, zb, zc, rfl, hV, _⟩ := rowV_own h0
      exact ⟨za, zb, zc, h1, hV, h2, Gr.trans (Gr.of_below hb) h3⟩

  go_wp2_with fail
  go_region_held3 (fun w' => w'.cell? ⟨W.heap.size, 3, none⟩ = some (.slice xa x.L.length c)) (first | go_keep | assumption)
    (first
      | (go_at_call 31; refine (HQ.out _ (by first | exact Below.refl _ _ | exact below_drewN (Below.refl _ _) _ | exact (Below.refl _ _).drew)).mono ?_; rintro e w2 ⟨za, zb, zc, rfl, hV, h2, h3⟩; have hc2 := (gr_cell h3 (o := 3) hz (by omega)).trans hc)
      | (go_at_call 30; refine (sameNums_any _ _ _ _ _ _ _ _ x.L _ HLm.out hV (by have hW := (HF.out.L.below HB1.out).gr h3 (fun hp => HNe.out (by rw [List.length_map] at hp; exact hp)); exact hW)).mono ?_; rintro e w' ⟨rfl, n, rfl⟩))
  go_wp2
  go_ret
  exact ⟨rfl, h2, Gr.trans (Gr.of_below HB1.out) (by first | exact h3 | exact Gr.drews h3 _)⟩

set_option maxHeartbeats 4000000 in
set_option maxRecDepth 100000 in
theorem equal_4 (x : Wr.Vl) (xa ya : Option Addr) (b off c b' off' c' : Nat) (W : World) (hE : Env W) (hf : FV W x xa ya b off b' off') (hk : x.K % 5 = 4)
    (g : Nat) (r : ByteArray) (t : List UInt8) (h : Rd W g r false) (hg : 6 ≤ g) (hs : r.size ≤ 1000000) (hr : r.data.toList = Wr.encV x ++ t) (hne : 0 < x.T.length → b' ≠ g) :
    Calls Tryd.prog 41 #[.pointer (some ⟨g, 0, none⟩), argV x xa ya c c'] W fun e w' => e = .returned (.bool true) ∧ Rd w' g ⟨t.toArray⟩ false ∧ Gr g W w' := by
  have hx := back_texts hf.fit hk hr
  unfold argV
  obtain ⟨y, hy⟩ : ∃ y : ByteArray, encStr x.S = .string y := ⟨_, rfl⟩
  have hyl : y.data.toList = x.S := by
    have : (⟨x.S.toArray⟩ : ByteArray) = y := by injection hy
    rw [← this]
  rw [hy]
  have HK := Lib.hid (fun w => kind_any x.K x.N y xa ya x.L.length c x.T.length c' w)
  rw [hk] at HK
  have HE := Lib.hid hE
  have HF := Lib.hid hf
  have HX := Lib.hid hx
  have HR := Lib.hid h
  have hgl := h.lt
  have hgz := hg
  have HLm := Lib.hid hf.fit.T
  have HNe := Lib.hid hne
  clear hE hf hk hy hyl hx h hr
  go_enter Tryd.func41, Tryd.ntmps41
  go_wp2_with fail
  refine (HK.out _).mono ?_
  rintro e w1 ⟨rfl, hb⟩
  have hB1 : Below W.heap.size W w1 := ((Below.refl _ W).alloc (Nat.le_refl _) _).trans (hb.mono (by simp))
  have hc : w1.cell? ⟨W.heap.size, 4, none⟩ = some (.slice ya x.T.length c') := (hb.cell (p := ⟨W.heap.size, 4, none⟩) (by simp)).trans (by simp)
  have hz : W.heap.size < w1.heap.size := by have := hb.size; simp at this; omega
  have HB1 := Lib.hid hB1
  have HR1 := Lib.hid (HR.out.below hB1)
  clear hb hB1
  have HQ : Hid (∀ w, Below w1.heap.size w1 w → Calls Tryd.prog 34 #[.pointer (some ⟨g, 0, none⟩)] w fun e w' => ∃ za zb zc, e = .returned (.slice za x.T.length zc) ∧ RowV w' za zb 0 (x.T.map encStr) ∧ Rd w' g ⟨t.toArray⟩ false ∧ Gr g w1 w') := fun w hb => by
    have := texts_any g r false w (HR1.out.below hb) (fun h => by cases h) ((HE.out.new HB1.out).new hb) hg hs
    rw [HX.out] at this
    exact this.mono fun _ _ ⟨v, h1, h0, h2, h3⟩ => by
      obtain ⟨za, zb, zc, rfl, hV, _⟩ := rowV_own h0
      exact ⟨za, zb, zc, h1, hV, h2, Gr.trans (Gr.of_below hb) h3⟩

  go_wp2_with fail
  go_region_held3 (fun w' => w'.cell? ⟨W.heap.size, 4, none⟩ = some (.slice ya x.T.length c')) (first | go_keep | assumption)
    (first
      | (go_at_call 34; refine (HQ.out _ (by first | exact Below.refl _ _ | exact below_drewN (Below.refl _ _) _ | exact (Below.refl _ _).drew)).mono ?_; rintro e w2 ⟨za, zb, zc, rfl, hV, h2, h3⟩; have hc2 := (gr_cell h3 (o := 4) hz (by omega)).trans hc)
      | (go_at_call 33; refine (sameTexts_any _ _ _ _ _ _ _ _ x.T _ HLm.out hV (by have hW := (HF.out.T.below HB1.out).gr h3 (fun hp => HNe.out (by rw [List.length_map] at hp; exact hp)); exact hW)).mono ?_; rintro e w' ⟨rfl, n, rfl⟩))
  go_wp2
  go_ret
  exact ⟨rfl, h2, Gr.trans (Gr.of_below HB1.out) (by first | exact h3 | exact Gr.drews h3 _)⟩

theorem equal_any (x : Wr.Vl) (xa ya : Option Addr) (b off c b' off' c' : Nat) (W : World) (hE : Env W) (hf : FV W x xa ya b off b' off')
    (g : Nat) (r : ByteArray) (t : List UInt8) (h : Rd W g r false) (hg : 6 ≤ g) (hs : r.size ≤ 1000000) (hr : r.data.toList = Wr.encV x ++ t) (hn1 : 0 < x.L.length → b ≠ g) (hn2 : 0 < x.T.length → b' ≠ g) :
    Calls Tryd.prog 41 #[.pointer (some ⟨g, 0, none⟩), argV x xa ya c c'] W fun e w' => e = .returned (.bool true) ∧ Rd w' g ⟨t.toArray⟩ false ∧ Gr g W w' := by
  have h5 : x.K % 5 = 0 ∨ x.K % 5 = 1 ∨ x.K % 5 = 2 ∨ x.K % 5 = 3 ∨ x.K % 5 = 4 := by omega
  rcases h5 with k | k | k | k | k
  · exact equal_0 x xa ya b off c b' off' c' W hE hf k g r t h hs hr
  · exact equal_1 x xa ya b off c b' off' c' W hE hf k g r t h hs hr
  · exact equal_2 x xa ya b off c b' off' c' W hE hf k g r t h hs hr
  · exact equal_3 x xa ya b off c b' off' c' W hE hf k g r t h hg hs hr hn1
  · exact equal_4 x xa ya b off c b' off' c' W hE hf k g r t h hg hs hr hn2
end Go.Proofs.YthknahghmlfegaaDoor
