/-
  The law WireReads, walked: a reader returns what the reference's reader returns, also after it has failed.
-/
import Derived.Test.YthknahghmlfegaaDoorWRl
import Derived.Test.YthknahghmlfegaaDoorWAgain
namespace Go.Proofs.YthknahghmlfegaaDoor
open Go Go.RowKit Go.Shelf

namespace Wr
theorem step_ok {α : Type} {f : List UInt8 → Option (α × List UInt8)} (hnil : f [] = none) (hlen : ∀ l x r, f l = some (x, r) → r.length ≤ l.length) (r : ByteArray) (bad : Bool) (hb : bad = true → r.data.toList = []) (hs : r.size ≤ 400) :
    (rOf (f r.data.toList)).size ≤ 400 ∧ (bOf bad (f r.data.toList) = true → (rOf (f r.data.toList)).data.toList = []) := by
  refine ⟨?_, ?_⟩
  · have h1 := rOf_size hlen r.data.toList
    rw [← Lib.size_eq] at h1
    omega
  · cases h : f r.data.toList with
    | none => intro _; rfl
    | some p =>
      intro hB
      have : bad = true := hB
      rw [hb this, hnil] at h
      cases h
theorem takeText_nil : takeText [] = none := by unfold takeText; rw [show takeNum 58 [] = none from by unfold takeNum; rw [takeInt_nil]]
theorem takeList_nil {α : Type} (f : List UInt8 → Option (α × List UInt8)) : takeList f [] = none := by unfold takeList; rw [show takeNum 91 [] = none from by unfold takeNum; rw [takeInt_nil]]
theorem takeText_len {l r s : List UInt8} (h : takeText l = some (s, r)) : r.length ≤ l.length := by have := takeText_lt h; omega
end Wr

theorem open_ex (s : ByteArray) (W : World) : Calls Tryd.prog 21 #[.string s] W fun e w' => ∃ g, e = .returned (.pointer (some ⟨g, 0, none⟩)) ∧ W.heap.size ≤ g ∧ Rd w' g s false ∧ Below W.heap.size W w' :=
  (open_any s W).mono fun _ _ ⟨a, b, c⟩ => ⟨_, a, Nat.le_refl _, b, c⟩
theorem ropen_ex (s : ByteArray) (W : World) : Calls Tryd.prog 22 #[.string s] W fun e w' => ∃ g, e = .returned (.pointer (some ⟨g, 0, none⟩)) ∧ W.heap.size ≤ g ∧ Rq w' g s false ∧ Below W.heap.size W w' :=
  (ropen_any s W).mono fun _ _ ⟨a, b, c⟩ => ⟨_, a, Nat.le_refl _, b, c⟩

theorem pair_0 (g q : Nat) (_ : 6 ≤ g) (r : ByteArray) (bad : Bool) (hb : bad = true → r.data.toList = []) (hs : r.size ≤ 400) : ∃ (v : Int) (R : ByteArray) (B : Bool), R.size ≤ 400 ∧ (B = true → R.data.toList = []) ∧
    (∀ w, Rd w g r bad → Env w → Calls Tryd.prog 24 #[.pointer (some ⟨g, 0, none⟩)] w fun e w' => e = .returned (.int .i64 v) ∧ Rd w' g R B ∧ Gr g w w') ∧
    (∀ w, Rq w q r bad → Calls Tryd.prog 25 #[.pointer (some ⟨q, 0, none⟩)] w fun e w' => e = .returned (.int .i64 v) ∧ Rq w' q R B ∧ Gr q w w') :=
  ⟨Wr.vOf 0 (Wr.takeNum 59 r.data.toList), Wr.rOf (Wr.takeNum 59 r.data.toList), Wr.bOf bad (Wr.takeNum 59 r.data.toList), (Wr.step_ok (f := Wr.takeNum 59) (takeNum_nil 59) (fun _ _ _ => Wr.takeNum_len) r bad hb hs).1, (Wr.step_ok (f := Wr.takeNum 59) (takeNum_nil 59) (fun _ _ _ => Wr.takeNum_len) r bad hb hs).2,
   fun w h hE => num_any g r bad w h hE (by omega), fun w h => rrnum_any q r bad w h (by omega)⟩

theorem pair_1 (g q : Nat) (_ : 6 ≤ g) (r : ByteArray) (bad : Bool) (hb : bad = true → r.data.toList = []) (hs : r.size ≤ 400) : ∃ (v : Int) (R : ByteArray) (B : Bool), R.size ≤ 400 ∧ (B = true → R.data.toList = []) ∧
    (∀ w, Rd w g r bad → Env w → Calls Tryd.prog 26 #[.pointer (some ⟨g, 0, none⟩)] w fun e w' => e = .returned (.int .i64 v) ∧ Rd w' g R B ∧ Gr g w w') ∧
    (∀ w, Rq w q r bad → Calls Tryd.prog 27 #[.pointer (some ⟨q, 0, none⟩)] w fun e w' => e = .returned (.int .i64 v) ∧ Rq w' q R B ∧ Gr q w w') :=
  ⟨Wr.vOf 0 (Wr.takeInt 59 r.data.toList), Wr.rOf (Wr.takeInt 59 r.data.toList), Wr.bOf bad (Wr.takeInt 59 r.data.toList), (Wr.step_ok (f := Wr.takeInt 59) (Wr.takeInt_nil 59) (fun _ _ _ => Wr.takeInt_len) r bad hb hs).1, (Wr.step_ok (f := Wr.takeInt 59) (Wr.takeInt_nil 59) (fun _ _ _ => Wr.takeInt_len) r bad hb hs).2,
   fun w h hE => int_any g r bad w h hE (by omega), fun w h => rrint_any q r bad w h (by omega)⟩

theorem pair_2 (g q : Nat) (_ : 6 ≤ g) (r : ByteArray) (bad : Bool) (hb : bad = true → r.data.toList = []) (hs : r.size ≤ 400) : ∃ (v : ByteArray) (R : ByteArray) (B : Bool), R.size ≤ 400 ∧ (B = true → R.data.toList = []) ∧
    (∀ w, Rd w g r bad → Env w → Calls Tryd.prog 28 #[.pointer (some ⟨g, 0, none⟩)] w fun e w' => e = .returned (.string v) ∧ Rd w' g R B ∧ Gr g w w') ∧
    (∀ w, Rq w q r bad → Calls Tryd.prog 29 #[.pointer (some ⟨q, 0, none⟩)] w fun e w' => e = .returned (.string v) ∧ Rq w' q R B ∧ Gr q w w') :=
  ⟨⟨(Wr.vOf [] (Wr.takeText r.data.toList)).toArray⟩, Wr.rOf (Wr.takeText r.data.toList), Wr.bOf bad (Wr.takeText r.data.toList), (Wr.step_ok (f := Wr.takeText) Wr.takeText_nil (fun _ _ _ => Wr.takeText_len) r bad hb hs).1, (Wr.step_ok (f := Wr.takeText) Wr.takeText_nil (fun _ _ _ => Wr.takeText_len) r bad hb hs).2,
   fun w h hE => text_any g r bad w h hE (by omega), fun w h => rtext2_any q r bad w h hb (by omega)⟩

theorem tl_ints {l r : List UInt8} {x : List Int} (h : Wr.takeList (Wr.takeInt 59) l = some (x, r)) : r.length ≤ l.length := by
  have := (Wr.takeList_some (enc := Wr.encInt) Wr.nums_takeInt h).1
  rw [this]; simp
theorem tl_texts {l r : List UInt8} {x : List (List UInt8)} (h : Wr.takeList Wr.takeText l = some (x, r)) : r.length ≤ l.length := by
  have := (Wr.takeList_some (enc := Wr.encText) Wr.texts_takeText h).1
  rw [this]; simp

theorem pair_3 (g q : Nat) (hg : 6 ≤ g) (r : ByteArray) (bad : Bool) (hb : bad = true → r.data.toList = []) (hs : r.size ≤ 400) : ∃ (v : List Int) (R : ByteArray) (B : Bool), R.size ≤ 400 ∧ (B = true → R.data.toList = []) ∧ v.length ≤ 9223372036854775807 ∧
    (∀ w, Rd w g r bad → Env w → Calls Tryd.prog 31 #[.pointer (some ⟨g, 0, none⟩)] w fun e w' => ∃ xa b c, e = .returned (.slice xa v.length c) ∧ RowV w' xa b 0 (v.map (Value.int .i64)) ∧ (0 < v.length → w.heap.size ≤ b) ∧ Rd w' g R B ∧ Gr g w w') ∧
    (∀ w, Rq w q r bad → Calls Tryd.prog 32 #[.pointer (some ⟨q, 0, none⟩)] w fun e w' => ∃ xa b c, e = .returned (.slice xa v.length c) ∧ RowV w' xa b 0 (v.map (Value.int .i64)) ∧ Rq w' q R B ∧ Gr q w w') :=
  ⟨Wr.vOf [] (Wr.takeList (Wr.takeInt 59) r.data.toList), Wr.rOf (Wr.takeList (Wr.takeInt 59) r.data.toList), Wr.bOf bad (Wr.takeList (Wr.takeInt 59) r.data.toList), (Wr.step_ok (f := Wr.takeList (Wr.takeInt 59)) (Wr.takeList_nil _) (fun _ _ _ => tl_ints) r bad hb hs).1, (Wr.step_ok (f := Wr.takeList (Wr.takeInt 59)) (Wr.takeList_nil _) (fun _ _ _ => tl_ints) r bad hb hs).2, by
    cases h : Wr.takeList (Wr.takeInt 59) r.data.toList with
    | none => simp [Wr.vOf]
    | some p => exact (Wr.takeList_some (enc := Wr.encInt) Wr.nums_takeInt h).2,
   fun w h hE => (nums_any g r bad w h hb hE hg (by omega)).mono fun e w' ⟨v, h1, h2, h3, h4⟩ => by
     obtain ⟨xa, b, cap, rfl, hV, hp⟩ := rowV_own h2
     exact ⟨xa, b, cap, h1, hV, by simpa using hp, h3, h4⟩,
   fun w h => (rrnums_any q r bad w h hb (by omega)).mono fun e w' ⟨v, h1, h2, h3, h4⟩ => by
     obtain ⟨xa, b, cap, rfl, hV, _⟩ := rowV_own h2
     exact ⟨xa, b, cap, h1, hV, h3, h4⟩⟩

theorem pair_4 (g q : Nat) (hg : 6 ≤ g) (r : ByteArray) (bad : Bool) (hb : bad = true → r.data.toList = []) (hs : r.size ≤ 400) : ∃ (v : List (List UInt8)) (R : ByteArray) (B : Bool), R.size ≤ 400 ∧ (B = true → R.data.toList = []) ∧ v.length ≤ 9223372036854775807 ∧
    (∀ w, Rd w g r bad → Env w → Calls Tryd.prog 34 #[.pointer (some ⟨g, 0, none⟩)] w fun e w' => ∃ xa b c, e = .returned (.slice xa v.length c) ∧ RowV w' xa b 0 (v.map encStr) ∧ (0 < v.length → w.heap.size ≤ b) ∧ Rd w' g R B ∧ Gr g w w') ∧
    (∀ w, Rq w q r bad → Calls Tryd.prog 35 #[.pointer (some ⟨q, 0, none⟩)] w fun e w' => ∃ xa b c, e = .returned (.slice xa v.length c) ∧ RowV w' xa b 0 (v.map encStr) ∧ Rq w' q R B ∧ Gr q w w') :=
  ⟨Wr.vOf [] (Wr.takeList Wr.takeText r.data.toList), Wr.rOf (Wr.takeList Wr.takeText r.data.toList), Wr.bOf bad (Wr.takeList Wr.takeText r.data.toList), (Wr.step_ok (f := Wr.takeList Wr.takeText) (Wr.takeList_nil _) (fun _ _ _ => tl_texts) r bad hb hs).1, (Wr.step_ok (f := Wr.takeList Wr.takeText) (Wr.takeList_nil _) (fun _ _ _ => tl_texts) r bad hb hs).2, by
    cases h : Wr.takeList Wr.takeText r.data.toList with
    | none => simp [Wr.vOf]
    | some p => exact (Wr.takeList_some (enc := Wr.encText) Wr.texts_takeText h).2,
   fun w h hE => (texts_any g r bad w h hb hE hg (by omega)).mono fun e w' ⟨v, h1, h2, h3, h4⟩ => by
     obtain ⟨xa, b, cap, rfl, hV, hp⟩ := rowV_own h2
     exact ⟨xa, b, cap, h1, hV, by simpa using hp, h3, h4⟩,
   fun w h => (rrtexts_any q r bad w h hb (by omega)).mono fun e w' ⟨v, h1, h2, h3, h4⟩ => by
     obtain ⟨xa, b, cap, rfl, hV, _⟩ := rowV_own h2
     exact ⟨xa, b, cap, h1, hV, h3, h4⟩⟩


set_option maxHeartbeats 8000000 in
set_option maxRecDepth 100000 in
theorem reads_walk (s : ByteArray) (xa : Option Addr) (b off c : Nat) (X : List Int) (W : World) (hE : Env W) (hX : RowV W xa b off (X.map (Value.int .i64))) (hs : s.size ≤ 400) (hl : X.length ≤ 20) :
    Calls Tryd.prog 4 #[.string s, .slice xa X.length c] W fun e w' => e = .returned (.bool true) ∧ Below W.heap.size W w' := by
  have HE := Lib.hid hE
  have HX := Lib.hid hX
  have hW6 := hE.size
  clear hE hX
  go_enter Tryd.func4, Tryd.ntmps4
  go_wp2_with fail
  refine (small_any W HE.out).mono ?_
  rintro x w1 ⟨rfl, hb⟩
  have HB1 := Lib.hid hb
  clear hb
  go_wp2_with fail
  refine (open_ex _ _).mono ?_
  rintro x w2 ⟨g, rfl, hgz, hR, hb⟩
  have HR2 := Lib.hid hR
  have HB2 := Lib.hid (HB1.out.trans (hb.mono HB1.out.size))
  have hgW : W.heap.size ≤ g := Nat.le_trans HB1.out.size hgz
  clear hR hb hgz
  go_wp2_with fail
  refine (ropen_ex _ _).mono ?_
  rintro x w3 ⟨q, rfl, hqz, hR, hb⟩
  have HQ3 := Lib.hid hR
  have HR3 := Lib.hid (HR2.out.below hb)
  have HB3 := Lib.hid (HB2.out.trans (hb.mono HB2.out.size))
  have hgq : g < q := Nat.lt_of_lt_of_le HR2.out.lt hqz
  have hqW : W.heap.size ≤ q := by omega
  have hg : 6 ≤ g := by omega
  clear hR hb hqz
  go_wp2_with fail
  go_loopw [8] (fun i wr => ∃ (k : Nat) (r : ByteArray) (bad : Bool), i = .int .i64 k ∧ k ≤ X.length ∧ r.size ≤ 400 ∧ Hid (bad = true → r.data.toList = []) ∧ Hid (Rd wr g r bad) ∧ Hid (Rq wr q r bad) ∧ Hid (Below W.heap.size W wr)) (fun i _ => X.length - (intOf i).toNat)
  case atStart => exact ⟨0, s, false, rfl, Nat.zero_le _, hs, (show false = true → _ from fun h => by cases h), HR3.out, HQ3.out, HB3.out⟩
  case round =>
    obtain ⟨k, r, bad, rfl, hk, hrs, hbad, hR, hQ, hB⟩ := hrel
    by_cases hlt : k < X.length
    · obtain rfl := HX.out.at_ (by rw [List.length_map]; omega)
      have hcell : wr.cell? ⟨b, off + k, none⟩ = some (.int .i64 X[k]) := (HX.out.below hB.out).cell k _ (by rw [List.getElem?_map, List.getElem?_eq_getElem hlt]; rfl)
      have h5 : X[k] % 5 = 0 ∨ X[k] % 5 = 1 ∨ X[k] % 5 = 2 ∨ X[k] % 5 = 3 ∨ X[k] % 5 = 4 := by omega
      rcases h5 with h5 | h5 | h5 | h5 | h5
      · have HK := Lib.hid (fun w => kind_any X[k] 0 ⟨#[]⟩ none none 0 0 0 0 w)
        rw [h5] at HK
        obtain ⟨v, R, B, hRs, hRb, HP, HQ⟩ := pair_0 g q hg r bad hbad.out hrs
        have HRb := Lib.hid hRb
        have HP := Lib.hid HP
        have HQ := Lib.hid HQ
        obtain ⟨D, hD⟩ : ∃ D, (!B && R.toList.isEmpty) = D := ⟨_, rfl⟩
        have HD : Hid (∀ w, Rd w g R B → Calls Tryd.prog 38 #[.pointer (some ⟨g, 0, none⟩)] w fun e w' => e = .returned (.bool D) ∧ w = w') := fun w h => by rw [← hD]; exact done_any g R B w h
        have HD2 : Hid (∀ w, Rq w q R B → Calls Tryd.prog 39 #[.pointer (some ⟨q, 0, none⟩)] w fun e w' => e = .returned (.bool D) ∧ w = w') := fun w h => by rw [← hD]; exact rdone_any q R B w h
        clear h5 hRb hD
        go_wp2_with fail
        refine (HK.out _).mono ?_
        rintro x w4 ⟨rfl, hb⟩
        have HR4 := Lib.hid ((hR.out).below hb)
        have HQ4 := Lib.hid ((hQ.out).below hb)
        have HB4 := Lib.hid (hB.out.trans (hb.mono hB.out.size))
        clear hb hR hQ hB
        go_wp2_with fail
        refine (HP.out _ HR4.out (HE.out.new HB4.out)).mono ?_
        rintro x w5 ⟨rfl, hR5, hG5⟩
        have HR5 := Lib.hid hR5
        have HQ5 := Lib.hid (HQ4.out.other hG5 (by omega))
        have HB5 := Lib.hid (HB4.out.trans (Gr.below hG5 HB4.out.size hgW))
        clear hR5 hG5
        go_wp2_with fail
        refine (HQ.out _ HQ5.out).mono ?_
        rintro x w6 ⟨rfl, hR6, hG6⟩
        have HQ6 := Lib.hid hR6
        have HR6 := Lib.hid (HR5.out.other hG6 (by omega))
        have HB6 := Lib.hid (HB5.out.trans (Gr.below hG6 HB5.out.size hqW))
        clear hR6 hG6
        go_wp2_with fail
        refine (left_any _ _ _ _ HR6.out).mono ?_
        rintro x w' ⟨rfl, rfl⟩
        go_wp2_with fail
        refine (rleft_any _ _ _ _ HQ6.out).mono ?_
        rintro x w' ⟨rfl, rfl⟩
        go_wp2_with fail
        refine (HD.out _ HR6.out).mono ?_
        rintro x w' ⟨rfl, rfl⟩
        go_wp2_with fail
        refine (HD2.out _ HQ6.out).mono ?_
        rintro x w' ⟨rfl, rfl⟩
        go_wp2
        go_roundw
        case rel => exact ⟨k + 1, R, B, by go_num, by omega, hRs, HRb.out, HR6.out, HQ6.out, HB6.out⟩
        case measure => simp [intOf]; omega
      · have HK := Lib.hid (fun w => kind_any X[k] 0 ⟨#[]⟩ none none 0 0 0 0 w)
        rw [h5] at HK
        obtain ⟨v, R, B, hRs, hRb, HP, HQ⟩ := pair_1 g q hg r bad hbad.out hrs
        have HRb := Lib.hid hRb
        have HP := Lib.hid HP
        have HQ := Lib.hid HQ
        obtain ⟨D, hD⟩ : ∃ D, (!B && R.toList.isEmpty) = D := ⟨_, rfl⟩
        have HD : Hid (∀ w, Rd w g R B → Calls Tryd.prog 38 #[.pointer (some ⟨g, 0, none⟩)] w fun e w' => e = .returned (.bool D) ∧ w = w') := fun w h => by rw [← hD]; exact done_any g R B w h
        have HD2 : Hid (∀ w, Rq w q R B → Calls Tryd.prog 39 #[.pointer (some ⟨q, 0, none⟩)] w fun e w' => e = .returned (.bool D) ∧ w = w') := fun w h => by rw [← hD]; exact rdone_any q R B w h
        clear h5 hRb hD
        go_wp2_with fail
        refine (HK.out _).mono ?_
        rintro x w4 ⟨rfl, hb⟩
        have HR4 := Lib.hid ((hR.out).below hb)
        have HQ4 := Lib.hid ((hQ.out).below hb)
        have HB4 := Lib.hid (hB.out.trans (hb.mono hB.out.size))
        clear hb hR hQ hB
        go_wp2_with fail
        refine (HP.out _ HR4.out (HE.out.new HB4.out)).mono ?_
        rintro x w5 ⟨rfl, hR5, hG5⟩
        have HR5 := Lib.hid hR5
        have HQ5 := Lib.hid (HQ4.out.other hG5 (by omega))
        have HB5 := Lib.hid (HB4.out.trans (Gr.below hG5 HB4.out.size hgW))
        clear hR5 hG5
        go_wp2_with fail
        refine (HQ.out _ HQ5.out).mono ?_
        rintro x w6 ⟨rfl, hR6, hG6⟩
        have HQ6 := Lib.hid hR6
        have HR6 := Lib.hid (HR5.out.other hG6 (by omega))
        have HB6 := Lib.hid (HB5.out.trans (Gr.below hG6 HB5.out.size hqW))
        clear hR6 hG6
        go_wp2_with fail
        refine (left_any _ _ _ _ HR6.out).mono ?_
        rintro x w' ⟨rfl, rfl⟩
        go_wp2_with fail
        refine (rleft_any _ _ _ _ HQ6.out).mono ?_
        rintro x w' ⟨rfl, rfl⟩
        go_wp2_with fail
        refine (HD.out _ HR6.out).mono ?_
        rintro x w' ⟨rfl, rfl⟩
        go_wp2_with fail
        refine (HD2.out _ HQ6.out).mono ?_
        rintro x w' ⟨rfl, rfl⟩
        go_wp2
        go_roundw
        case rel => exact ⟨k + 1, R, B, by go_num, by omega, hRs, HRb.out, HR6.out, HQ6.out, HB6.out⟩
        case measure => simp [intOf]; omega
      · have HK := Lib.hid (fun w => kind_any X[k] 0 ⟨#[]⟩ none none 0 0 0 0 w)
        rw [h5] at HK
        obtain ⟨v, R, B, hRs, hRb, HP, HQ⟩ := pair_2 g q hg r bad hbad.out hrs
        have HRb := Lib.hid hRb
        have HP := Lib.hid HP
        have HQ := Lib.hid HQ
        obtain ⟨D, hD⟩ : ∃ D, (!B && R.toList.isEmpty) = D := ⟨_, rfl⟩
        have HD : Hid (∀ w, Rd w g R B → Calls Tryd.prog 38 #[.pointer (some ⟨g, 0, none⟩)] w fun e w' => e = .returned (.bool D) ∧ w = w') := fun w h => by rw [← hD]; exact done_any g R B w h
        have HD2 : Hid (∀ w, Rq w q R B → Calls Tryd.prog 39 #[.pointer (some ⟨q, 0, none⟩)] w fun e w' => e = .returned (.bool D) ∧ w = w') := fun w h => by rw [← hD]; exact rdone_any q R B w h
        clear h5 hRb hD
        go_wp2_with fail
        refine (HK.out _).mono ?_
        rintro x w4 ⟨rfl, hb⟩
        have HR4 := Lib.hid ((hR.out).below hb)
        have HQ4 := Lib.hid ((hQ.out).below hb)
        have HB4 := Lib.hid (hB.out.trans (hb.mono hB.out.size))
        clear hb hR hQ hB
        go_wp2_with fail
        refine (HP.out _ HR4.out (HE.out.new HB4.out)).mono ?_
        rintro x w5 ⟨rfl, hR5, hG5⟩
        have HR5 := Lib.hid hR5
        have HQ5 := Lib.hid (HQ4.out.other hG5 (by omega))
        have HB5 := Lib.hid (HB4.out.trans (Gr.below hG5 HB4.out.size hgW))
        clear hR5 hG5
        go_wp2_with fail
        refine (HQ.out _ HQ5.out).mono ?_
        rintro x w6 ⟨rfl, hR6, hG6⟩
        have HQ6 := Lib.hid hR6
        have HR6 := Lib.hid (HR5.out.other hG6 (by omega))
        have HB6 := Lib.hid (HB5.out.trans (Gr.below hG6 HB5.out.size hqW))
        clear hR6 hG6
        go_wp2_with fail
        refine (left_any _ _ _ _ HR6.out).mono ?_
        rintro x w' ⟨rfl, rfl⟩
        go_wp2_with fail
        refine (rleft_any _ _ _ _ HQ6.out).mono ?_
        rintro x w' ⟨rfl, rfl⟩
        go_wp2_with fail
        refine (HD.out _ HR6.out).mono ?_
        rintro x w' ⟨rfl, rfl⟩
        go_wp2_with fail
        refine (HD2.out _ HQ6.out).mono ?_
        rintro x w' ⟨rfl, rfl⟩
        go_wp2
        go_roundw
        case rel => exact ⟨k + 1, R, B, by go_num, by omega, hRs, HRb.out, HR6.out, HQ6.out, HB6.out⟩
        case measure => simp [intOf]; omega
      · have HK := Lib.hid (fun w => kind_any X[k] 0 ⟨#[]⟩ none none 0 0 0 0 w)
        rw [h5] at HK
        obtain ⟨v, R, B, hRs, hRb, hvl, HP, HQ⟩ := pair_3 g q hg r bad hbad.out hrs
        have HRb := Lib.hid hRb
        have HP := Lib.hid HP
        have HQ := Lib.hid HQ
        obtain ⟨D, hD⟩ : ∃ D, (!B && R.toList.isEmpty) = D := ⟨_, rfl⟩
        have HD : Hid (∀ w, Rd w g R B → Calls Tryd.prog 38 #[.pointer (some ⟨g, 0, none⟩)] w fun e w' => e = .returned (.bool D) ∧ w = w') := fun w h => by rw [← hD]; exact done_any g R B w h
        have HD2 : Hid (∀ w, Rq w q R B → Calls Tryd.prog 39 #[.pointer (some ⟨q, 0, none⟩)] w fun e w' => e = .returned (.bool D) ∧ w = w') := fun w h => by rw [← hD]; exact rdone_any q R B w h
        clear h5 hRb hD
        go_wp2_with fail
        refine (HK.out _).mono ?_
        rintro x w4 ⟨rfl, hb⟩
        have HR4 := Lib.hid ((hR.out).below hb)
        have HQ4 := Lib.hid ((hQ.out).below hb)
        have HB4 := Lib.hid (hB.out.trans (hb.mono hB.out.size))
        clear hb hR hQ hB
        go_wp2_with fail
        refine (HP.out _ HR4.out (HE.out.new HB4.out)).mono ?_
        rintro x w5 ⟨ya, yb, yc, rfl, hV5, hp5, hR5, hG5⟩
        have HR5 := Lib.hid hR5
        have HQ5 := Lib.hid (HQ4.out.other hG5 (by omega))
        have HB5 := Lib.hid (HB4.out.trans (Gr.below hG5 HB4.out.size hgW))
        have HV5 := Lib.hid hV5
        have HZ5 := Lib.hid hp5
        have HG5z := Lib.hid (HB4.out.size)
        clear hV5 hp5
        clear hR5 hG5
        go_wp2_with fail
        refine (HQ.out _ HQ5.out).mono ?_
        rintro x w6 ⟨za, zb, zc, rfl, hV6, hR6, hG6⟩
        have HQ6 := Lib.hid hR6
        have HR6 := Lib.hid (HR5.out.other hG6 (by omega))
        have HB6 := Lib.hid (HB5.out.trans (Gr.below hG6 HB5.out.size hqW))
        have HV6 := Lib.hid hV6
        have HV5b := Lib.hid (HV5.out.gr hG6 (by rw [List.length_map]; intro hp; have h1 := HZ5.out hp; have h2 := HQ4.out.lt; omega))
        clear hV6
        clear hR6 hG6
        go_wp2_with fail
        refine (sameNums_any _ _ _ _ _ _ _ _ v _ hvl HV5b.out HV6.out).mono ?_
        rintro x w7 ⟨rfl, n7, rfl⟩
        have HR6 := Lib.hid (HR6.out.drews n7)
        have HQ6 := Lib.hid (HQ6.out.drews n7)
        have HB6 := Lib.hid (below_drewN HB6.out n7)
        go_wp2_with fail
        refine (left_any _ _ _ _ HR6.out).mono ?_
        rintro x w' ⟨rfl, rfl⟩
        go_wp2_with fail
        refine (rleft_any _ _ _ _ HQ6.out).mono ?_
        rintro x w' ⟨rfl, rfl⟩
        go_wp2_with fail
        refine (HD.out _ HR6.out).mono ?_
        rintro x w' ⟨rfl, rfl⟩
        go_wp2_with fail
        refine (HD2.out _ HQ6.out).mono ?_
        rintro x w' ⟨rfl, rfl⟩
        go_wp2
        go_roundw
        case rel => exact ⟨k + 1, R, B, by go_num, by omega, hRs, HRb.out, HR6.out, HQ6.out, HB6.out⟩
        case measure => simp [intOf]; omega
      · have HK := Lib.hid (fun w => kind_any X[k] 0 ⟨#[]⟩ none none 0 0 0 0 w)
        rw [h5] at HK
        obtain ⟨v, R, B, hRs, hRb, hvl, HP, HQ⟩ := pair_4 g q hg r bad hbad.out hrs
        have HRb := Lib.hid hRb
        have HP := Lib.hid HP
        have HQ := Lib.hid HQ
        obtain ⟨D, hD⟩ : ∃ D, (!B && R.toList.isEmpty) = D := ⟨_, rfl⟩
        have HD : Hid (∀ w, Rd w g R B → Calls Tryd.prog 38 #[.pointer (some ⟨g, 0, none⟩)] w fun e w' => e = .returned (.bool D) ∧ w = w') := fun w h => by rw [← hD]; exact done_any g R B w h
        have HD2 : Hid (∀ w, Rq w q R B → Calls Tryd.prog 39 #[.pointer (some ⟨q, 0, none⟩)] w fun e w' => e = .returned (.bool D) ∧ w = w') := fun w h => by rw [← hD]; exact rdone_any q R B w h
        clear h5 hRb hD
        go_wp2_with fail
        refine (HK.out _).mono ?_
        rintro x w4 ⟨rfl, hb⟩
        have HR4 := Lib.hid ((hR.out).below hb)
        have HQ4 := Lib.hid ((hQ.out).below hb)
        have HB4 := Lib.hid (hB.out.trans (hb.mono hB.out.size))
        clear hb hR hQ hB
        go_wp2_with fail
        refine (HP.out _ HR4.out (HE.out.new HB4.out)).mono ?_
        rintro x w5 ⟨ya, yb, yc, rfl, hV5, hp5, hR5, hG5⟩
        have HR5 := Lib.hid hR5
        have HQ5 := Lib.hid (HQ4.out.other hG5 (by omega))
        have HB5 := Lib.hid (HB4.out.trans (Gr.below hG5 HB4.out.size hgW))
        have HV5 := Lib.hid hV5
        have HZ5 := Lib.hid hp5
        have HG5z := Lib.hid (HB4.out.size)
        clear hV5 hp5
        clear hR5 hG5
        go_wp2_with fail
        refine (HQ.out _ HQ5.out).mono ?_
        rintro x w6 ⟨za, zb, zc, rfl, hV6, hR6, hG6⟩
        have HQ6 := Lib.hid hR6
        have HR6 := Lib.hid (HR5.out.other hG6 (by omega))
        have HB6 := Lib.hid (HB5.out.trans (Gr.below hG6 HB5.out.size hqW))
        have HV6 := Lib.hid hV6
        have HV5b := Lib.hid (HV5.out.gr hG6 (by rw [List.length_map]; intro hp; have h1 := HZ5.out hp; have h2 := HQ4.out.lt; omega))
        clear hV6
        clear hR6 hG6
        go_wp2_with fail
        refine (sameTexts_any _ _ _ _ _ _ _ _ v _ hvl HV5b.out HV6.out).mono ?_
        rintro x w7 ⟨rfl, n7, rfl⟩
        have HR6 := Lib.hid (HR6.out.drews n7)
        have HQ6 := Lib.hid (HQ6.out.drews n7)
        have HB6 := Lib.hid (below_drewN HB6.out n7)
        go_wp2_with fail
        refine (left_any _ _ _ _ HR6.out).mono ?_
        rintro x w' ⟨rfl, rfl⟩
        go_wp2_with fail
        refine (rleft_any _ _ _ _ HQ6.out).mono ?_
        rintro x w' ⟨rfl, rfl⟩
        go_wp2_with fail
        refine (HD.out _ HR6.out).mono ?_
        rintro x w' ⟨rfl, rfl⟩
        go_wp2_with fail
        refine (HD2.out _ HQ6.out).mono ?_
        rintro x w' ⟨rfl, rfl⟩
        go_wp2
        go_roundw
        case rel => exact ⟨k + 1, R, B, by go_num, by omega, hRs, HRb.out, HR6.out, HQ6.out, HB6.out⟩
        case measure => simp [intOf]; omega
    · obtain rfl : k = X.length := by omega
      go_wp2
      go_ret
      exact ⟨rfl, hB.out⟩

set_option maxHeartbeats 1000000 in
set_option maxRecDepth 100000 in
theorem reads_long (s : ByteArray) (xa : Option Addr) (n c : Nat) (W : World) (hE : Env W) (hs : s.size ≤ 9223372036854775807) (hn : n ≤ 9223372036854775807) (hl : 400 < s.size ∨ 20 < n) :
    Calls Tryd.prog 4 #[.string s, .slice xa n c] W fun e w' => e = .returned (.bool true) ∧ Below W.heap.size W w' := by
  have HE := Lib.hid hE
  clear hE
  by_cases h4 : 400 < s.size
  · clear hl
    go_enter Tryd.func4, Tryd.ntmps4
    go_wp2_with fail
    refine (small_any W HE.out).mono ?_
    rintro x w1 ⟨rfl, hb⟩
    go_wp2
    go_ret
    exact ⟨rfl, hb⟩
  · have hl : 20 < n := by omega
    go_enter Tryd.func4, Tryd.ntmps4
    go_wp2_with fail
    refine (small_any W HE.out).mono ?_
    rintro x w1 ⟨rfl, hb⟩
    go_wp2
    go_ret
    exact ⟨rfl, hb⟩

theorem reads_law (s : ByteArray) (xa : Option Addr) (b off c : Nat) (X : List Int) (W : World) (hE : Env W) (hX : RowV W xa b off (X.map (Value.int .i64))) (hs : s.size ≤ 9223372036854775807) (hl : X.length ≤ 9223372036854775807) :
    Calls Tryd.prog 4 #[.string s, .slice xa X.length c] W fun e w' => e = .returned (.bool true) ∧ Below W.heap.size W w' := by
  by_cases h : s.size ≤ 400 ∧ X.length ≤ 20
  · exact reads_walk s xa b off c X W hE hX h.1 h.2
  · exact reads_long s xa X.length c W hE hs hl (by omega)
end Go.Proofs.YthknahghmlfegaaDoor
