/-
  Reading lists of strings; Nums and Texts.
-/
import Derived.Test.YthknahghmlfegaaDoorWList
namespace Go.Proofs.YthknahghmlfegaaDoor
open Go Go.RowKit Go.Shelf

set_option maxHeartbeats 4000000 in
set_option maxRecDepth 100000 in
theorem readTexts_none (g : Nat) (r : ByteArray) (bad : Bool) (W : World) (h : Rd W g r bad) (hE : Env W) (hs : r.size ≤ 1000000) (hx : Wr.takeNum 91 r.data.toList = none) :
    Calls Tryd.prog 55 #[.pointer (some ⟨g, 0, none⟩), .func (.func 28) #[.pointer (some ⟨g, 0, none⟩)] #[]] W fun x w' => x = .returned (.slice none 0 0) ∧ Rd w' g ⟨#[]⟩ true ∧ Gr g W w' := by
  have HN := Lib.hid (number_any 91 g r bad W h hE hs)
  rw [hx] at HN
  simp only [Wr.vOf, Wr.rOf, Wr.bOf] at HN
  clear h hE hx
  go_enter Tryd.func55, Tryd.ntmps55
  go_wp2_with fail
  refine HN.out.mono ?_
  rintro x w1 ⟨rfl, h1, h2⟩
  have H1 := Lib.hid h1
  have H2 := Lib.hid h2
  clear h1 h2
  go_wp2_with fail
  go_loopw [5, 6, 9] (fun v _ i wr => v = .slice none 0 0 ∧ i = .int .i64 0 ∧ wr = w1) (fun _ _ _ _ => 0)
  case atStart => exact ⟨rfl, rfl, rfl⟩
  case round =>
    obtain ⟨rfl, rfl, rfl⟩ := hrel
    go_wp2_with fail
    refine (skip_no 93 g _ _ _ H1.out rfl).mono ?_
    rintro x w3 ⟨rfl, h3, h4⟩
    go_wp2
    go_ret
    exact ⟨rfl, h3, Gr.trans H2.out h4⟩

set_option maxHeartbeats 4000000 in
set_option maxRecDepth 100000 in
theorem readTexts_some (g : Nat) (r : ByteArray) (W : World) (h : Rd W g r false) (hE : Env W) (hg : 6 ≤ g) (hs : r.size ≤ 1000000) (n : Nat) (t : List UInt8) (hx : Wr.takeNum 91 r.data.toList = some ((n : Int), t)) (hn : n ≤ 9223372036854775807) :
    Calls Tryd.prog 55 #[.pointer (some ⟨g, 0, none⟩), .func (.func 28) #[.pointer (some ⟨g, 0, none⟩)] #[]] W fun x w' =>
      ∃ v, x = .returned v ∧ w'.ownsRow W.heap.size 9 1 v (Wr.vOf [] (Wr.takeList Wr.takeText r.data.toList)).length ((Wr.vOf [] (Wr.takeList Wr.takeText r.data.toList)).map encStr) ∧
        Rd w' g (Wr.rOf (Wr.takeList Wr.takeText r.data.toList)) (Wr.bOf false (Wr.takeList Wr.takeText r.data.toList)) ∧ Gr g W w' := by
  have HN := Lib.hid (number_any 91 g r false W h hE hs)
  have hlen := Wr.takeNum_len hx
  rw [hx] at HN
  simp only [Wr.vOf, Wr.rOf, Wr.bOf] at HN
  have hgW := h.lt
  have hsz := Lib.size_eq r
  obtain ⟨X, hX⟩ : ∃ X, Wr.takeList Wr.takeText r.data.toList = X := ⟨_, rfl⟩
  rw [hX]
  unfold Wr.takeList at hX
  simp only [hx, Int.toNat_natCast] at hX
  have HX := Lib.hid hX
  have HE := Lib.hid hE
  obtain ⟨i0, hi, hz0, hz1, hz2⟩ := info_parts infoStr
  clear h hE hx hX
  go_enter Tryd.func55, Tryd.ntmps55
  go_wp2_with fail
  refine HN.out.mono ?_
  rintro x w1 ⟨rfl, h1, h2⟩
  have H1 := Lib.hid h1
  have H2 := Lib.hid h2
  clear h1 h2
  go_wp2_with fail
  go_loopw [5, 6, 9] (fun v _ i wr => ∃ (k : Nat) (out : List (List UInt8)) (T : ByteArray) (vv : Value), vv = v ∧ i = .int .i64 k ∧ k ≤ n ∧ wr.ownsRow W.heap.size 9 1 v out.length (out.map encStr) ∧ Hid (Rd wr g T false) ∧ Hid (Gr g W wr) ∧ Hid (Wr.Mid Wr.takeText n t k out T.data.toList) ∧ out.length + T.size ≤ t.length)
    (fun _ _ i _ => n - (intOf i).toNat)
  case atStart => exact ⟨0, [], ⟨t.toArray⟩, _, rfl, rfl, Nat.zero_le _, World.ownsRow_nil _ _ _ _, H1.out, H2.out, Wr.Mid.start _ _ _, by rw [Wr.bs_len]; simp⟩
  case round =>
    obtain ⟨k, out, T, v, rfl, rfl, hk, hown, hR, hG, hM, hol⟩ := hrel
    by_cases hlt : k < n
    · have HI := Lib.hid (text_any g T false wr hR.out (HE.out.gr hG.out hg) (by omega))
      cases hf : Wr.takeText T.data.toList with
      | none =>
        have HM := Lib.hid (hM.out.none hlt hf)
        rw [hf] at HI
        simp only [Wr.vOf, Wr.rOf, Wr.bOf] at HI
        clear hf hM hR
        go_wp2_with fail
        refine HI.out.mono ?_
        rintro x w2 ⟨rfl, h3, h4⟩
        have hc1 := h3.c1
        have H3 := Lib.hid h3
        have H4 := Lib.hid h4
        clear h3 h4
        go_wp2_with fail
        go_ret
        have hX := HX.out
        rw [HM.out] at hX
        subst hX
        exact ⟨_, rfl, World.ownsRow_nil _ _ _ _, H3.out, Gr.trans hG.out H4.out⟩
      | some p =>
        obtain ⟨y, T'⟩ := p
        have HM := Lib.hid (hM.out.next hlt hf)
        have hlt' := Wr.takeText_lt hf
        rw [← Lib.size_eq] at hlt'
        rw [hf] at HI
        simp only [Wr.vOf, Wr.rOf, Wr.bOf] at HI
        clear hf hM hR
        go_wp2_with fail
        refine HI.out.mono ?_
        rintro x w2 ⟨rfl, h3, h4⟩
        have hc1 := h3.c1
        have hown2 := hown.kept h4 (by
          rcases hb : v.ownBlock with _ | k'
          · exact .inl rfl
          · have := (hown.lt k' hb).1
            exact .inr (by intro e; injection e; omega))
        have hG2 : Hid (Gr g W w2) := Gr.trans hG.out h4
        have hsz2 : W.heap.size ≤ w2.heap.size := hG2.out.size
        have H3 := Lib.hid h3
        clear h3 h4 hown
        go_wp2_with (at_builtin; go_must (refine wpList_append_own _ rfl _ _ 23 rfl W.heap.size 9 i0 (.string ⟨#[]⟩) 1 16 Tryd.underlying23 hi hz0 hz1 hz2 rfl (by decide) _ _ _ rfl (hown2.alloc _) ⟨w2.heap.size, 0, none⟩ 1 1 [encStr y] rfl rfl ?c1 ?c2 ?c3 ?c4 ?c5 ?_))
        case c1 => exact cell_one_new _ _ _
        case c2 => simp [Value.oneCell']
        case c3 => unfold maxLen; omega
        case c4 => omega
        case c5 => simp; omega
        intro v' w3 hown' hgrow _
        have hne : ∀ k, v.ownBlock = some k → W.heap.size ≤ k := fun k e => (hown2.lt k e).1
        have hG3 : Hid (Gr g W w3) := Gr.grown (Gr.alloc hG2.out _) hgrow hne
        have hR3 : Hid (Rd w3 g ⟨T'.toArray⟩ false) := (H3.out.alloc _).grown hgrow (fun k e => by have := hne k e; omega)
        go_wp2
        go_roundw
        case rel => exact ⟨k + 1, out ++ [y], ⟨T'.toArray⟩, _, rfl, by go_num, by omega, by simpa using hown', hR3, hG3, HM.out, by rw [Wr.bs_len]; simp only [List.length_append, List.length_cons, List.length_nil]; omega⟩
        case measure => simp [intOf]; omega
    · obtain rfl : k = n := by omega
      have HM := Lib.hid hM.out.end_
      have hX := HX.out
      rw [HM.out] at hX
      simp only at hX
      clear hM
      cases hf : Wr.skip 93 T.data.toList with
      | none =>
        rw [hf] at hX
        simp only [Option.map_none] at hX
        subst hX
        have HF := Lib.hid hf
        clear hf
        go_wp2_with fail
        refine (skip_no 93 g _ _ _ hR.out HF.out).mono ?_
        rintro x w3 ⟨rfl, h3, h4⟩
        have H3 := Lib.hid h3
        have H4 := Lib.hid h4
        clear h3 h4
        go_wp2
        go_ret
        exact ⟨_, rfl, World.ownsRow_nil _ _ _ _, H3.out, Gr.trans hG.out H4.out⟩
      | some u =>
        rw [hf] at hX
        simp only [Option.map_some] at hX
        subst hX
        have HF := Lib.hid hf
        clear hf
        go_wp2_with fail
        refine (skip_yes 93 g _ _ _ hR.out HF.out).mono ?_
        rintro x w3 ⟨rfl, h3, h4⟩
        have hown2 := hown.kept h4 (by
          rcases hb : v.ownBlock with _ | k'
          · exact .inl rfl
          · have := (hown.lt k' hb).1
            exact .inr (by intro e; injection e; omega))
        have H3 := Lib.hid h3
        have H4 := Lib.hid h4
        clear h3 h4
        go_wp2
        go_ret
        exact ⟨_, rfl, hown2, H3.out, Gr.trans hG.out H4.out⟩

theorem takeList_none {α : Type} {f : List UInt8 → Option (α × List UInt8)} {l : List UInt8} (h : Wr.takeNum 91 l = none) : Wr.takeList f l = none := by unfold Wr.takeList; rw [h]
theorem takeNum_nil (e : UInt8) : Wr.takeNum e [] = none := by unfold Wr.takeNum; rw [Wr.takeInt_nil]

theorem readInts_any (g : Nat) (r : ByteArray) (bad : Bool) (W : World) (h : Rd W g r bad) (hb : bad = true → r.data.toList = []) (hE : Env W) (hg : 6 ≤ g) (hs : r.size ≤ 1000000) :
    Calls Tryd.prog 54 #[.pointer (some ⟨g, 0, none⟩), .func (.func 26) #[.pointer (some ⟨g, 0, none⟩)] #[]] W fun x w' =>
      ∃ v, x = .returned v ∧ w'.ownsRow W.heap.size 3 1 v (Wr.vOf [] (Wr.takeList (Wr.takeInt 59) r.data.toList)).length ((Wr.vOf [] (Wr.takeList (Wr.takeInt 59) r.data.toList)).map (Value.int .i64)) ∧
        Rd w' g (Wr.rOf (Wr.takeList (Wr.takeInt 59) r.data.toList)) (Wr.bOf bad (Wr.takeList (Wr.takeInt 59) r.data.toList)) ∧ Gr g W w' := by
  cases hx : Wr.takeNum 91 r.data.toList with
  | none =>
    rw [takeList_none hx]
    exact (readInts_none g r bad W h hE hs hx).mono fun x w' ⟨h1, h2, h3⟩ => ⟨_, h1, World.ownsRow_nil _ _ _ _, h2, h3⟩
  | some p =>
    obtain ⟨n, t⟩ := p
    obtain ⟨h1, h2, h3⟩ := Wr.takeNum_some hx
    obtain ⟨k, rfl⟩ : ∃ k : Nat, n = (k : Int) := ⟨n.toNat, by omega⟩
    have hf : bad = false := by
      cases bad with
      | false => rfl
      | true => rw [hb rfl, takeNum_nil] at hx; cases hx
    subst hf
    exact readInts_some g r W h hE hg hs k t hx (by unfold Wr.i64 at h2; omega)

set_option maxHeartbeats 1000000 in
set_option maxRecDepth 100000 in
theorem nums_any (g : Nat) (r : ByteArray) (bad : Bool) (W : World) (h : Rd W g r bad) (hb : bad = true → r.data.toList = []) (hE : Env W) (hg : 6 ≤ g) (hs : r.size ≤ 1000000) :
    Calls Tryd.prog 31 #[.pointer (some ⟨g, 0, none⟩)] W fun x w' =>
      ∃ v, x = .returned v ∧ w'.ownsRow W.heap.size 3 1 v (Wr.vOf [] (Wr.takeList (Wr.takeInt 59) r.data.toList)).length ((Wr.vOf [] (Wr.takeList (Wr.takeInt 59) r.data.toList)).map (Value.int .i64)) ∧
        Rd w' g (Wr.rOf (Wr.takeList (Wr.takeInt 59) r.data.toList)) (Wr.bOf bad (Wr.takeList (Wr.takeInt 59) r.data.toList)) ∧ Gr g W w' := by
  have HI := Lib.hid (readInts_any g r bad W h hb hE hg hs)
  clear h hE hb
  generalize Wr.takeList (Wr.takeInt 59) r.data.toList = X at HI ⊢
  go_enter Tryd.func31, Tryd.ntmps31
  go_wp2_with fail
  refine HI.out.mono ?_
  rintro x w1 ⟨v, rfl, h0, h1, h2⟩
  have H0 := Lib.hid h0
  have H1 := Lib.hid h1
  clear h0 h1
  go_wp2
  go_ret
  exact ⟨_, rfl, H0.out, H1.out, h2⟩

theorem readTexts_any (g : Nat) (r : ByteArray) (bad : Bool) (W : World) (h : Rd W g r bad) (hb : bad = true → r.data.toList = []) (hE : Env W) (hg : 6 ≤ g) (hs : r.size ≤ 1000000) :
    Calls Tryd.prog 55 #[.pointer (some ⟨g, 0, none⟩), .func (.func 28) #[.pointer (some ⟨g, 0, none⟩)] #[]] W fun x w' =>
      ∃ v, x = .returned v ∧ w'.ownsRow W.heap.size 9 1 v (Wr.vOf [] (Wr.takeList Wr.takeText r.data.toList)).length ((Wr.vOf [] (Wr.takeList Wr.takeText r.data.toList)).map encStr) ∧
        Rd w' g (Wr.rOf (Wr.takeList Wr.takeText r.data.toList)) (Wr.bOf bad (Wr.takeList Wr.takeText r.data.toList)) ∧ Gr g W w' := by
  cases hx : Wr.takeNum 91 r.data.toList with
  | none =>
    rw [takeList_none hx]
    exact (readTexts_none g r bad W h hE hs hx).mono fun x w' ⟨h1, h2, h3⟩ => ⟨_, h1, World.ownsRow_nil _ _ _ _, h2, h3⟩
  | some p =>
    obtain ⟨n, t⟩ := p
    obtain ⟨h1, h2, h3⟩ := Wr.takeNum_some hx
    obtain ⟨k, rfl⟩ : ∃ k : Nat, n = (k : Int) := ⟨n.toNat, by omega⟩
    have hf : bad = false := by
      cases bad with
      | false => rfl
      | true => rw [hb rfl, takeNum_nil] at hx; cases hx
    subst hf
    exact readTexts_some g r W h hE hg hs k t hx (by unfold Wr.i64 at h2; omega)

set_option maxHeartbeats 1000000 in
set_option maxRecDepth 100000 in
theorem texts_any (g : Nat) (r : ByteArray) (bad : Bool) (W : World) (h : Rd W g r bad) (hb : bad = true → r.data.toList = []) (hE : Env W) (hg : 6 ≤ g) (hs : r.size ≤ 1000000) :
    Calls Tryd.prog 34 #[.pointer (some ⟨g, 0, none⟩)] W fun x w' =>
      ∃ v, x = .returned v ∧ w'.ownsRow W.heap.size 9 1 v (Wr.vOf [] (Wr.takeList Wr.takeText r.data.toList)).length ((Wr.vOf [] (Wr.takeList Wr.takeText r.data.toList)).map encStr) ∧
        Rd w' g (Wr.rOf (Wr.takeList Wr.takeText r.data.toList)) (Wr.bOf bad (Wr.takeList Wr.takeText r.data.toList)) ∧ Gr g W w' := by
  have HI := Lib.hid (readTexts_any g r bad W h hb hE hg hs)
  clear h hE hb
  generalize Wr.takeList Wr.takeText r.data.toList = X at HI ⊢
  go_enter Tryd.func34, Tryd.ntmps34
  go_wp2_with fail
  refine HI.out.mono ?_
  rintro x w1 ⟨v, rfl, h0, h1, h2⟩
  have H0 := Lib.hid h0
  have H1 := Lib.hid h1
  clear h0 h1
  go_wp2
  go_ret
  exact ⟨_, rfl, H0.out, H1.out, h2⟩
end Go.Proofs.YthknahghmlfegaaDoor
