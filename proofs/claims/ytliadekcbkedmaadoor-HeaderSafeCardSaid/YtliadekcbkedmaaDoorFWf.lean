/-
  header.writeField.
-/
import Derived.Test.YtliadekcbkedmaaDoorFWl
namespace Go.Proofs.YtliadekcbkedmaaDoor
open Go Go.RowKit Go.Shelf
namespace Hd
theorem ended_cons (x : List UInt8) (r : List (List UInt8)) : ended (x :: r) = x ++ (10 :: ended r) := by simp [ended]
theorem ended_one (x : List UInt8) : ended [x] = x ++ [10] := by simp [ended]
theorem linesG_len : ∀ (n : Nat) (s : List UInt8) (least : Nat), s.length ≤ n → 1 ≤ least → (ended (linesG least s)).length ≤ 2 * s.length + 1 := by
  intro n
  induction n with
  | zero =>
    intro s least hs hl
    rw [linesG_step hl, if_pos (by omega), ended_one, List.length_append, List.length_singleton]; omega
  | succ n ih =>
    intro s least hs hl
    rw [linesG_step hl]
    split
    · rw [ended_one, List.length_append, List.length_singleton]; omega
    · split
      · rename_i hp
        rcases place_is s least hl with ⟨h0, _⟩ | ⟨_, h1, _⟩
        · omega
        · have hf := isFold_lt h1
          have := ih (s.drop (place s least)) 1 (by rw [List.length_drop]; omega) (by omega)
          rw [List.length_drop] at this
          rw [ended_cons, List.length_append, List.length_cons, List.length_take]; omega
      · split
        · rw [ended_one, List.length_append, List.length_singleton]; omega
        · have := ih (32 :: s.drop 998) 1 (by rw [List.length_cons, List.length_drop]; omega) (by omega)
          rw [List.length_cons, List.length_drop] at this
          rw [ended_cons, List.length_append, List.length_cons, List.length_take]; omega
theorem head_len (f : Fd) : (head f).length ≤ f.1.length + f.2.length + 2 := by
  have h := Tx.trim_len (unbroken f.2)
  rw [unbroken_len] at h
  unfold head
  rw [List.length_append, List.length_cons]
  split
  · simp; omega
  · rw [List.length_cons]; omega
theorem writeField_len (f : Fd) : (writeField f).length ≤ 2 * (f.1.length + f.2.length) + 5 := by
  have h := head_len f
  have := linesG_len _ (head f) (f.1.length + 2) (Nat.le_refl _) (by omega)
  unfold writeField
  rw [flines_G]
  omega
end Hd
/-- All below B but block b stands. -/
structure Fx (w w' : World) (B b : Nat) : Prop where
  os : w'.os = w.os
  tape : w'.tape = w.tape
  output : w'.output = w.output
  size : w.heap.size ≤ w'.heap.size
  low : ∀ k, k < B → k ≠ b → w'.heap[k]? = w.heap[k]?
theorem Fx.refl (w : World) (B b : Nat) : Fx w w B b := ⟨rfl, rfl, rfl, Nat.le_refl _, fun _ _ _ => rfl⟩
theorem Fx.trans {w w1 w2 : World} {B b : Nat} (h : Fx w w1 B b) (k : Fx w1 w2 B b) : Fx w w2 B b :=
  ⟨k.os.trans h.os, k.tape.trans h.tape, k.output.trans h.output, Nat.le_trans h.size k.size, fun i hi hb => (k.low i hi hb).trans (h.low i hi hb)⟩
theorem Fx.of_below {w w' : World} {B b : Nat} (h : Below w.heap.size w w') (hB : B ≤ w.heap.size) : Fx w w' B b := ⟨h.os, h.tape, h.output, h.size, fun k hk _ => h.block k (by omega)⟩
theorem Fx.of_mv {w w' : World} {B b : Nat} {v : Value} {l : List UInt8} (h : BMv w w' b v) (hA : BAt w B b v l) (hB : B ≤ w.heap.size) : Fx w w' B b :=
  ⟨h.os, h.tape, h.output, h.size, fun k hk hb => h.block k (by omega) hb (fun e => by have := (hA.own.lt k e).1; omega)⟩
theorem Fx.of_grown {w w' : World} {B b g : Nat} (h : w.grownBy w' (some g)) (hB : B ≤ w.heap.size) (hg : B ≤ g) : Fx w w' B b :=
  ⟨h.os, h.tape, h.output, h.size, fun k hk _ => h.block k (by omega) (fun e => by have := Option.some.inj e; omega)⟩
theorem Fx.set {w w' : World} {B b g o : Nat} {x : Value} (h : Fx w w' B b) (hg : B ≤ g) : Fx w (w'.setCell ⟨g, o, none⟩ x) B b :=
  ⟨h.os, h.tape, h.output, by simpa [World.setCell] using h.size, fun k hk hb => by rw [Below.heap_setCell _ _ _ _ (fun e => by simp at e; omega)]; exact h.low k hk hb⟩
theorem Fx.below {w w' : World} {B b C : Nat} (h : Fx w w' B b) (hC : C ≤ b) (hb : b < B) : Below C w w' := ⟨h.os, h.tape, h.output, h.size, fun k hk => h.low k (by omega) (by omega)⟩
/-- What the loop of writeField keeps. -/
structure WfS (w wr : World) (B b g off : Nat) (v : Value) (l out S : List UInt8) : Prop where
  at_ : BAt wr B b v (l ++ out)
  row : BS wr g off S
  ne : v.ownBlock ≠ some g
  lo : B ≤ g
  fx : Fx w wr B b
theorem BS.ne_b {w : World} {g off B b : Nat} {S l : List UInt8} {v : Value} (h : BS w g off S) (k : BAt w B b v l) : g ≠ b := fun e => by
  subst e
  exact absurd h.kind k.not_bytes
/-- A line is written. -/
theorem WfS.line {w wr w2 : World} {B b g off k : Nat} {v v' : Value} {l out S X : List UInt8} (h : WfS w wr B b g off v l out S) (hA : BAt w2 B b v' (l ++ out ++ X)) (hM : BMv wr w2 b v) (hS : SF wr v v') (hB : B ≤ wr.heap.size) : WfS w w2 B b g (off + k) v' l (out ++ X) (S.drop k) := by
  have hgb := h.row.ne_b h.at_
  refine ⟨by rw [← List.append_assoc]; exact hA, (h.row.same (hM.block g h.row.lt hgb h.ne)).drop k, fun e => ?_, h.lo, h.fx.trans (Fx.of_mv hM h.at_ hB)⟩
  rcases hS with h1 | ⟨x, h1, h2⟩
  · exact h.ne (h1.symm.trans e)
  · rw [h1] at e; injection e with e; have := h.row.lt; omega
theorem WfS.space {w wr : World} {B b g off : Nat} {v : Value} {l out S : List UInt8} {c : UInt8} (h : WfS w wr B b g off v l out (c :: S)) : WfS w (wr.setCell ⟨g, off, none⟩ (.int .u8 32)) B b g off v l out (32 :: S) := by
  have hgb := h.row.ne_b h.at_
  exact ⟨h.at_.same (Below.heap_setCell _ _ _ _ (fun e => hgb (by simpa using e.symm))) (fun k hk => Below.heap_setCell _ _ _ _ (fun e => h.ne (by simp at e; rw [hk, e]))), h.row.set0 (x := 32), h.ne, h.lo, h.fx.set h.lo⟩
theorem take_cut {S : List UInt8} (h : 998 < S.length) : ∃ c, S.drop 997 = c :: S.drop 998 := ⟨S[997], List.drop_eq_getElem_cons (by omega)⟩
def sliceLen : Value → Nat
  | .slice _ n _ => n
  | _ => 0
theorem app_take {S Y : List UInt8} {k : Nat} (o : List UInt8) (R : List UInt8) (h : o ++ (S.take k ++ 10 :: Y) = R) : o ++ (S.take k ++ [10]) ++ Y = R := by
  rw [← h]; simp
/-- An argument's pairs, as the loops of Write meet them. -/
theorem ended_le {o e R : List UInt8} (h : o ++ e = R) : o.length ≤ R.length := by rw [← h, List.length_append]; omega
set_option maxHeartbeats 2000000 in
set_option maxRecDepth 100000 in
theorem writeField_any (B b : Nat) (v : Value) (l : List UInt8) (N V : List UInt8) (w : World) (h : BAt w B b v l) (hN : N.length ≤ 200) (hV : V.length ≤ 100000) (hl : l.length ≤ 800000000) (hm : MaxAt w) (hm0 : 0 < w.heap.size) (hBw : B ≤ w.heap.size) :
    Calls Tryd.prog 46 #[.pointer (some ⟨b, 0, none⟩), .agg #[.string ⟨N.toArray⟩, .string ⟨V.toArray⟩]] w fun e w' => e = .returned (.tuple #[]) ∧ ∃ v', BAt w' B b v' (l ++ Hd.writeField (N, V)) ∧ Fx w w' B b := by
  obtain ⟨R, hR⟩ : ∃ R, Hd.writeField (N, V) = R := ⟨_, rfl⟩
  have hRl : R.length ≤ 300000 := by
    have h1 := Hd.writeField_len (N, V)
    rw [hR] at h1
    simp only at h1
    omega
  obtain ⟨T, hT⟩ : ∃ T, Tx.trim (Hd.unbroken V) = T := ⟨_, rfl⟩
  have hTl : T.length ≤ V.length := by rw [← hT]; have := Tx.trim_len (Hd.unbroken V); rw [Hd.unbroken_len] at this; exact this
  have hR2 : Hd.ended (Hd.linesG (N.length + 2) (N ++ 58 :: (if T = [] then [] else 32 :: T))) = R := by
    rw [← hR, ← hT]; rfl
  rw [hR]
  obtain ⟨Nb, hNb⟩ : ∃ Nb : ByteArray, (⟨N.toArray⟩ : ByteArray) = Nb := ⟨_, rfl⟩
  obtain ⟨Vb, hVb⟩ : ∃ Nb : ByteArray, (⟨V.toArray⟩ : ByteArray) = Nb := ⟨_, rfl⟩
  obtain ⟨Tb, hTb⟩ : ∃ Nb : ByteArray, (⟨T.toArray⟩ : ByteArray) = Nb := ⟨_, rfl⟩
  have hNl : Nb.size = N.length := by rw [← hNb, mk_len]
  have hTs : Tb.size = T.length := by rw [← hTb, mk_len]
  obtain ⟨A1, hA1⟩ : ∃ B : ByteArray, (Nb ++ ⟨#[58]⟩ : ByteArray) = B := ⟨_, rfl⟩
  have hA1s : A1.size = Nb.size + 1 := by rw [← hA1, Lib.size_eq, ba_append, List.length_append, ← Lib.size_eq Nb]; rfl
  have hA1l : A1.data.toList = N ++ [58] := by rw [← hA1, ba_append, ← hNb]
  have hadd1 := fun w' : World => run_string_add_sum (P := Tryd.prog) (w := w') Nb ⟨#[58]⟩ (by show Nb.size + 1 ≤ _; omega)
  rw [hA1] at hadd1
  obtain ⟨W0, hW0⟩ : ∃ W0, w.alloc (.cells #[.string Nb, .string Vb] 35) = W0 := ⟨_, rfl⟩
  have hb0 : Below w.heap.size w W0 := by rw [← hW0]; exact below_new w _
  have hk0 : W0.heap[w.heap.size]? = some (.cells #[.string Nb, .string Vb] 35 (0, 0)) := by rw [← hW0]; exact World.alloc_heap_new w _
  have hs0 : W0.heap.size = w.heap.size + 1 := by rw [← hW0, alloc_size]
  obtain ⟨C, W1, hconv, hBR, hb1⟩ := bytes_row A1 (by omega) W0
  have hk1 := (hb1.block w.heap.size (by omega)).trans hk0
  have c0 : W0.cell? ⟨w.heap.size, 0, none⟩ = some (.string Nb) := by simp [World.cell?, hk0]
  have c1 : W1.cell? ⟨w.heap.size, 1, none⟩ = some (.string Vb) := by simp [World.cell?, hk1]
  have hb01 : Below w.heap.size w W1 := hb0.trans (hb1.mono hb0.size)
  have hM1 : MaxAt W1 := hm.below hb01 hm0
  have HU : Hid (Calls Tryd.prog 68 #[.string ⟨V.toArray⟩] W1 fun e w' => e = .returned (.string ⟨(Hd.unbroken V).toArray⟩) ∧ Below W1.heap.size W1 w') := Lib.hid (unbroken_any ⟨V.toArray⟩ W1 (mk_size_le (by omega)) hM1)
  have HT := Lib.hid (fun W => trim_to hT W (by rw [Hd.unbroken_len]; omega))
  rw [hVb] at HU
  rw [hTb] at HT
  rw [hNb, hVb]
  have hsz1 := hb1.size
  have HA := Lib.hid h
  have HB01 := Lib.hid hb01
  have HBR := Lib.hid hBR
  have HBw := Lib.hid hBw
  have HRl := Lib.hid hRl
  have HLl := Lib.hid hl
  have HR2 := Lib.hid hR2
  have HA1l := Lib.hid hA1l
  have hn1 : A1.size = N.length + 1 := by omega
  have HN1 := Lib.hid hn1
  have hA1b : A1.size ≤ 201 := by omega
  have HTl := Lib.hid (show Tb.size ≤ 100000 by omega)
  have HTb := Lib.hid hTb
  have HTs := Lib.hid hTs
  have HS0 := Lib.hid hs0
  have hge : w.heap.size < W0.heap.size := by omega
  clear h hR hRl hTl hR2 hNb hVb hTb hNl hA1 hA1s hA1l hb0 hk0 hBR hb1 hk1 hb01 hM1 hm hT hTs hs0 hl hBw hn1
  by_cases hTe : T = []
  · have hq : Tb.toList.isEmpty = true := by rw [Lib.toList_data, ← HTb.out, hTe]; rfl
    have HST := Lib.hid (fun (w3 : World) (hb3 : Below W1.heap.size W1 w3) => show WfS w w3 B b W0.heap.size 0 v l [] A1.data.toList from by
      have hb03 := below_to HB01.out (Nat.le_refl _) hb3
      refine ⟨by rw [List.append_nil]; exact HA.out.new hb03, (HBR.out.new hb3).bs, fun e => ?_, by have := HBw.out; omega, Fx.of_below hb03 HBw.out⟩
      have := (HA.out.own.lt _ e).2
      omega)
    have HRR := Lib.hid (show Hd.ended (Hd.linesG (A1.size + 1) A1.data.toList) = R by rw [HA1l.out, HN1.out, ← HR2.out, if_pos hTe])
    have HCap := Lib.hid HBR.out.le
    have HA1s := Lib.hid (Lib.size_eq A1)
    clear HR2 HTb hTe
    go_enter Tryd.func46, Tryd.ntmps46
    go_wp2
    go_step3
    go_wp2_with (first
      | (go_at_call 68; with_reducible refine HU.out.mono ?_; rintro e w2 ⟨rfl, hb2⟩)
      | (go_at_call 30; with_reducible refine (HT.out _).mono ?_; rintro e w3 ⟨rfl, hb3⟩; have HW3 := Lib.hid (HST.out w3 (hb2.trans (hb3.mono hb2.size)))))
    go_step3
    go_wp2
    go_loopw [4, 5, 7] (fun x4 x5 _ wr => ∃ (g off n cap least : Nat) (v : Value) (out S : List UInt8), x4 = .slice (some ⟨g, off, none⟩) n cap ∧ x5 = .int .i64 least ∧ n ≤ cap ∧ 0 < n ∧ n ≤ 200000 ∧ 1 ≤ least ∧ least ≤ 1000 ∧ Hid (S.length = n) ∧ Hid (WfS w wr B b g off v l out S) ∧ Hid (out ++ Hd.ended (Hd.linesG least S) = R)) (fun x4 _ _ _ => sliceLen x4)
    case atStart => exact ⟨W0.heap.size, 0, A1.size, C, A1.size + 1, v, [], A1.data.toList, rfl, by go_num, by have := HCap.out; have := HA1s.out; omega, by have := HN1.out; omega, by have := HN1.out; omega, by omega, by have := HN1.out; omega, HA1s.out.symm, HW3.out, HRR.out⟩
    case round =>
      obtain ⟨g, off, n, cap, least, v, out, S, rfl, rfl, hnc, hn0, hn2, hl1, hl2, hSn, hW, hR⟩ := hrel
      have hBr : B ≤ wr.heap.size := Nat.le_trans HBw.out hW.out.fx.size
      have hol : (l ++ out).length + n ≤ 900000000 := by have := ended_le hR.out; have := HRl.out; have := HLl.out; rw [List.length_append]; omega
      have hstep := Hd.linesG_step (s := S) hl1
      rw [hSn.out] at hstep
      by_cases h78 : n ≤ 78
      · have q78 : ¬ ((78 : Int) < (n : Int)) := by omega
        rw [if_pos h78] at hstep
        have HE := Lib.hid (show out ++ (S ++ [10]) = R by rw [← Hd.ended_one, ← hstep]; exact hR.out)
        have HWL := Lib.hid (writeLine_any B b v (l ++ out) g off n cap S wr hW.out.at_ hW.out.row hSn.out hn0 hol hBr)
        clear hstep h78 hol
        go_wp2_with (go_at_call 70; with_reducible refine HWL.out.mono ?_; rintro e w5 ⟨rfl, v5, hA5, hM5, hS5⟩; have HA5 := Lib.hid hA5; have HM5 := Lib.hid hM5; clear hA5 hM5 hS5)
        (first | go_end0 | (rw [Exit.noGoto_normal]; go_end0))
        exact ⟨rfl, v5, by rw [← HE.out, ← List.append_assoc]; exact HA5.out, hW.out.fx.trans (Fx.of_mv HM5.out hW.out.at_ hBr)⟩
      · have q78 : (78 : Int) < (n : Int) := by omega
        rw [if_neg h78] at hstep
        have HF := Lib.hid (foldOf_any g off n cap least S wr hW.out.row hSn.out (by omega) hl1 hl2)
        have hpl := Hd.place_is S least hl1
        obtain ⟨p, hp⟩ : ∃ p, Hd.place S least = p := ⟨_, rfl⟩
        rw [hp] at HF hpl hstep
        clear hp
        by_cases hp0 : 0 < p
        · rw [if_pos hp0] at hstep
          have hpp : p + 1 < n ∧ p ≤ 998 := by
            rcases hpl with ⟨h0, _⟩ | ⟨_, h1, _, h2, _⟩
            · omega
            · exact ⟨by rw [← hSn.out]; exact (Hd.isFold_lt h1).2.1, h2⟩
          have HE := Lib.hid (show out ++ (S.take p ++ [10]) ++ Hd.ended (Hd.linesG 1 (S.drop p)) = R from app_take out R (by rw [← Hd.ended_cons, ← hstep]; exact hR.out))
          have HWL := Lib.hid (writeLine_any B b v (l ++ out) g off p cap (S.take p) wr hW.out.at_ (hW.out.row.take p) (by rw [List.length_take, hSn.out]; omega) hp0 (by omega) hBr)
          have q0 : (0 : Int) < (p : Int) := by omega
          have hcp : ¬ cap = p := by omega
          have hpc : (p : Int) ≤ (cap : Int) := by omega
          have hpn : (p : Int) ≤ (n : Int) := by omega
          have hpn2 : p < n := by omega
          have hd2 : (S.drop p).length = n - p := by rw [List.length_drop, hSn.out]
          have HD2 := Lib.hid hd2
          clear hstep h78 hol hpl hd2
          go_wp2_with (first
            | (go_at_call 69; with_reducible refine HF.out.mono ?_; rintro e w4 ⟨rfl, rfl⟩)
            | (go_at_call 70; with_reducible refine HWL.out.mono ?_; rintro e w5 ⟨rfl, v5, hA5, hM5, hS5⟩; have HW5 := Lib.hid (hW.out.line (k := p) hA5 hM5 hS5 hBr); clear hA5 hM5 hS5))
          go_roundw
          case rel => exact ⟨g, off + p, n - p, cap - p, 1, v5, out ++ (S.take p ++ [10]), S.drop p, rfl, rfl, by omega, by omega, by omega, by omega, by omega, HD2.out, HW5.out, HE.out⟩
          case measure => simp only [sliceLen]; omega
        · obtain rfl : p = 0 := by omega
          rw [if_neg hp0] at hstep
          by_cases h998 : n ≤ 998
          · rw [if_pos h998] at hstep
            have q998 : (n : Int) ≤ 998 := by omega
            have HE := Lib.hid (show out ++ (S ++ [10]) = R by rw [← Hd.ended_one, ← hstep]; exact hR.out)
            have HWL := Lib.hid (writeLine_any B b v (l ++ out) g off n cap S wr hW.out.at_ hW.out.row hSn.out hn0 hol hBr)
            clear hstep h78 hol hpl hp0 h998
            go_wp2_with (first
              | (go_at_call 69; with_reducible refine HF.out.mono ?_; rintro e w4 ⟨rfl, rfl⟩)
              | (go_at_call 70; with_reducible refine HWL.out.mono ?_; rintro e w5 ⟨rfl, v5, hA5, hM5, hS5⟩; have HA5 := Lib.hid hA5; have HM5 := Lib.hid hM5; clear hA5 hM5 hS5))
            (first | go_end0 | (rw [Exit.noGoto_normal]; go_end0))
            exact ⟨rfl, v5, by rw [← HE.out, ← List.append_assoc]; exact HA5.out, hW.out.fx.trans (Fx.of_mv HM5.out hW.out.at_ hBr)⟩
          · rw [if_neg h998] at hstep
            have q998 : ¬ ((n : Int) ≤ 998) := by omega
            obtain ⟨c, hc⟩ := take_cut (S := S) (by rw [hSn.out]; omega)
            have HE := Lib.hid (show out ++ (S.take 998 ++ [10]) ++ Hd.ended (Hd.linesG 1 (32 :: S.drop 998)) = R from app_take out R (by rw [← Hd.ended_cons, ← hstep]; exact hR.out))
            have HWL := Lib.hid (writeLine_any B b v (l ++ out) g off 998 cap (S.take 998) wr hW.out.at_ (hW.out.row.take 998) (by rw [List.length_take, hSn.out]; omega) (by omega) (by omega) hBr)
            have HC := Lib.hid hc
            have HD2 := Lib.hid (show (32 :: S.drop 998 : List UInt8).length = n - 997 by rw [List.length_cons, List.length_drop, hSn.out]; omega)
            have hcp : ¬ cap = 997 := by omega
            have hn7 : 997 < n := by omega
            have hpc : (998 : Int) ≤ (cap : Int) := by omega
            have hpn : (997 : Int) ≤ (n : Int) := by omega
            have HK := Lib.hid (fun (w2 : World) (v2 : Value) (o2 : List UInt8) (h2 : WfS w w2 B b g (off + 997) v2 l o2 (S.drop 997)) => show w2.cell? ⟨g, off + 997, none⟩ = some (.int .u8 (c.toNat : Int)) ∧ w2.frozen? ⟨g, off + 997, none⟩ = false ∧ WfS w w2 B b g (off + 997) v2 l o2 (c :: S.drop 998) from by
              rw [hc] at h2
              exact ⟨h2.row.cell 0 c rfl, h2.row.free 0 (Nat.zero_lt_succ _), h2⟩)
            clear hstep h78 hol hpl hp0 h998 hc
            go_wp2_with (first
              | (go_at_call 69; with_reducible refine HF.out.mono ?_; rintro e w4 ⟨rfl, rfl⟩)
              | (go_at_call 70; with_reducible refine HWL.out.mono ?_; rintro e w5 ⟨rfl, v5, hA5, hM5, hS5⟩; obtain ⟨z1, z2, hW5⟩ := HK.out _ _ _ (hW.out.line (k := 997) hA5 hM5 hS5 hBr); have HW5 := Lib.hid hW5.space; clear hA5 hM5 hS5 hW5))
            go_roundw
            case rel => exact ⟨g, off + 997, n - 997, cap - 997, 1, v5, out ++ (S.take 998 ++ [10]), 32 :: S.drop 998, rfl, rfl, by omega, by omega, by omega, by omega, by omega, HD2.out, HW5.out, HE.out⟩
            case measure => simp only [sliceLen]; omega
  · have hq : Tb.toList.isEmpty = false := by
      rw [Lib.toList_data, ← HTb.out]
      cases T with
      | nil => exact absurd rfl hTe
      | cons _ _ => rfl
    obtain ⟨B2, hB2⟩ : ∃ B : ByteArray, (⟨#[32]⟩ ++ Tb : ByteArray) = B := ⟨_, rfl⟩
    have hB2s : B2.size = 1 + Tb.size := by rw [← hB2, Lib.size_eq, ba_append, List.length_append, ← Lib.size_eq Tb]; rfl
    have hB2l : B2.data.toList = 32 :: T := by rw [← hB2, ba_append, ← HTb.out]; rfl
    have hadd2 := fun w' : World => run_string_add_sum (P := Tryd.prog) (w := w') ⟨#[32]⟩ Tb (by show 1 + Tb.size ≤ _; have := HTl.out; omega)
    rw [hB2] at hadd2
    have HRR := Lib.hid (show Hd.ended (Hd.linesG (A1.size + 1) (A1.data.toList ++ B2.data.toList)) = R by rw [HA1l.out, HN1.out, hB2l, ← HR2.out, if_neg hTe]; simp)
    have HST := Lib.hid (fun (w3 : World) (hb3 : Below W1.heap.size W1 w3) => show BR w3 W0.heap.size C A1.data.toList ∧ ∀ (g' : Nat) (w4 : World), BS w4 g' 0 (A1.data.toList ++ B2.data.toList) → w3.grownBy w4 (some W0.heap.size) → (g' = W0.heap.size ∨ w3.heap.size ≤ g') → WfS w w4 B b g' 0 v l [] (A1.data.toList ++ B2.data.toList) from by
      have hb03 := below_to HB01.out (Nat.le_refl _) hb3
      have hsz3 := hb3.size
      have hge3 := hb03.size
      refine ⟨HBR.out.new hb3, fun g' w4 hS4 hg4 hor => ?_⟩
      have hvn : ∀ k, v.ownBlock = some k → k < w.heap.size := fun k e => (HA.out.own.lt k e).2
      have hA3 := HA.out.new hb03
      have hbn : b < w.heap.size := HA.out.lt
      have hBB := HBw.out
      refine ⟨by rw [List.append_nil]; exact hA3.same (hg4.block b (by omega) (fun e => by have := Option.some.inj e; omega)) (fun k e => hg4.block k (by have := hvn k e; omega) (fun e2 => by have := Option.some.inj e2; have := hvn k e; omega)), hS4, fun e => ?_, ?_, (Fx.of_below hb03 HBw.out).trans (Fx.of_grown hg4 (by omega) (by omega))⟩
      · have := hvn _ e
        rcases hor with h | h <;> omega
      · rcases hor with h | h <;> omega)
    have HCap := Lib.hid HBR.out.le
    have HA1s := Lib.hid (Lib.size_eq A1)
    have HB2s := Lib.hid hB2s
    have h0B : 0 < B2.size := by omega
    have HLL := Lib.hid (show (A1.data.toList ++ B2.data.toList).length = A1.size + B2.size by rw [List.length_append, ← Lib.size_eq, ← Lib.size_eq])
    have HSum : Hid (A1.data.toList.length + B2.size ≤ 1000000000) := Lib.hid (by have := HTl.out; have := HN1.out; rw [← Lib.size_eq]; omega)
    clear HR2 HTb hTe hB2 hB2s hB2l
    go_enter Tryd.func46, Tryd.ntmps46
    go_wp2
    go_step3
    go_wp2_with (first
      | (go_at_call 68; with_reducible refine HU.out.mono ?_; rintro e w2 ⟨rfl, hb2⟩)
      | (go_at_call 30; with_reducible refine (HT.out _).mono ?_; rintro e w3 ⟨rfl, hb3⟩; have HW3 := Lib.hid (HST.out w3 (hb2.trans (hb3.mono hb2.size))))
      | (at_builtin; refine wpList_app_bs rfl _ _ rfl HW3.out.1 HA1s.out.symm B2 h0B HSum.out rfl rfl ?_; intro g4 cap4 w4 hS4 hg4 hor4 hcap4; have HW4 := Lib.hid (HW3.out.2 g4 w4 hS4.out hg4.out hor4.out)))
    go_step3
    go_wp2
    go_loopw [4, 5, 7] (fun x4 x5 _ wr => ∃ (g off n cap least : Nat) (v : Value) (out S : List UInt8), x4 = .slice (some ⟨g, off, none⟩) n cap ∧ x5 = .int .i64 least ∧ n ≤ cap ∧ 0 < n ∧ n ≤ 200000 ∧ 1 ≤ least ∧ least ≤ 1000 ∧ Hid (S.length = n) ∧ Hid (WfS w wr B b g off v l out S) ∧ Hid (out ++ Hd.ended (Hd.linesG least S) = R)) (fun x4 _ _ _ => sliceLen x4)
    case atStart => exact ⟨g4, 0, _, cap4, A1.size + 1, v, [], A1.data.toList ++ B2.data.toList, rfl, by go_num, hcap4, by omega, by have := HN1.out; have := HB2s.out; have := HTl.out; have := HA1s.out; omega, by omega, by have := HN1.out; omega, by have := HLL.out; have := HA1s.out; show _ = _; omega, HW4.out, HRR.out⟩
    case round =>
      obtain ⟨g, off, n, cap, least, v, out, S, rfl, rfl, hnc, hn0, hn2, hl1, hl2, hSn, hW, hR⟩ := hrel
      have hBr : B ≤ wr.heap.size := Nat.le_trans HBw.out hW.out.fx.size
      have hol : (l ++ out).length + n ≤ 900000000 := by have := ended_le hR.out; have := HRl.out; have := HLl.out; rw [List.length_append]; omega
      have hstep := Hd.linesG_step (s := S) hl1
      rw [hSn.out] at hstep
      by_cases h78 : n ≤ 78
      · have q78 : ¬ ((78 : Int) < (n : Int)) := by omega
        rw [if_pos h78] at hstep
        have HE := Lib.hid (show out ++ (S ++ [10]) = R by rw [← Hd.ended_one, ← hstep]; exact hR.out)
        have HWL := Lib.hid (writeLine_any B b v (l ++ out) g off n cap S wr hW.out.at_ hW.out.row hSn.out hn0 hol hBr)
        clear hstep h78 hol
        go_wp2_with (go_at_call 70; with_reducible refine HWL.out.mono ?_; rintro e w5 ⟨rfl, v5, hA5, hM5, hS5⟩; have HA5 := Lib.hid hA5; have HM5 := Lib.hid hM5; clear hA5 hM5 hS5)
        (first | go_end0 | (rw [Exit.noGoto_normal]; go_end0))
        exact ⟨rfl, v5, by rw [← HE.out, ← List.append_assoc]; exact HA5.out, hW.out.fx.trans (Fx.of_mv HM5.out hW.out.at_ hBr)⟩
      · have q78 : (78 : Int) < (n : Int) := by omega
        rw [if_neg h78] at hstep
        have HF := Lib.hid (foldOf_any g off n cap least S wr hW.out.row hSn.out (by omega) hl1 hl2)
        have hpl := Hd.place_is S least hl1
        obtain ⟨p, hp⟩ : ∃ p, Hd.place S least = p := ⟨_, rfl⟩
        rw [hp] at HF hpl hstep
        clear hp
        by_cases hp0 : 0 < p
        · rw [if_pos hp0] at hstep
          have hpp : p + 1 < n ∧ p ≤ 998 := by
            rcases hpl with ⟨h0, _⟩ | ⟨_, h1, _, h2, _⟩
            · omega
            · exact ⟨by rw [← hSn.out]; exact (Hd.isFold_lt h1).2.1, h2⟩
          have HE := Lib.hid (show out ++ (S.take p ++ [10]) ++ Hd.ended (Hd.linesG 1 (S.drop p)) = R from app_take out R (by rw [← Hd.ended_cons, ← hstep]; exact hR.out))
          have HWL := Lib.hid (writeLine_any B b v (l ++ out) g off p cap (S.take p) wr hW.out.at_ (hW.out.row.take p) (by rw [List.length_take, hSn.out]; omega) hp0 (by omega) hBr)
          have q0 : (0 : Int) < (p : Int) := by omega
          have hcp : ¬ cap = p := by omega
          have hpc : (p : Int) ≤ (cap : Int) := by omega
          have hpn : (p : Int) ≤ (n : Int) := by omega
          have hpn2 : p < n := by omega
          have hd2 : (S.drop p).length = n - p := by rw [List.length_drop, hSn.out]
          have HD2 := Lib.hid hd2
          clear hstep h78 hol hpl hd2
          go_wp2_with (first
            | (go_at_call 69; with_reducible refine HF.out.mono ?_; rintro e w4 ⟨rfl, rfl⟩)
            | (go_at_call 70; with_reducible refine HWL.out.mono ?_; rintro e w5 ⟨rfl, v5, hA5, hM5, hS5⟩; have HW5 := Lib.hid (hW.out.line (k := p) hA5 hM5 hS5 hBr); clear hA5 hM5 hS5))
          go_roundw
          case rel => exact ⟨g, off + p, n - p, cap - p, 1, v5, out ++ (S.take p ++ [10]), S.drop p, rfl, rfl, by omega, by omega, by omega, by omega, by omega, HD2.out, HW5.out, HE.out⟩
          case measure => simp only [sliceLen]; omega
        · obtain rfl : p = 0 := by omega
          rw [if_neg hp0] at hstep
          by_cases h998 : n ≤ 998
          · rw [if_pos h998] at hstep
            have q998 : (n : Int) ≤ 998 := by omega
            have HE := Lib.hid (show out ++ (S ++ [10]) = R by rw [← Hd.ended_one, ← hstep]; exact hR.out)
            have HWL := Lib.hid (writeLine_any B b v (l ++ out) g off n cap S wr hW.out.at_ hW.out.row hSn.out hn0 hol hBr)
            clear hstep h78 hol hpl hp0 h998
            go_wp2_with (first
              | (go_at_call 69; with_reducible refine HF.out.mono ?_; rintro e w4 ⟨rfl, rfl⟩)
              | (go_at_call 70; with_reducible refine HWL.out.mono ?_; rintro e w5 ⟨rfl, v5, hA5, hM5, hS5⟩; have HA5 := Lib.hid hA5; have HM5 := Lib.hid hM5; clear hA5 hM5 hS5))
            (first | go_end0 | (rw [Exit.noGoto_normal]; go_end0))
            exact ⟨rfl, v5, by rw [← HE.out, ← List.append_assoc]; exact HA5.out, hW.out.fx.trans (Fx.of_mv HM5.out hW.out.at_ hBr)⟩
          · rw [if_neg h998] at hstep
            have q998 : ¬ ((n : Int) ≤ 998) := by omega
            obtain ⟨c, hc⟩ := take_cut (S := S) (by rw [hSn.out]; omega)
            have HE := Lib.hid (show out ++ (S.take 998 ++ [10]) ++ Hd.ended (Hd.linesG 1 (32 :: S.drop 998)) = R from app_take out R (by rw [← Hd.ended_cons, ← hstep]; exact hR.out))
            have HWL := Lib.hid (writeLine_any B b v (l ++ out) g off 998 cap (S.take 998) wr hW.out.at_ (hW.out.row.take 998) (by rw [List.length_take, hSn.out]; omega) (by omega) (by omega) hBr)
            have HC := Lib.hid hc
            have HD2 := Lib.hid (show (32 :: S.drop 998 : List UInt8).length = n - 997 by rw [List.length_cons, List.length_drop, hSn.out]; omega)
            have hcp : ¬ cap = 997 := by omega
            have hn7 : 997 < n := by omega
            have hpc : (998 : Int) ≤ (cap : Int) := by omega
            have hpn : (997 : Int) ≤ (n : Int) := by omega
            have HK := Lib.hid (fun (w2 : World) (v2 : Value) (o2 : List UInt8) (h2 : WfS w w2 B b g (off + 997) v2 l o2 (S.drop 997)) => show w2.cell? ⟨g, off + 997, none⟩ = some (.int .u8 (c.toNat : Int)) ∧ w2.frozen? ⟨g, off + 997, none⟩ = false ∧ WfS w w2 B b g (off + 997) v2 l o2 (c :: S.drop 998) from by
              rw [hc] at h2
              exact ⟨h2.row.cell 0 c rfl, h2.row.free 0 (Nat.zero_lt_succ _), h2⟩)
            clear hstep h78 hol hpl hp0 h998 hc
            go_wp2_with (first
              | (go_at_call 69; with_reducible refine HF.out.mono ?_; rintro e w4 ⟨rfl, rfl⟩)
              | (go_at_call 70; with_reducible refine HWL.out.mono ?_; rintro e w5 ⟨rfl, v5, hA5, hM5, hS5⟩; obtain ⟨z1, z2, hW5⟩ := HK.out _ _ _ (hW.out.line (k := 997) hA5 hM5 hS5 hBr); have HW5 := Lib.hid hW5.space; clear hA5 hM5 hS5 hW5))
            go_roundw
            case rel => exact ⟨g, off + 997, n - 997, cap - 997, 1, v5, out ++ (S.take 998 ++ [10]), 32 :: S.drop 998, rfl, rfl, by omega, by omega, by omega, by omega, by omega, HD2.out, HW5.out, HE.out⟩
            case measure => simp only [sliceLen]; omega
end Go.Proofs.YtliadekcbkedmaaDoor
