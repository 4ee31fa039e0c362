/-
  header.foldOf, writeLine.
-/
import Derived.Test.YtliadekcbkedmaaDoorFBuf
namespace Go.Proofs.YtliadekcbkedmaaDoor
open Go Go.RowKit Go.Shelf
set_option maxHeartbeats 1000000 in
set_option maxRecDepth 100000 in
theorem bwb_any (B b : Nat) (v : Value) (l : List UInt8) (x : UInt8) (w : World) (h : BAt w B b v l) (hlen : l.length + 1 ≤ 1000000000) (hBw : B ≤ w.heap.size) :
    Calls Tryd.prog 86 #[.pointer (some ⟨b, 0, none⟩), .int .u8 x.toNat] w fun e w' => (∃ u, e = .returned u) ∧ ∃ v', BAt w' B b v' (l ++ [x]) ∧ BMv w w' b v ∧ SF w v v' := by
  have HC := Lib.hid (copyCheck_any B b v l w h)
  have HH := Lib.hid h
  clear h
  go_enter Tryd.func86, Tryd.ntmps86
  go_wp2_with fail
  refine HC.out.mono ?_
  rintro e w1 ⟨rfl, hb1, hA1, hs1, ho1, e1, e2, e3⟩
  have c1 : w1.cell? ⟨b, 1, none⟩ = some v := by simp [World.cell?, hb1]
  have HN := Lib.hid (show ∀ j u, (Lib.byteCells [x])[j]? = some u → (w1.alloc (.cells #[.int .u8 (x.toNat : Int)] 5)).cell? (Addr.add ⟨w1.heap.size, 0, none⟩ j) = some u from cells_new w1 (Lib.byteCells [x]) 5)
  have hbW : Below w1.heap.size w1 (w1.alloc (.cells #[.int .u8 (x.toNat : Int)] 5)) := below_new w1 _
  have HA1 := Lib.hid (hA1.new hbW)
  have HB1 := Lib.hid ((hbW.block b hA1.lt).trans hb1)
  have HK := Lib.hid (fun (v2 : Value) (w2 : World) (hown2 : w2.ownsRowF B 5 1 v2 (Lib.byteCells (l ++ [x])).length (Lib.byteCells (l ++ [x]))) (hgrow2 : (w1.alloc (.cells #[.int .u8 (x.toNat : Int)] 5)).grownBy w2 v.ownBlock) (hsf2 : SF (w1.alloc (.cells #[.int .u8 (x.toNat : Int)] 5)) v v2) =>
    show ∃ p2 n2 q2, v2 = .slice p2 n2 q2 ∧ w2.cell? ⟨b, 1, none⟩ = some v ∧ w2.frozen? ⟨b, 1, none⟩ = false ∧ Hid (BAt (w2.setCell ⟨b, 1, none⟩ v2) B b v2 (l ++ [x])) ∧ Hid (BMv w (w2.setCell ⟨b, 1, none⟩ v2) b v) ∧ Hid (SF w v v2) from by
      obtain ⟨p2, n2, q2, hv2⟩ := own_sliceF hown2
      have hlt := hA1.lt
      have hb2 := (hgrow2.block b (by rw [alloc_size]; omega) (fun e => HH.out.ne e.symm)).trans HB1.out
      have hne : v2.ownBlock ≠ some b := fun e => by have := (hown2.lt b e).1; have := HH.out.lo; omega
      refine ⟨p2, n2, q2, hv2, by simp [World.cell?, hb2], by simp [World.frozen?, hb2], Lib.hid ?_, Lib.hid ?_, Lib.hid ?_⟩
      · exact ⟨⟨_, .inr rfl, by simp [World.setCell, Array.getElem?_modify, hb2]⟩, hown2.kept (row := some b) ⟨rfl, rfl, rfl, by simp [World.setCell], fun k _ hk => Below.heap_setCell _ _ _ _ (fun e => hk (by simp [e]))⟩ (.inr hne), HH.out.lo⟩
      · have hsz := hgrow2.size
        rw [alloc_size] at hsz
        refine ⟨hgrow2.os.trans (hbW.os.trans e1), hgrow2.tape.trans (hbW.tape.trans e2), hgrow2.output.trans (hbW.output.trans e3), by simp [World.setCell]; omega, fun k hk hkb hkv => ?_⟩
        rw [Below.heap_setCell _ _ _ _ (fun e => hkb (by simp [e]))]
        exact (hgrow2.block k (by rw [alloc_size]; omega) (fun e => hkv e.symm)).trans ((hbW.block k (by omega)).trans (ho1 k hkb))
      · rcases hsf2 with h | ⟨k, h1, h2⟩
        · exact .inl h
        · rw [alloc_size] at h2
          exact .inr ⟨k, h1, by omega⟩)
  have hB1s : B ≤ (w1.alloc (.cells #[.int .u8 (x.toNat : Int)] 5)).heap.size := by rw [alloc_size]; omega
  clear hb1 hA1 ho1 HC hbW hs1
  go_wp2_with (at_builtin; refine wpList_app_sfF rfl _ _ rfl HA1.out.own ⟨w1.heap.size, 0, none⟩ 1 1 [x] rfl (Nat.lt_succ_self 0) HN.out hlen hB1s rfl rfl ?_; intro v2 w2 hown2 hgrow2 hsf2; obtain ⟨p2, n2, q2, hv2, y1, y2, HX2, HX3, HSF⟩ := HK.out _ _ hown2 hgrow2 hsf2; subst hv2; clear hown2 hgrow2 hsf2)
  go_ret
  exact ⟨⟨_, rfl⟩, _, HX2.out, HX3.out, HSF.out⟩
theorem BMv.two {w w1 w2 : World} {b : Nat} {v v1 : Value} (h : BMv w w1 b v) (k : BMv w1 w2 b v1) (hs : SF w v v1) : BMv w w2 b v :=
  ⟨k.os.trans h.os, k.tape.trans h.tape, k.output.trans h.output, Nat.le_trans h.size k.size, fun i hi hb hv => (k.block i (Nat.lt_of_lt_of_le hi h.size) hb (fun e => by
    rcases hs with h2 | ⟨x, h2, h3⟩
    · exact hv (h2.symm.trans e)
    · rw [h2] at e; injection e with e; omega)).trans (h.block i hi hb hv)⟩
theorem SF.two {w w1 : World} {a b c : Value} (h : SF w a b) (k : SF w1 b c) (hw : w.heap.size ≤ w1.heap.size) : SF w a c := by
  rcases k with k | ⟨x, k1, k2⟩
  · rcases h with h | ⟨x, h1, h2⟩
    · exact .inl (k.trans h)
    · exact .inr ⟨x, k.trans h1, h2⟩
  · exact .inr ⟨x, k1, Nat.le_trans hw k2⟩
set_option maxHeartbeats 1000000 in
set_option maxRecDepth 100000 in
theorem writeLine_any (B b : Nat) (v : Value) (l : List UInt8) (g off m c : Nat) (S : List UInt8) (w : World) (h : BAt w B b v l) (hS : BS w g off S) (hm : S.length = m) (h0 : 0 < m) (hlen : l.length + m ≤ 900000000) (hBw : B ≤ w.heap.size) :
    Calls Tryd.prog 70 #[.pointer (some ⟨b, 0, none⟩), .slice (some ⟨g, off, none⟩) m c] w fun e w' => e = .returned (.tuple #[]) ∧ ∃ v', BAt w' B b v' (l ++ (S ++ [10])) ∧ BMv w w' b v ∧ SF w v v' := by
  have H1 := Lib.hid (bwrite_any B b v l g off m c S w h hS hm h0 (by omega) hBw)
  have hl2 : (l ++ S).length + 1 ≤ 1000000000 := by rw [List.length_append]; omega
  clear h hS hm
  go_enter Tryd.func70, Tryd.ntmps70
  go_wp2_with fail
  refine H1.out.mono ?_
  rintro e w1 ⟨⟨u, rfl⟩, v1, hA1, hM1, hS1⟩
  have HM1 := Lib.hid hM1
  have HS1 := Lib.hid hS1
  have hsz := hM1.size
  go_wp2_with fail
  refine (bwb_any B b v1 (l ++ S) 10 w1 hA1 hl2 (by omega)).mono ?_
  rintro e w2 ⟨⟨u2, rfl⟩, v2, hA2, hM2, hS2⟩
  have HA2 := Lib.hid hA2
  have HM2 := Lib.hid hM2
  have HS2 := Lib.hid hS2
  clear hA1 hA2 hM1 hM2 hS1 hS2
  go_wp2
  go_end0
  exact ⟨rfl, v2, by have h9 := HA2.out; rw [List.append_assoc] at h9; exact h9, HM1.out.two HM2.out HS1.out, HS1.out.two HS2.out hsz⟩
/-! ### foldOf -/
namespace Hd
theorem placeF_step {s : List UInt8} {i f : Nat} (h1 : i ≤ 998) (h2 : i + 1 < s.length) : placeF s (999 - i) i f = if 78 < i ∧ 0 < f then f else placeF s (999 - (i + 1)) (i + 1) (if isFold s i = true then i else f) := by
  rw [show 999 - i = (999 - (i + 1)) + 1 by omega]
  conv => lhs; unfold placeF
  rw [if_pos ⟨h1, h2⟩]
theorem placeF_end {s : List UInt8} {n i f : Nat} (h : ¬ (i ≤ 998 ∧ i + 1 < s.length)) : placeF s n i f = f := by
  cases n with
  | zero => rfl
  | succ n => unfold placeF; rw [if_neg h]
theorem isFold_at {s : List UInt8} {p : Nat} {a c d : UInt8} (h0 : s[p]? = some a) (h1 : s[p + 1]? = some c) (h2 : s[p + 2]? = some d) : isFold s (p + 1) = (c == 32 && (!blank a && !blank d)) := by
  have hl : p + 2 < s.length := (List.getElem?_eq_some_iff.1 h2).1
  unfold isFold
  rw [show decide (1 ≤ p + 1) = true by simp, show decide (p + 1 + 1 < s.length) = true by simp; omega]
  simp only [List.getD_eq_getElem?_getD, Nat.add_sub_cancel, h0, h1, h2, Option.getD_some, Bool.true_and]
  rw [Bool.and_assoc]
end Hd
theorem retI {a b : Nat} (h : b = a) : Ending.returned (.int .i64 (a : Int)) = .returned (.int .i64 (b : Int)) := by rw [h]
theorem blank_to {c : UInt8} {r : Bool} (h : Hd.blank c = r) (w : World) : Calls Tryd.prog 49 #[.int .u8 c.toNat] w fun e w' => e = .returned (.bool r) ∧ w = w' := by
  rw [← h]; exact blank_any c w
set_option maxHeartbeats 1000000 in
set_option maxRecDepth 100000 in
theorem foldOf_any (g off n cap least : Nat) (S : List UInt8) (w : World) (hS : BS w g off S) (hn : S.length = n) (_ : n ≤ 1000000) (hl : 1 ≤ least) (hl2 : least ≤ 1000) :
    Calls Tryd.prog 69 #[.slice (some ⟨g, off, none⟩) n cap, .int .i64 least] w fun e w' => e = .returned (.int .i64 (Hd.place S least)) ∧ w = w' := by
  obtain ⟨R, hR⟩ : ∃ R, Hd.place S least = R := ⟨_, rfl⟩
  rw [hR]
  have HR := Lib.hid hR
  have HS := Lib.hid hS
  have HN := Lib.hid hn
  clear hR hS hn
  go_enter Tryd.func69, Tryd.ntmps69
  go_wp2
  go_loop [5, 6] (fun f i => ∃ (q p : Nat), f = .int .i64 q ∧ i = .int .i64 ((p + 1 : Nat) : Int) ∧ p ≤ 999 ∧ q ≤ p + 1 ∧ Hid (Hd.placeF S (999 - (p + 1)) (p + 1) q = R)) (fun _ i => 1000 - (intOf i).toNat)
  case atStart =>
    obtain ⟨p, rfl⟩ : ∃ p, least = p + 1 := ⟨least - 1, by omega⟩
    exact ⟨0, p, rfl, rfl, by omega, by omega, HR.out⟩
  case round =>
    obtain ⟨q, p, rfl, rfl, hp, hq, hP⟩ := hrel
    by_cases h1 : p + 1 ≤ 998
    · have q1 : (p : Int) + 1 ≤ 998 := by omega
      by_cases h2 : p + 2 < n
      · have q2 : (p : Int) + 1 + 1 < (n : Int) := by omega
        have hst := Hd.placeF_step (s := S) (i := p + 1) (f := q) h1 (by rw [HN.out]; exact h2)
        rw [hP.out] at hst
        obtain ⟨a, ha⟩ : ∃ a, S[p]? = some a := ⟨_, List.getElem?_eq_getElem (by rw [HN.out]; omega)⟩
        obtain ⟨c, hc⟩ : ∃ c, S[p + 1]? = some c := ⟨_, List.getElem?_eq_getElem (by rw [HN.out]; omega)⟩
        obtain ⟨d, hd⟩ : ∃ d, S[p + 2]? = some d := ⟨_, List.getElem?_eq_getElem (by rw [HN.out]; omega)⟩
        have ca := HS.out.cell p a ha
        have cc := HS.out.cell (p + 1) c hc
        have cd := HS.out.cell (p + 2) d hd
        have hif := Hd.isFold_at ha hc hd
        clear ha hc hd hP
        by_cases h34 : 78 < p + 1 ∧ 0 < q
        · rw [if_pos h34] at hst
          have q3 : (78 : Int) < (p : Int) + 1 := by omega
          have q4 : (0 : Int) < (q : Int) := by omega
          have HF := Lib.hid hst
          clear hst hif h34
          go_wp2
          go_ret
          exact ⟨retI HF.out, rfl⟩
        · rw [if_neg h34] at hst
          by_cases h32 : c = 32
          · subst h32
            cases hba : Hd.blank a with
            | true =>
              have HB := Lib.hid (fun W => blank_to hba W)
              rw [hif, hba, if_neg (by simp)] at hst
              have HF := Lib.hid hst
              clear hst hif hba
              by_cases h3 : 78 < p + 1
              · have q3 : (78 : Int) < (p : Int) + 1 := by omega
                have q4 : ¬ ((0 : Int) < (q : Int)) := by omega
                clear h34
                go_wp2_with (first
                  | (go_at_call 49; with_reducible refine (HB.out _).mono ?_; rintro e w' ⟨rfl, rfl⟩))
                go_round
                case rel => exact ⟨q, p + 1, rfl, by go_num, by omega, by omega, HF.out.symm⟩
                case measure => simp [intOf]; omega
              · have q3 : ¬ ((78 : Int) < (p : Int) + 1) := by omega
                clear h34
                go_wp2_with (first
                  | (go_at_call 49; with_reducible refine (HB.out _).mono ?_; rintro e w' ⟨rfl, rfl⟩))
                go_round
                case rel => exact ⟨q, p + 1, rfl, by go_num, by omega, by omega, HF.out.symm⟩
                case measure => simp [intOf]; omega
            | false =>
              have HB := Lib.hid (fun W => blank_to hba W)
              cases hbd : Hd.blank d with
              | true =>
                have HD := Lib.hid (fun W => blank_to hbd W)
                rw [hif, hba, hbd, if_neg (by simp)] at hst
                have HF := Lib.hid hst
                clear hst hif hba hbd
                by_cases h3 : 78 < p + 1
                · have q3 : (78 : Int) < (p : Int) + 1 := by omega
                  have q4 : ¬ ((0 : Int) < (q : Int)) := by omega
                  clear h34
                  go_wp2_with (first
                    | (go_at_call 49; with_reducible refine (HB.out _).mono ?_; rintro e w' ⟨rfl, rfl⟩)
                    | (go_at_call 49; with_reducible refine (HD.out _).mono ?_; rintro e w' ⟨rfl, rfl⟩))
                  go_round
                  case rel => exact ⟨q, p + 1, rfl, by go_num, by omega, by omega, HF.out.symm⟩
                  case measure => simp [intOf]; omega
                · have q3 : ¬ ((78 : Int) < (p : Int) + 1) := by omega
                  clear h34
                  go_wp2_with (first
                    | (go_at_call 49; with_reducible refine (HB.out _).mono ?_; rintro e w' ⟨rfl, rfl⟩)
                    | (go_at_call 49; with_reducible refine (HD.out _).mono ?_; rintro e w' ⟨rfl, rfl⟩))
                  go_round
                  case rel => exact ⟨q, p + 1, rfl, by go_num, by omega, by omega, HF.out.symm⟩
                  case measure => simp [intOf]; omega
              | false =>
                have HD := Lib.hid (fun W => blank_to hbd W)
                rw [hif, hba, hbd, if_pos (by simp)] at hst
                have HF := Lib.hid hst
                clear hst hif hba hbd
                by_cases h3 : 78 < p + 1
                · have q3 : (78 : Int) < (p : Int) + 1 := by omega
                  have q4 : ¬ ((0 : Int) < (q : Int)) := by omega
                  clear h34
                  go_wp2_with (first
                    | (go_at_call 49; with_reducible refine (HB.out _).mono ?_; rintro e w' ⟨rfl, rfl⟩)
                    | (go_at_call 49; with_reducible refine (HD.out _).mono ?_; rintro e w' ⟨rfl, rfl⟩))
                  go_round
                  case rel => exact ⟨(p + 1), p + 1, by go_num, by go_num, by omega, by omega, HF.out.symm⟩
                  case measure => simp [intOf]; omega
                · have q3 : ¬ ((78 : Int) < (p : Int) + 1) := by omega
                  clear h34
                  go_wp2_with (first
                    | (go_at_call 49; with_reducible refine (HB.out _).mono ?_; rintro e w' ⟨rfl, rfl⟩)
                    | (go_at_call 49; with_reducible refine (HD.out _).mono ?_; rintro e w' ⟨rfl, rfl⟩))
                  go_round
                  case rel => exact ⟨(p + 1), p + 1, by go_num, by go_num, by omega, by omega, HF.out.symm⟩
                  case measure => simp [intOf]; omega
          · rw [hif, if_neg (by simp [h32])] at hst
            have HF := Lib.hid hst
            have q32 := byte_ne (n := 32) (by decide) h32
            have p32 := byte_neI (n := 32) (by decide) h32
            clear hst hif h32
            by_cases h3 : 78 < p + 1
            · have q3 : (78 : Int) < (p : Int) + 1 := by omega
              have q4 : ¬ ((0 : Int) < (q : Int)) := by omega
              clear h34
              go_wp2
              go_round
              case rel => exact ⟨q, p + 1, rfl, by go_num, by omega, by omega, HF.out.symm⟩
              case measure => simp [intOf]; omega
            · have q3 : ¬ ((78 : Int) < (p : Int) + 1) := by omega
              clear h34
              go_wp2
              go_round
              case rel => exact ⟨q, p + 1, rfl, by go_num, by omega, by omega, HF.out.symm⟩
              case measure => simp [intOf]; omega
      · have hst := Hd.placeF_end (s := S) (n := 999 - (p + 1)) (i := p + 1) (f := q) (by rw [HN.out]; omega)
        rw [hP.out] at hst
        have HF := Lib.hid hst
        have q2 : ¬ ((p : Int) + 1 + 1 < (n : Int)) := by omega
        clear hst hP h2
        go_wp2
        go_ret
        exact ⟨retI HF.out, rfl⟩
    · have hst := Hd.placeF_end (s := S) (n := 999 - (p + 1)) (i := p + 1) (f := q) (by omega)
      rw [hP.out] at hst
      have HF := Lib.hid hst
      have q1 : ¬ ((p : Int) + 1 ≤ 998) := by omega
      clear hst hP h1
      go_wp2
      go_ret
      exact ⟨retI HF.out, rfl⟩
end Go.Proofs.YtliadekcbkedmaaDoor
