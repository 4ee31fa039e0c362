/-
  The reference's Lines.
-/
import Derived.Test.YtpigplnnmhjbkaaDoorRefFields
import Derived.Test.YtpigplnnmhjbkaaDoorUnlines
namespace Go.Proofs.YtpigplnnmhjbkaaDoor
open Go Go.RowKit Go.Shelf
namespace Tx
/-- Behind these lines lie the lines from f on; up to i there is no LF. -/
def LinI (S : List UInt8) (done : List (List UInt8)) (f i : Nat) : Prop := f ≤ i ∧ i ≤ S.length ∧ done ++ lines (S.drop f) = lines S ∧ 10 ∉ (S.take i).drop f
theorem take_drop_succ {S : List UInt8} {f i : Nat} {c : UInt8} (hf : f ≤ i) (hc : S[i]? = some c) : (S.take (i + 1)).drop f = (S.take i).drop f ++ [c] := by
  obtain ⟨hi, e⟩ := List.getElem?_eq_some_iff.1 hc
  rw [List.take_succ_eq_append_getElem hi, List.drop_append_of_le_length (by rw [List.length_take]; omega), e]
theorem LinI.next {S : List UInt8} {done : List (List UInt8)} {f i : Nat} {c : UInt8} (h : LinI S done f i) (hc : S[i]? = some c) (hne : c ≠ 10) : LinI S done f (i + 1) := by
  refine ⟨Nat.le_succ_of_le h.1, (List.getElem?_eq_some_iff.1 hc).1, h.2.2.1, ?_⟩
  rw [take_drop_succ h.1 hc]
  intro hm
  rcases List.mem_append.1 hm with hm | hm
  · exact h.2.2.2 hm
  · exact hne (List.mem_singleton.1 hm).symm
theorem LinI.line {S : List UInt8} {done : List (List UInt8)} {f i : Nat} (h : LinI S done f i) (hc : S[i]? = some 10) : LinI S (done ++ [chop ((S.take i).drop f)]) (i + 1) (i + 1) := by
  have hi := (List.getElem?_eq_some_iff.1 hc).1
  have e : S.drop f = (S.take i).drop f ++ 10 :: S.drop (i + 1) := by
    have h1 : S = S.take i ++ S.drop i := (List.take_append_drop i S).symm
    conv => lhs; rw [h1]
    rw [List.drop_append_of_le_length (by rw [List.length_take]; have := h.1; omega), drop_cons hc]
  refine ⟨Nat.le_refl _, hi, ?_, ?_⟩
  · rw [← h.2.2.1, e, lines_at _ _ h.2.2.2]; simp
  · rw [List.drop_of_length_le (by rw [List.length_take]; omega)]; simp
theorem LinI.end_ {S : List UInt8} {done : List (List UInt8)} {f : Nat} (h : LinI S done f S.length) : lines S = if f < S.length then done ++ [S.drop f] else done := by
  have h4 := h.2.2.2
  rw [List.take_length] at h4
  rw [← h.2.2.1]
  by_cases hf : f < S.length
  · rw [if_pos hf, lines_no _ h4 (by intro e; have := congrArg List.length e; rw [List.length_drop, List.length_nil] at this; omega)]
  · rw [if_neg hf, List.drop_of_length_le (by omega), lines_nil, List.append_nil]
theorem chop_span_cr {S : List UInt8} {f i : Nat} (hf : f ≤ i) (hc : S[i]? = some 13) : chop ((S.take (i + 1)).drop f) = (S.take i).drop f := by rw [take_drop_succ hf hc, chop_cr]
theorem chop_span {S : List UInt8} {f i : Nat} {c : UInt8} (hf : f ≤ i) (hc : S[i]? = some c) (hne : c ≠ 13) : chop ((S.take (i + 1)).drop f) = (S.take (i + 1)).drop f := by
  refine chop_same _ ?_
  rw [take_drop_succ hf hc, List.getLast?_append]
  intro e
  exact hne (Option.some.inj e)
theorem chop_span_nil (S : List UInt8) (f : Nat) : chop ((S.take f).drop f) = [] := by
  rw [List.drop_of_length_le (by rw [List.length_take]; omega)]; rfl
end Tx

set_option maxHeartbeats 4000000 in
set_option maxRecDepth 100000 in
theorem refLines_any (s : ByteArray) (w : World) (hs : s.size ≤ 1000000) :
    Calls Tryd.prog 30 #[.string s] w fun e w' => ∃ v, e = .returned v ∧ w'.ownsRow w.heap.size 9 1 v (Tx.lines s.data.toList).length ((Tx.lines s.data.toList).map encStr) ∧ Below w.heap.size w w' := by
  obtain ⟨i0, hi, hz0, hz1, hz2⟩ := info_parts info9
  have HS := Lib.hid (Lib.size_eq s)
  have HL := Lib.hid (show (Tx.lines s.data.toList).length ≤ 1000000 from by have := Tx.lines_len s.data.toList; rw [← Lib.size_eq] at this; omega)
  go_enter Tryd.func30, Tryd.ntmps30
  go_wp2
  go_loopw [3, 4, 5] (fun oo ff ii wr => ∃ (f i : Nat) (done : List (List UInt8)), ff = .int .i64 f ∧ ii = .int .i64 i ∧ f ≤ i ∧ i ≤ s.size ∧ Hid (Tx.LinI s.data.toList done f i) ∧ wr.ownsRow w.heap.size 9 1 oo done.length (done.map encStr) ∧ Below w.heap.size w wr) (fun _ _ ii _ => s.size - (intOf ii).toNat)
  case atStart => exact ⟨0, 0, [], rfl, rfl, Nat.le_refl _, Nat.zero_le _, ⟨Nat.le_refl _, Nat.zero_le _, rfl, by simp⟩, World.ownsRow_nil _ _ _ _, Below.refl _ _⟩
  case round =>
    obtain ⟨f, i, done, rfl, rfl, hfi, hi2, hln, hown, hb⟩ := hrel
    have hdl : done.length ≤ 1000000 := by have h1 := HL.out; rw [← hln.out.2.2.1, List.length_append] at h1; omega
    have hsb := hb.size
    by_cases hlt : i < s.size
    · have gS := Tx.get_of s i hlt
      obtain ⟨c, hck⟩ : ∃ c, s[i] = c := ⟨_, rfl⟩
      rw [hck] at gS
      by_cases hc : c = 10
      · have e1 : ((c.toNat : Int) != 10) = false := by rw [hc]; rfl
        have HX := Lib.hid (hln.out.line (by rw [gS, hc]))
        clear gS hc
        by_cases hf : f = i
        · subst hf
          rw [Tx.chop_span_nil] at HX
          have hdx : encStr (([] : List UInt8)) = .string (ByteArray.empty) := by show Value.string _ = _; rfl
          have HDX := Lib.hid hdx
          clear hdx
          go_wp2_with (at_builtin; go_must (refine wpList_append_own _ rfl _ _ 22 rfl w.heap.size 9 i0 (.string ⟨#[]⟩) 1 16 Tryd.underlying22 hi hz0 hz1 hz2 rfl (by decide) _ _ _ rfl (hown.alloc _) ⟨wr.heap.size, 0, none⟩ 1 1 [.string (ByteArray.empty)] rfl rfl ?c1 ?c2 ?c3 ?c4 ?c5 ?_))
          case c1 => exact cell_one_new _ _ _
          case c2 => simp [Value.oneCell']
          case c3 => unfold maxLen; omega
          case c4 => omega
          case c5 => simp; omega
          intro v' w1 hown' hgrow _
          have hb1 : Below w.heap.size w w1 := (hb.alloc (by first | omega | (simp; omega)) _).grown hgrow (by simp; omega) (fun k e => (hown.lt k e).1)
          go_wp2
          go_roundw
          case rel => exact ⟨f + 1, f + 1, done ++ [([] : List UInt8)], by go_num, by go_num, Nat.le_refl _, by omega, HX.out, by rw [List.length_append, List.map_append, List.map_cons, List.map_nil, HDX.out]; show w1.ownsRow _ _ _ _ (done.length + 1) _; exact hown', hb1⟩
          case measure => simp [intOf]; omega
        · obtain ⟨j, rfl⟩ : ∃ j, i = j + 1 := ⟨i - 1, by omega⟩
          have hfj : f ≤ j := by omega
          have hjs : j < s.size := by omega
          have gJ := Tx.get_of s j hjs
          obtain ⟨d, hdk⟩ : ∃ d, s[j] = d := ⟨_, rfl⟩
          rw [hdk] at gJ
          by_cases hd : d = 13
          · have e2 : ((d.toNat : Int) == 13) = true := by rw [hd]; rfl
            rw [Tx.chop_span_cr hfj (by rw [gJ, hd])] at HX
            clear gJ hd
            have hdx : encStr ((s.data.toList.take j).drop f) = .string (s.extract f j) := by show Value.string _ = _; rw [Tx.extract_eq]
            have HDX := Lib.hid hdx
            clear hdx
            go_wp2_with (at_builtin; go_must (refine wpList_append_own _ rfl _ _ 22 rfl w.heap.size 9 i0 (.string ⟨#[]⟩) 1 16 Tryd.underlying22 hi hz0 hz1 hz2 rfl (by decide) _ _ _ rfl (hown.alloc _) ⟨wr.heap.size, 0, none⟩ 1 1 [.string (s.extract f j)] rfl rfl ?c1 ?c2 ?c3 ?c4 ?c5 ?_))
            case c1 => exact cell_one_new _ _ _
            case c2 => simp [Value.oneCell']
            case c3 => unfold maxLen; omega
            case c4 => omega
            case c5 => simp; omega
            intro v' w1 hown' hgrow _
            have hb1 : Below w.heap.size w w1 := (hb.alloc (by first | omega | (simp; omega)) _).grown hgrow (by simp; omega) (fun k e => (hown.lt k e).1)
            go_wp2
            go_roundw
            case rel => exact ⟨j + 1 + 1, j + 1 + 1, done ++ [(s.data.toList.take j).drop f], by go_num, by go_num, Nat.le_refl _, by omega, HX.out, by rw [List.length_append, List.map_append, List.map_cons, List.map_nil, HDX.out]; show w1.ownsRow _ _ _ _ (done.length + 1) _; exact hown', hb1⟩
            case measure => simp [intOf]; omega
          · have e2 : ((d.toNat : Int) == 13) = false := by
              rw [beq_eq_false_iff_ne]; intro e; exact hd (by rw [← UInt8.toNat_inj]; simp; omega)
            rw [Tx.chop_span hfj gJ hd] at HX
            clear gJ hd
            have hdx : encStr ((s.data.toList.take (j + 1)).drop f) = .string (s.extract f (j + 1)) := by show Value.string _ = _; rw [Tx.extract_eq]
            have HDX := Lib.hid hdx
            clear hdx
            go_wp2_with (at_builtin; go_must (refine wpList_append_own _ rfl _ _ 22 rfl w.heap.size 9 i0 (.string ⟨#[]⟩) 1 16 Tryd.underlying22 hi hz0 hz1 hz2 rfl (by decide) _ _ _ rfl (hown.alloc _) ⟨wr.heap.size, 0, none⟩ 1 1 [.string (s.extract f (j + 1))] rfl rfl ?c1 ?c2 ?c3 ?c4 ?c5 ?_))
            case c1 => exact cell_one_new _ _ _
            case c2 => simp [Value.oneCell']
            case c3 => unfold maxLen; omega
            case c4 => omega
            case c5 => simp; omega
            intro v' w1 hown' hgrow _
            have hb1 : Below w.heap.size w w1 := (hb.alloc (by first | omega | (simp; omega)) _).grown hgrow (by simp; omega) (fun k e => (hown.lt k e).1)
            go_wp2
            go_roundw
            case rel => exact ⟨j + 1 + 1, j + 1 + 1, done ++ [(s.data.toList.take (j + 1)).drop f], by go_num, by go_num, Nat.le_refl _, by omega, HX.out, by rw [List.length_append, List.map_append, List.map_cons, List.map_nil, HDX.out]; show w1.ownsRow _ _ _ _ (done.length + 1) _; exact hown', hb1⟩
            case measure => simp [intOf]; omega
      · have e1 : ((c.toNat : Int) != 10) = true := by
          rw [bne_iff_ne]; intro e; exact hc (by rw [← UInt8.toNat_inj]; simp; omega)
        have HX := Lib.hid (hln.out.next gS hc)
        clear gS hc
        go_wp2
        go_roundw
        case rel => exact ⟨f, i + 1, done, rfl, by go_num, by omega, by omega, HX.out, hown, hb⟩
        case measure => simp [intOf]; omega
    · have his : i = s.size := by omega
      subst his
      have hE := hln.out
      rw [HS.out] at hE
      have hend := hE.end_
      rw [← HS.out] at hend
      by_cases hf : f < s.size
      · rw [if_pos hf] at hend
        have HE := Lib.hid hend
        clear hend hE
        have hdx : encStr (s.data.toList.drop f) = .string (s.extract f s.size) := by show Value.string _ = _; rw [← Tx.extract_eq, List.take_of_length_le (by rw [← HS.out]; exact Nat.le_refl _)]
        have HDX := Lib.hid hdx
        clear hdx
        go_wp2_with (at_builtin; go_must (refine wpList_append_own _ rfl _ _ 22 rfl w.heap.size 9 i0 (.string ⟨#[]⟩) 1 16 Tryd.underlying22 hi hz0 hz1 hz2 rfl (by decide) _ _ _ rfl (hown.alloc _) ⟨wr.heap.size, 0, none⟩ 1 1 [.string (s.extract f s.size)] rfl rfl ?c1 ?c2 ?c3 ?c4 ?c5 ?_))
        case c1 => exact cell_one_new _ _ _
        case c2 => simp [Value.oneCell']
        case c3 => unfold maxLen; omega
        case c4 => omega
        case c5 => simp; omega
        intro v' w1 hown' hgrow _
        have hb1 : Below w.heap.size w w1 := (hb.alloc (by omega) _).grown hgrow (by simp; omega) (fun k e => (hown.lt k e).1)
        go_wp2
        go_ret
        refine ⟨_, rfl, ?_, hb1⟩
        rw [HE.out, List.length_append, List.map_append, List.map_cons, List.map_nil, HDX.out]
        show w1.ownsRow _ _ _ _ (done.length + 1) _
        exact hown'
      · rw [if_neg hf] at hend
        have HE := Lib.hid hend
        clear hend hE
        go_wp2
        go_ret
        exact ⟨_, rfl, by rw [HE.out]; exact hown, hb⟩
end Go.Proofs.YtpigplnnmhjbkaaDoor
