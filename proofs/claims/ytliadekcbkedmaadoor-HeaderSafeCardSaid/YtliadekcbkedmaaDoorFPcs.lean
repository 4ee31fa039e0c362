/-
  header.pieces.
-/
import Derived.Test.YtliadekcbkedmaaDoorFSet
namespace Go.Proofs.YtliadekcbkedmaaDoor
open Go Go.RowKit Go.Shelf
/-- out = append(out, s): the string stands in a new block; what was below stays. -/
theorem wpList_app_str {w w0 : World} {ops : Array Oper} {o : Oper} {a : Act} {Q : Exit → Act → World → Prop} {rest : List Oper} {v : Value} {L : List (List UInt8)} {base : Nat} (hgd : o.guard = none) (s x : Operand)
    (ho : o.op = .call { callee := .builtin .append, args := #[s, x], argTypes := #[41, 41] })
    (r : List UInt8) (hO : SOwn w base v L) (hB : Below base w0 w) (hb0 : base ≤ w0.heap.size) (hbig : L.length ≤ 100000000)
    (hs : a.eval s = v) (hx : a.eval x = .slice (some ⟨w.heap.size, 0, none⟩) 1 1)
    (h : ∀ pa pn pc w', Hid (SOwn w' base (.slice pa pn pc) (L ++ [r])) → Hid (Below base w0 w') → wpList Tryd.prog ops Q rest (a.put o.dst (.slice pa pn pc)) w') :
    wpList Tryd.prog ops Q (o :: rest) a (w.alloc (.cells #[encStr r] 9)) := by
  have hbs : base ≤ w.heap.size := Nat.le_trans hb0 hB.size
  refine wpList_append_strs hgd s x ho base v L hs (hO.alloc _) ⟨w.heap.size, 0, none⟩ 1 1 [r] hx rfl (cells_new w (sv [r]) _) (by omega) (by rw [alloc_size]; omega) fun v' w' h1 h2 => ?_
  obtain ⟨pa, pc, rfl⟩ := own_slice h1
  exact h _ _ _ _ (Lib.hid h1) (Lib.hid (below_grown (below_to hB hb0 (below_new w _)) hb0 h2 (own_from hO)))
namespace Hd
theorem span_snoc {S : List UInt8} {f k : Nat} {c : UInt8} (hf : f ≤ k) (h : S[k]? = some c) : (S.take (k + 1)).drop f = (S.take k).drop f ++ [c] := by
  have hk : k < S.length := (List.getElem?_eq_some_iff.1 h).1
  rw [List.take_add_one, h, List.drop_append_of_le_length (by rw [List.length_take]; omega)]
  rfl
/-- The pieces made so far, and what is still to be divided. -/
def Pc (S : List UInt8) (L : List (List UInt8)) (ins : Bool) (st k : Nat) : Prop := L ++ piecesF ins false ((S.take k).drop st) (S.drop k) = pieces S
theorem Pc.start (S : List UInt8) : Pc S [] false 0 0 := by simp [Pc, pieces]
theorem Pc.open_ {S : List UInt8} {L : List (List UInt8)} {ins : Bool} {st k : Nat} {c : UInt8} (h : Pc S L ins st k) (_ : st ≤ k) (hc : S[k]? = some c) :
    L ++ piecesF ins false ((S.take k).drop st) (c :: S.drop (k + 1)) = pieces S := by
  have hk : k < S.length := (List.getElem?_eq_some_iff.1 hc).1
  have hck : S[k] = c := (List.getElem?_eq_some_iff.1 hc).2
  unfold Pc at h
  rw [List.drop_eq_getElem_cons hk, hck] at h
  exact h
theorem Pc.quote {S : List UInt8} {L : List (List UInt8)} {ins : Bool} {st k : Nat} (h : Pc S L ins st k) (hst : st ≤ k) (hc : S[k]? = some 34) : Pc S L (!ins) st (k + 1) := by
  have h2 := h.open_ hst hc
  unfold Pc
  rw [span_snoc hst hc]
  exact h2
theorem piecesF_cons (ins : Bool) (cur : List UInt8) (c : UInt8) (r : List UInt8) : piecesF ins false cur (c :: r) = if c = 34 then piecesF (!ins) false (cur ++ [c]) r
    else if c = 92 then piecesF ins ins (cur ++ [c]) r
    else if c = 59 ∧ ins = false then cur :: piecesF ins false [] r
    else piecesF ins false (cur ++ [c]) r := by cases ins <;> rfl
theorem pieces_plain {ins : Bool} {cur r : List UInt8} {c : UInt8} (h1 : c ≠ 34) (h2 : c ≠ 92 ∨ ins = false) (h3 : c ≠ 59 ∨ ins = true) : piecesF ins false cur (c :: r) = piecesF ins false (cur ++ [c]) r := by
  rw [piecesF_cons, if_neg h1]
  rcases h2 with h2 | rfl
  · rw [if_neg h2, if_neg]
    rintro ⟨a, b⟩
    rcases h3 with h3 | h3
    · exact h3 a
    · rw [h3] at b; cases b
  · by_cases h92 : c = 92
    · rw [if_pos h92]
    · rw [if_neg h92, if_neg]
      rintro ⟨a, b⟩
      rcases h3 with h3 | h3
      · exact h3 a
      · cases h3
theorem Pc.plain {S : List UInt8} {L : List (List UInt8)} {ins : Bool} {st k : Nat} {c : UInt8} (h : Pc S L ins st k) (hst : st ≤ k) (hc : S[k]? = some c) (h1 : c ≠ 34) (h2 : c ≠ 92 ∨ ins = false) (h3 : c ≠ 59 ∨ ins = true) : Pc S L ins st (k + 1) := by
  have h4 := h.open_ hst hc
  unfold Pc
  rw [span_snoc hst hc, ← h4, pieces_plain h1 h2 h3]
theorem Pc.skip {S : List UInt8} {L : List (List UInt8)} {st k : Nat} (h : Pc S L true st k) (hst : st ≤ k) (hc : S[k]? = some 92) : Pc S L true st (k + 2) := by
  have h4 := h.open_ hst hc
  unfold Pc
  by_cases h2 : k + 1 < S.length
  · have hd : S[k + 1]? = some S[k + 1] := List.getElem?_eq_getElem h2
    rw [span_snoc (by omega) hd, span_snoc hst hc]
    rw [List.drop_eq_getElem_cons h2] at h4
    exact h4
  · have hl : S.length = k + 1 := by have := (List.getElem?_eq_some_iff.1 hc).1; omega
    have e1 : S.drop (k + 2) = [] := List.drop_eq_nil_of_le (by omega)
    have e2 : S.drop (k + 1) = [] := List.drop_eq_nil_of_le (by omega)
    have e3 : S.take (k + 2) = S.take (k + 1) := by rw [List.take_of_length_le (by omega), List.take_of_length_le (by omega)]
    rw [e1, e3, span_snoc hst hc]
    rw [e2] at h4
    exact h4
theorem Pc.cut {S : List UInt8} {L : List (List UInt8)} {st k : Nat} (h : Pc S L false st k) (hst : st ≤ k) (hc : S[k]? = some 59) : Pc S (L ++ [(S.take k).drop st]) false (k + 1) (k + 1) := by
  have h4 := h.open_ hst hc
  unfold Pc
  have e : (S.take (k + 1)).drop (k + 1) = [] := List.drop_eq_nil_of_le (by rw [List.length_take]; omega)
  rw [e, ← h4]
  simp [piecesF]
theorem Pc.end_ {S : List UInt8} {L : List (List UInt8)} {ins : Bool} {st k : Nat} (h : Pc S L ins st k) (hk : S.length ≤ k) : L ++ [S.drop st] = pieces S := by
  unfold Pc at h
  rw [List.drop_eq_nil_of_le hk, List.take_of_length_le hk] at h
  rw [← h]
  cases ins <;> rfl
end Hd
set_option maxHeartbeats 1000000 in
set_option maxRecDepth 100000 in
theorem pieces_any (s : ByteArray) (w : World) (hs : s.size ≤ 1000000) :
    Calls Tryd.prog 31 #[.string s] w fun e w' => ∃ v, e = .returned v ∧ SOwn w' w.heap.size v (Hd.pieces s.data.toList) ∧ Below w.heap.size w w' := by
  have HP := Lib.hid (Hd.Pc.start s.data.toList)
  go_enter Tryd.func31, Tryd.ntmps31
  go_wp2
  go_loopw [3, 4, 5, 6] (fun v st ins i wr => ∃ (k f : Nat) (b : Bool) (L : List (List UInt8)), st = .int .i64 f ∧ ins = .bool b ∧ i = .int .i64 k ∧ f ≤ k ∧ f ≤ s.size ∧ k ≤ s.size + 1 ∧ L.length ≤ f ∧ Hid (Hd.Pc s.data.toList L b f k) ∧ Hid (SOwn wr w.heap.size v L) ∧ Hid (Below w.heap.size w wr)) (fun _ _ _ i _ => s.size + 1 - (intOf i).toNat)
  case atStart => exact ⟨0, 0, false, [], rfl, rfl, rfl, Nat.le_refl _, Nat.zero_le _, Nat.zero_le _, Nat.le_refl _, HP.out, SOwn.nil _ _, Below.refl _ _⟩
  case round =>
    obtain ⟨k, f, ins, L, rfl, rfl, rfl, hfk, hfs, hks, hLf, hP, hO, hB⟩ := hrel
    clear HP
    obtain ⟨pa, pc, hv⟩ := own_slice hO.out
    subst hv
    by_cases hlt : k < s.size
    · have hg := Tx.get_of s k hlt
      obtain ⟨c, hc⟩ : ∃ c, s[k] = c := ⟨_, rfl⟩
      rw [hc] at hg
      by_cases h34 : c = 34
      · subst h34
        have HN := Lib.hid (hP.out.quote hfk hg)
        clear hg hP
        cases ins <;>
        · go_wp2
          go_roundw
          case rel => exact ⟨k + 1, f, _, L, rfl, rfl, by go_num, by omega, hfs, by omega, hLf, HN.out, hO.out, hB.out⟩
          case measure => simp [intOf]; omega
      · have q34 := byte_ne (n := 34) (by decide) h34
        by_cases h92 : c = 92
        · subst h92
          cases ins with
          | true =>
            have HN := Lib.hid (hP.out.skip hfk hg)
            clear hg hP
            go_wp2
            go_roundw
            case rel => exact ⟨k + 2, f, true, L, rfl, rfl, by go_num, by omega, hfs, by omega, hLf, HN.out, hO.out, hB.out⟩
            case measure => simp [intOf]; omega
          | false =>
            have HN := Lib.hid (hP.out.plain hfk hg (by decide) (.inr rfl) (.inl (by decide)))
            clear hg hP
            go_wp2
            go_roundw
            case rel => exact ⟨k + 1, f, false, L, rfl, rfl, by go_num, by omega, hfs, by omega, hLf, HN.out, hO.out, hB.out⟩
            case measure => simp [intOf]; omega
        · have q92 := byte_ne (n := 92) (by decide) h92
          by_cases h59 : c = 59
          · subst h59
            cases ins with
            | true =>
              have HN := Lib.hid (hP.out.plain hfk hg (by decide) (.inl (by decide)) (.inr rfl))
              clear hg hP
              go_wp2
              go_roundw
              case rel => exact ⟨k + 1, f, true, L, rfl, rfl, by go_num, by omega, hfs, by omega, hLf, HN.out, hO.out, hB.out⟩
              case measure => simp [intOf]; omega
            | false =>
              have HN := Lib.hid (hP.out.cut hfk hg)
              have hx := span_mk s f k
              obtain ⟨r, hr⟩ : ∃ r, (s.data.toList.take k).drop f = r := ⟨_, rfl⟩
              rw [hr] at hx HN
              have HX := Lib.hid hx
              have hfk2 : (f : Int) ≤ (k : Int) := by omega
              clear hg hP hr
              go_wp2_with (at_builtin; refine wpList_app_str (w := wr) (w0 := w) (base := w.heap.size) rfl _ _ rfl r hO.out hB.out (Nat.le_refl _) (by omega) rfl rfl ?_; intro pa2 pn2 pc2 w2 hO2 hB2)
              go_roundw
              case rel => exact ⟨k + 1, k + 1, false, L ++ [r], by go_num, rfl, by go_num, Nat.le_refl _, by omega, by omega, by rw [List.length_append, List.length_singleton]; omega, HN.out, hO2.out, hB2.out⟩
              case measure => simp [intOf]; omega
          · have q59 := byte_ne (n := 59) (by decide) h59
            have HN := Lib.hid (hP.out.plain hfk hg h34 (.inl h92) (.inl h59))
            clear hg hP
            go_wp2
            go_roundw
            case rel => exact ⟨k + 1, f, ins, L, rfl, rfl, by go_num, by omega, hfs, by omega, hLf, HN.out, hO.out, hB.out⟩
            case measure => simp [intOf]; omega
    · have HN := Lib.hid (hP.out.end_ (by rw [← Lib.size_eq]; omega))
      have hx := drop_mk s f
      obtain ⟨r, hr⟩ : ∃ r, s.data.toList.drop f = r := ⟨_, rfl⟩
      rw [hr] at hx HN
      have hfs2 : (f : Int) ≤ (s.size : Int) := by omega
      clear hP hr
      go_wp2_with (at_builtin; refine wpList_app_str (w := wr) (w0 := w) (base := w.heap.size) rfl _ _ rfl r hO.out hB.out (Nat.le_refl _) (by omega) rfl rfl ?_; intro pa2 pn2 pc2 w2 hO2 hB2)
      go_ret
      exact ⟨_, rfl, by rw [← HN.out]; exact hO2.out, hB2.out⟩
end Go.Proofs.YtliadekcbkedmaaDoor
