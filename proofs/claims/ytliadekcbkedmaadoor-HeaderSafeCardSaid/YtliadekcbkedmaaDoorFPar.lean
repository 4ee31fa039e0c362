/-
  header.quoted, unquoted, param.
-/
import Derived.Test.YtliadekcbkedmaaDoorFMem
namespace Go.Proofs.YtliadekcbkedmaaDoor
open Go Go.RowKit Go.Shelf
theorem token_to {s : ByteArray} {b : Bool} (h : Hd.token s.data.toList = b) (w : World) (hs : s.size ≤ 9223372036854775807) :
    Calls Tryd.prog 42 #[.string s] w fun e w' => e = .returned (.bool b) ∧ w = w' := by
  rw [← h]; exact token_any s w hs
theorem ba_append (a b : ByteArray) : (a ++ b).data.toList = a.data.toList ++ b.data.toList := by simp
theorem ret_ba {a b : ByteArray} (h : a.data.toList = b.data.toList) : Ending.returned (.string a) = .returned (.string b) := by
  rw [show a = b from by rw [← str_back a, h, str_back]]
set_option maxHeartbeats 1000000 in
set_option maxRecDepth 100000 in
theorem quoted_any (s : ByteArray) (w : World) (hs : s.size ≤ 200000) (hm : MaxAt w) :
    Calls Tryd.prog 43 #[.string s] w fun e w' => e = .returned (.string ⟨(Hd.quoted s.data.toList).toArray⟩) ∧ Below w.heap.size w w' := by
  cases ht : Hd.token s.data.toList with
  | true =>
    have hq : Hd.quoted s.data.toList = s.data.toList := by unfold Hd.quoted; rw [if_pos ht]
    rw [hq, str_back]
    have H := Lib.hid (fun W => token_to ht W (by omega))
    clear hq ht
    go_enter Tryd.func43, Tryd.ntmps43
    go_wp2_with (go_at_call 42; refine (H.out _).mono ?_; rintro e w' ⟨rfl, rfl⟩)
    go_ret
    exact ⟨rfl, Below.refl _ _⟩
  | false =>
    have hq : Hd.quoted s.data.toList = 34 :: Hd.esc s.data.toList ++ [34] := by unfold Hd.quoted; rw [if_neg (by rw [ht]; decide)]
    rw [hq]
    have H := Lib.hid (fun W => token_to ht W (by omega))
    have H1 := Lib.hid (fun W h => replace_any 92 ⟨#[92, 92]⟩ s W (by omega) (by decide) (by decide) h)
    have hl := Hd.repl_len 92 [92, 92] (by decide) s.data.toList
    rw [← Lib.size_eq] at hl
    have hl2 := Hd.repl_len 34 [92, 34] (by decide) (Hd.repl 92 [92, 92] s.data.toList)
    have H2 := Lib.hid (fun W h => replace_any 34 ⟨#[92, 34]⟩ ⟨(Hd.repl 92 [92, 92] s.data.toList).toArray⟩ W (mk_size_le (by omega)) (by decide) (by decide) h)
    rw [show (⟨#[92, 34]⟩ : ByteArray).data.toList = [92, 34] from rfl, Hd.esc_eq] at H2
    rw [Hd.esc_eq] at hl2
    obtain ⟨E, hE⟩ : ∃ E : ByteArray, (⟨(Hd.esc s.data.toList).toArray⟩ : ByteArray) = E := ⟨_, rfl⟩
    have hEl : E.data.toList = Hd.esc s.data.toList := by rw [← hE]
    have hEs : E.size ≤ 1000000 := by rw [Lib.size_eq, hEl]; omega
    rw [hE] at H2
    have hadd1 := fun w' : World => run_string_add_sum (P := Tryd.prog) (w := w') ⟨#[34]⟩ E (by show 1 + E.size ≤ _; omega)
    have hsz1 : (⟨#[34]⟩ ++ E : ByteArray).size = 1 + E.size := by rw [Lib.size_eq, ba_append, List.length_append, ← Lib.size_eq E]; rfl
    obtain ⟨F, hF⟩ : ∃ F : ByteArray, (⟨#[34]⟩ ++ E : ByteArray) = F := ⟨_, rfl⟩
    have hFl : F.data.toList = 34 :: E.data.toList := by rw [← hF, ba_append]; rfl
    rw [hF] at hadd1 hsz1
    have hadd2 := fun w' : World => run_string_add_sum (P := Tryd.prog) (w := w') F ⟨#[34]⟩ (by show F.size + 1 ≤ _; omega)
    have HE := Lib.hid (show (F ++ ⟨#[34]⟩ : ByteArray).data.toList = 34 :: Hd.esc s.data.toList ++ [34] from by rw [ba_append, hFl, hEl])
    have HM := Lib.hid hm
    have hp := hm.pos
    clear hl hl2 hm hq ht hE hEl hF hFl hsz1
    go_enter Tryd.func43, Tryd.ntmps43
    go_wp2_with (go_at_call 42; refine (H.out _).mono ?_; rintro e w' ⟨rfl, rfl⟩)
    refine (H1.out _ HM.out).mono ?_
    rintro e w1 ⟨rfl, hb1⟩
    have HM1 := HM.out.below hb1 hp
    go_wp2_with fail
    refine (H2.out _ HM1).mono ?_
    rintro e w2 ⟨rfl, hb2⟩
    go_wp2
    go_ret
    exact ⟨ret_ba HE.out, hb1.trans (hb2.mono hb1.size)⟩
/-! ### unquoted -/
theorem prefix34 (s : ByteArray) : (s.data.toList.head? = some 34 ∧ ∃ r, s.data.toList = 34 :: r ∧ Lib.trimPrefix s.data.toList [34] = r ∧ Lib.hasPrefix s.data.toList [34] = true) ∨ (s.data.toList.head? ≠ some 34 ∧ Lib.hasPrefix s.data.toList [34] = false) := by
  cases e : s.data.toList with
  | nil => exact .inr ⟨by simp, rfl⟩
  | cons c r =>
    by_cases h : c = 34
    · subst h
      exact .inl ⟨rfl, r, rfl, by simp [Lib.trimPrefix, Lib.hasPrefix], by simp [Lib.hasPrefix]⟩
    · exact .inr ⟨by simpa using h, by
        show (34 == c && true) = false
        rw [Bool.and_true, beq_eq_false_iff_ne]
        exact fun e => h e.symm⟩
theorem unq_not34 {S : List UInt8} (h : S.head? ≠ some 34) : Hd.unq S = if Hd.vis [34] S = true then some S else none := by
  cases S with
  | nil => rfl
  | cons c r =>
    have hc : ¬ c = 34 := by simpa using h
    show (if c = 34 then Hd.unqF false [] r else if Hd.vis [34] (c :: r) = true then some (c :: r) else none) = _
    rw [if_neg hc]
theorem unqF_step {S : List UInt8} {k : Nat} {c : UInt8} {esc : Bool} {out : List UInt8} {R : Option (List UInt8)} (h : S[k]? = some c) (hq : Hd.unqF esc out (S.drop k) = R) : Hd.unqF esc out (c :: S.drop (k + 1)) = R := by
  have hk : k < S.length := (List.getElem?_eq_some_iff.1 h).1
  have hc : S[k] = c := (List.getElem?_eq_some_iff.1 h).2
  rw [List.drop_eq_getElem_cons hk, hc] at hq
  exact hq
/-- What unquoted answers. -/
def UnqIs (R : Option (List UInt8)) (v : ByteArray) (ok : Bool) : Prop := match R with
  | some x => v = ⟨x.toArray⟩ ∧ ok = true
  | none => ok = false
/-- The answer's form. -/
def UnqAns (R : Option (List UInt8)) (e : Ending) : Prop := ∃ v ok, e = .returned (.tuple #[.string v, .bool ok]) ∧ UnqIs R v ok
set_option maxHeartbeats 1000000 in
set_option maxRecDepth 100000 in
theorem unquoted_is (s : ByteArray) (w : World) (hs : s.size ≤ 1000000) :
    Calls Tryd.prog 61 #[.string s] w fun e w' => UnqAns (Hd.unq s.data.toList) e ∧ Below w.heap.size w w' := by
  have HC := Lib.hid (fun W => Any.strings_CutPrefix Tryd.lays103 s ⟨#[34]⟩ W)
  rcases prefix34 s with ⟨_, r, hr, h1, h2⟩ | ⟨h1, h2⟩
  · rw [show (⟨#[34]⟩ : ByteArray).data.toList = [34] from rfl, h1, h2] at HC
    obtain ⟨R, hR⟩ : ∃ R, Hd.unq s.data.toList = R := ⟨_, rfl⟩
    rw [hR]
    have hR2 : Hd.unqF false [] r = R := by rw [← hR, hr]; rfl
    obtain ⟨t, ht⟩ : ∃ t : ByteArray, (⟨r.toArray⟩ : ByteArray) = t := ⟨_, rfl⟩
    rw [ht] at HC
    have htl : t.data.toList = r := by rw [← ht]
    rw [← htl] at hR2
    have hts : t.size ≤ 1000000 := by
      rw [Lib.size_eq, htl]
      have := congrArg List.length hr
      rw [← Lib.size_eq, List.length_cons] at this
      omega
    have HR := Lib.hid hR2
    have HF := Lib.hid (Bld.fresh w)
    obtain ⟨b, hb⟩ : ∃ b, w.heap.size = b := ⟨_, rfl⟩
    have HS := Lib.hid hb
    clear hR hR2 ht htl hr h1 h2
    go_enter Tryd.func61, Tryd.ntmps61
    go_wp2_with (go_at_call 85; refine (HC.out _).mono ?_; rintro e w1 ⟨rfl, hw1⟩; subst w1)
    go_loopw [7, 8, 9, 22] (fun e _ _ i wr => ∃ (k : Nat) (esc : Bool) (out : List UInt8), e = .bool esc ∧ k ≤ t.size ∧ i = .int .i64 k ∧ Hid (Hd.unqF esc out (t.data.toList.drop k) = R) ∧ out.length ≤ k ∧ Bld b b out wr ∧ Below b w wr) (fun _ _ _ i _ => t.size - (intOf i).toNat)
    case atStart => exact ⟨0, false, [], rfl, Nat.zero_le _, rfl, HR.out, Nat.le_refl _, by rw [← hb]; exact HF.out, by rw [← hb]; exact (Below.refl _ w).alloc (Nat.le_refl _) _⟩
    case round =>
      obtain ⟨k, esc, out, rfl, hk, rfl, hU, hol, hBl, hBe⟩ := hrel
      clear hb HF HR
      have hsz : b ≤ wr.heap.size := by have := hBe.size; have := HS.out; omega
      by_cases hlt : k < t.size
      · have hg := Tx.get_of t k hlt
        obtain ⟨c, hc⟩ : ∃ c, t[k] = c := ⟨_, rfl⟩
        rw [hc] at hg
        have hU2 := unqF_step hg hU.out
        clear hU
        have hlast : (t.data.toList.drop (k + 1) = []) ↔ (k + 1 = t.size) := by
          rw [List.drop_eq_nil_iff, ← Lib.size_eq]; omega
        clear hg
        cases esc with
        | true =>
          by_cases h34 : c = 34
          · subst h34
            have HN : Hid (Hd.unqF false (out ++ [34]) (t.data.toList.drop (k + 1)) = R) := Lib.hid hU2
            clear hU2 hlast
            go_wp2_with (go_at_call 86; refine (wb_any b b _ 34 _ hBl (by omega) hsz).mono ?_; rintro e w2 ⟨rfl, hBl2, hB2, -⟩)
            go_roundw
            case rel => exact ⟨k + 1, false, out ++ [34], rfl, by omega, by go_num, HN.out, by simp; omega, hBl2, hBe.trans hB2⟩
            case measure => simp [intOf]; omega
          · have q34 := byte_ne (n := 34) (by decide) h34
            have p34 := byte_neI (n := 34) (by decide) h34
            by_cases h92 : c = 92
            · subst h92
              have HN : Hid (Hd.unqF false (out ++ [92]) (t.data.toList.drop (k + 1)) = R) := Lib.hid hU2
              clear hU2 hlast
              go_wp2_with (go_at_call 86; refine (wb_any b b _ 92 _ hBl (by omega) hsz).mono ?_; rintro e w2 ⟨rfl, hBl2, hB2, -⟩)
              go_roundw
              case rel => exact ⟨k + 1, false, out ++ [92], rfl, by omega, by go_num, HN.out, by simp; omega, hBl2, hBe.trans hB2⟩
              case measure => simp [intOf]; omega
            · have q92 := byte_ne (n := 92) (by decide) h92
              have p92 := byte_neI (n := 92) (by decide) h92
              have HN : Hid (Hd.unqF false (out ++ [c]) (t.data.toList.drop (k + 1)) = R) := Lib.hid hU2
              clear hU2 hlast
              go_wp2_with (go_at_call 86; refine (wb_any b b _ c _ hBl (by omega) hsz).mono ?_; rintro e w2 ⟨rfl, hBl2, hB2, -⟩)
              go_roundw
              case rel => exact ⟨k + 1, false, out ++ [c], rfl, by omega, by go_num, HN.out, by simp; omega, hBl2, hBe.trans hB2⟩
              case measure => simp [intOf]; omega
        | false =>
          by_cases h34 : c = 34
          · subst h34
            have hU3 : (if t.data.toList.drop (k + 1) = [] then some out else none) = R := hU2
            by_cases hl : k + 1 = t.size
            · rw [if_pos (hlast.2 hl)] at hU3
              have HF := Lib.hid hU3
              have q : (k : Int) = (t.size : Int) - 1 := by omega
              have q2 : ((k : Int) == (t.size : Int) - 1) = true := by rw [beq_iff_eq]; exact q
              clear hU2 hU3 hlast hl q
              go_wp2_with (go_at_call 44; refine (str_any b b _ _ hBl hsz).mono ?_; rintro e w2 ⟨rfl, hB2, -⟩)
              go_ret2
              exact ⟨⟨⟨out.toArray⟩, true, rfl, by rw [← HF.out]; exact ⟨rfl, rfl⟩⟩, by rw [HS.out]; exact hBe.trans hB2⟩
            · rw [if_neg (fun e => hl (hlast.1 e))] at hU3
              have HF := Lib.hid hU3
              have q2 : ((k : Int) == (t.size : Int) - 1) = false := by rw [beq_eq_false_iff_ne]; omega
              clear hU2 hU3 hlast hl
              go_wp2_with (go_at_call 44; refine (str_any b b _ _ hBl hsz).mono ?_; rintro e w2 ⟨rfl, hB2, -⟩)
              go_ret2
              exact ⟨⟨_, false, rfl, by rw [← HF.out]; rfl⟩, by rw [HS.out]; exact hBe.trans hB2⟩
          · have q34 := byte_ne (n := 34) (by decide) h34
            have p34 := byte_neI (n := 34) (by decide) h34
            by_cases h92 : c = 92
            · subst h92
              have HN : Hid (Hd.unqF true out (t.data.toList.drop (k + 1)) = R) := Lib.hid hU2
              clear hU2 hlast
              go_wp2
              go_roundw
              case rel => exact ⟨k + 1, true, out, rfl, by omega, by go_num, HN.out, by omega, hBl, hBe⟩
              case measure => simp [intOf]; omega
            · have q92 := byte_ne (n := 92) (by decide) h92
              have p92 := byte_neI (n := 92) (by decide) h92
              have HN : Hid (Hd.unqF false (out ++ [c]) (t.data.toList.drop (k + 1)) = R) := Lib.hid (by
                unfold Hd.unqF at hU2
                rw [if_neg h34, if_neg h92] at hU2
                exact hU2)
              clear hU2 hlast h34 h92
              go_wp2_with (go_at_call 86; refine (wb_any b b _ c _ hBl (by omega) hsz).mono ?_; rintro e w2 ⟨rfl, hBl2, hB2, -⟩)
              go_roundw
              case rel => exact ⟨k + 1, false, out ++ [c], rfl, by omega, by go_num, HN.out, by simp; omega, hBl2, hBe.trans hB2⟩
              case measure => simp [intOf]; omega
      · obtain rfl : k = t.size := by omega
        have hU2 := hU.out
        rw [Lib.size_eq, List.drop_length] at hU2
        have HF : Hid (none = R) := Lib.hid (by rw [← hU2]; cases esc <;> rfl)
        clear hU hU2
        go_wp2
        go_ret2
        exact ⟨⟨_, false, rfl, by rw [← HF.out]; rfl⟩, by rw [HS.out]; exact hBe⟩
  · rw [show (⟨#[34]⟩ : ByteArray).data.toList = [34] from rfl, h2] at HC
    have HV := Lib.hid (fun W => vis_any s ⟨#[34]⟩ W (by omega))
    obtain ⟨R, hR⟩ : ∃ R, Hd.unq s.data.toList = R := ⟨_, rfl⟩
    rw [hR]
    have HR := Lib.hid (hR.symm.trans (unq_not34 h1))
    clear hR
    obtain ⟨x, hx⟩ : ∃ x : ByteArray, (⟨(Lib.trimPrefix s.data.toList [34]).toArray⟩ : ByteArray) = x := ⟨_, rfl⟩
    rw [hx] at HC
    clear h1 h2 hx
    go_enter Tryd.func61, Tryd.ntmps61
    go_wp2_with (first
      | (go_at_call 85; refine (HC.out _).mono ?_; rintro e w1 ⟨rfl, hw1⟩; subst w1)
      | (go_at_call 66; refine (HV.out _).mono ?_; rintro e w' ⟨rfl, rfl⟩))
    go_ret2
    refine ⟨⟨s, Hd.vis [34] s.data.toList, rfl, ?_⟩, Below.refl _ _⟩
    rw [HR.out]
    cases Hd.vis [34] s.data.toList with
    | true => exact ⟨(str_back s).symm, rfl⟩
    | false => rfl
/-! ### param -/
theorem lower_to {l m : List UInt8} (h : Tx.lowL l = m) (w : World) (hs : l.length ≤ 1000000) :
    Calls Tryd.prog 13 #[.string ⟨l.toArray⟩] w fun e w' => e = .returned (.string ⟨m.toArray⟩) ∧ Below w.heap.size w w' := by
  rw [← h]; exact lowerS_any ⟨l.toArray⟩ w (mk_size_le (by omega))
theorem trim_to {l m : List UInt8} (h : Tx.trim l = m) (w : World) (hs : l.length ≤ 1000000) :
    Calls Tryd.prog 30 #[.string ⟨l.toArray⟩] w fun e w' => e = .returned (.string ⟨m.toArray⟩) ∧ Below w.heap.size w w' := by
  rw [← h]; exact trimT_any ⟨l.toArray⟩ (mk_size_le (by omega)) w
/-- What param answers. -/
def ParIs (R : Option Hd.Fd) (n v : ByteArray) (ok : Bool) : Prop := match R with
  | some q => n = ⟨q.1.toArray⟩ ∧ v = ⟨q.2.toArray⟩ ∧ ok = true
  | none => ok = false
def ParAns (R : Option Hd.Fd) (e : Ending) : Prop := ∃ n v ok, e = .returned (.tuple #[.agg #[.string n, .string v], .bool ok]) ∧ ParIs R n v ok
set_option maxHeartbeats 1000000 in
set_option maxRecDepth 100000 in
theorem param_is (s : ByteArray) (w : World) (hs : s.size ≤ 1000000) (hm : MaxAt w) :
    Calls Tryd.prog 32 #[.string s] w fun e w' => ParAns (Hd.param s.data.toList) e ∧ Below w.heap.size w w' := by
  obtain ⟨R, hR⟩ : ∃ R, Hd.param s.data.toList = R := ⟨_, rfl⟩
  rw [hR]
  obtain ⟨a, b, f, hcut⟩ : ∃ a b f, Lib.cut s.data.toList [61] = (a, b, f) := ⟨_, _, _, rfl⟩
  have hcl := Hd.cut_len 61 s.data.toList
  rw [hcut, ← Lib.size_eq] at hcl
  simp only at hcl
  have hp := hm.pos
  have hma : MaxAt (w.alloc (.cells #[.string ⟨#[]⟩, .string ⟨#[]⟩] 25)) := hm.below (below_new w _) hp
  have HC := Lib.hid (cut_any 61 s _ hs hma)
  rw [hcut] at HC
  obtain ⟨ta, hta⟩ : ∃ ta, Tx.trim a = ta := ⟨_, rfl⟩
  obtain ⟨tb, htb⟩ : ∃ tb, Tx.trim b = tb := ⟨_, rfl⟩
  obtain ⟨na, hna⟩ : ∃ na, Tx.lowL ta = na := ⟨_, rfl⟩
  have htal : ta.length ≤ 1000000 := by rw [← hta]; have := Tx.trim_len a; omega
  have htbl : tb.length ≤ 1000000 := by rw [← htb]; have := Tx.trim_len b; omega
  have hnal : na.length ≤ 1000000 := by rw [← hna]; unfold Tx.lowL; rw [List.length_map]; exact htal
  have HT1 := Lib.hid (fun W => trim_to hta W (by omega))
  have HT2 := Lib.hid (fun W => trim_to htb W (by omega))
  have HL := Lib.hid (fun W => lower_to hna W (by omega))
  have HU := Lib.hid (fun W => unquoted_is ⟨tb.toArray⟩ W (mk_size_le (by omega)))
  rw [show (⟨tb.toArray⟩ : ByteArray).data.toList = tb from rfl] at HU
  have hRR : (match Hd.unq tb with | none => none | some v => if Hd.token na = true then some (na, v) else none) = R := by
    rw [← hR]
    unfold Hd.param Hd.pname
    rw [hcut]
    simp only
    rw [hta, htb, hna]
    cases Hd.unq tb <;> rfl
  obtain ⟨N, hN⟩ : ∃ N : ByteArray, (⟨na.toArray⟩ : ByteArray) = N := ⟨_, rfl⟩
  obtain ⟨g, hg⟩ : ∃ g, Hd.token na = g := ⟨_, rfl⟩
  have HK := Lib.hid (fun W => token_to (s := N) (b := g) (by rw [← hN]; exact hg) W (by rw [← hN]; exact mk_size_le (by omega)))
  rw [hN] at HL
  have HN := Lib.hid hN
  have HG := Lib.hid hg
  have HRR := Lib.hid hRR
  clear hR hcut hcl hp hma hta htb hna htal htbl hnal hRR hN hg hm
  go_enter Tryd.func32, Tryd.ntmps32
  go_wp2_with fail
  refine HC.out.mono ?_
  rintro e w1 ⟨rfl, n1, rfl⟩
  obtain ⟨w1, hw1⟩ : ∃ w1, ((w.alloc (.cells #[.string ⟨#[]⟩, .string ⟨#[]⟩] 25)).drewN n1) = w1 := ⟨_, rfl⟩
  have hb1 : Below w.heap.size w w1 := by rw [← hw1]; exact below_drews (below_new w _) n1
  have hk1 : w1.heap[w.heap.size]? = some (.cells #[.string ⟨#[]⟩, .string ⟨#[]⟩] 25 (0, 0)) := by rw [← hw1]; exact World.alloc_heap_new w _
  rw [hw1]
  clear hw1 HC
  have hlt1 := (Array.getElem?_eq_some_iff.1 hk1).1
  go_wp2_with fail
  refine (HT1.out _).mono ?_
  rintro e w2 ⟨rfl, hb2⟩
  go_wp2_with fail
  refine (HL.out _).mono ?_
  rintro e w3 ⟨rfl, hb3⟩
  go_wp2_with fail
  refine (HT2.out _).mono ?_
  rintro e w4 ⟨rfl, hb4⟩
  go_wp2_with fail
  refine (HU.out _).mono ?_
  rintro e w5 ⟨⟨v, ok, rfl, hU⟩, hb5⟩
  have hb15 : Below w1.heap.size w1 w5 := ((hb2.trans (hb3.mono hb2.size)).trans (hb4.mono (Nat.le_trans hb2.size hb3.size))).trans (hb5.mono (Nat.le_trans (Nat.le_trans hb2.size hb3.size) hb4.size))
  have hk5 := (hb15.block _ hlt1).trans hk1
  have hb05 := Lib.hid (hb1.trans (hb15.mono hb1.size))
  have hB5 : Blk w5 w.heap.size 25 [.string ⟨#[]⟩, .string ⟨#[]⟩] := hk5
  have f0 := hB5.free 0
  have f1 := hB5.free 1
  have c0 := hB5.cell (j := 0) rfl
  have c1 := hB5.cell (j := 1) rfl
  have HUU := Lib.hid hU
  have HB5 := Lib.hid hB5
  have hsz5 := (Array.getElem?_eq_some_iff.1 hk5).1
  clear hU hb1 hk1 hb2 hb3 hb4 hb5 hb15 hk5 hlt1 HT1 HT2 HL HU hB5
  have HE := Lib.hid (((HB5.out.set 0 (.string N)).set 1 (.string v)))
  have HW := Lib.hid ((hb05.out.setCell (p := ⟨w.heap.size, 0, none⟩) (Nat.le_refl _) (.string N)).setCell (p := ⟨w.heap.size, 1, none⟩) (Nat.le_refl _) (.string v))
  have hq : ∀ x, UnqIs (Hd.unq tb) v x → (x = true → ∃ y, Hd.unq tb = some y ∧ v = ⟨y.toArray⟩) ∧ (x = false → Hd.unq tb = none) := by
    intro x h
    cases e : Hd.unq tb with
    | none => rw [e] at h; exact ⟨fun hx => by rw [hx] at h; exact absurd (show true = false from h) (by decide), fun _ => rfl⟩
    | some y => rw [e] at h; exact ⟨fun _ => ⟨y, rfl, h.1⟩, fun hx => by rw [hx] at h; exact absurd (show false = true from h.2) (by decide)⟩
  have HQ := Lib.hid (hq ok HUU.out)
  clear hq
  cases ok with
  | true =>
    go_wp2_with (go_at_call 42; refine (HK.out _).mono ?_; rintro e w' ⟨rfl, rfl⟩)
    (try simp only [Exit.inBlock, Exit.then])
    refine bodyPost_ret (results_row_tmp rfl _ _ w.heap.size 25 #[.string N, .string v] (0, 0) _ rfl HE.out Tryd.underlying25 (by kernel_rfl)) rfl ?_
    refine ⟨⟨N, v, g, rfl, ?_⟩, HW.out⟩
    obtain ⟨y, hy, rfl⟩ := HQ.out.1 trivial
    rw [← HRR.out, hy]
    simp only
    rw [HG.out]
    cases g with
    | true => exact ⟨HN.out.symm, rfl, rfl⟩
    | false => rfl
  | false =>
    go_wp2
    (try simp only [Exit.inBlock, Exit.then])
    refine bodyPost_ret (results_row_tmp rfl _ _ w.heap.size 25 #[.string N, .string v] (0, 0) _ rfl HE.out Tryd.underlying25 (by kernel_rfl)) rfl ?_
    refine ⟨⟨N, v, false, rfl, ?_⟩, HW.out⟩
    rw [← HRR.out, HQ.out.2 trivial]
    rfl
end Go.Proofs.YtliadekcbkedmaaDoor
