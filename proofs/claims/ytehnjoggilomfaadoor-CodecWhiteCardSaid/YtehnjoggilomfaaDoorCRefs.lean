/-
  The reference's Trim and Lines, and its Join without a separator.
-/
import Derived.Test.YtehnjoggilomfaaDoorRefA
import Derived.Lib.AppendStr
import Derived.Laws.IdiomStrings
import Derived.Laws.BytesArg
import Derived.BigFrame
import Derived.OwnWalk
import Derived.Maps.AppendAt
namespace Go.Proofs.YtehnjoggilomfaaDoor
open Go Go.RowKit Go.Shelf
theorem drews_more {w wr : World} (h : ∃ n, wr = w.drewN n) (k : Nat) : ∃ n, wr.drewN k = w.drewN n := by
  obtain ⟨n, rfl⟩ := h
  exact ⟨n + k, World.drewN_drewN _ _ _⟩
namespace Tx
/-- Trim. -/
def trim (l : List UInt8) : List UInt8 := Lib.trimS l [9, 10, 13, 32]
end Tx
namespace Tx
/-- k white bytes stand at the front. -/
theorem drop_cons {S : List UInt8} {k : Nat} {c : UInt8} (h : S[k]? = some c) : S.drop k = c :: S.drop (k + 1) := by
  obtain ⟨hk, e⟩ := List.getElem?_eq_some_iff.1 h
  rw [List.drop_eq_getElem_cons hk, e]
def FrontW (S : List UInt8) (k : Nat) : Prop := k ≤ S.length ∧ ∀ c ∈ S.take k, isW c = true
end Tx
namespace Tx
/-- From u on all bytes are white. -/
def BackW (S : List UInt8) (u : Nat) : Prop := u ≤ S.length ∧ ∀ c ∈ S.drop u, isW c = true
end Tx
namespace Tx
theorem FrontW.next {S : List UInt8} {k : Nat} {c : UInt8} (h : FrontW S k) (hc : S[k]? = some c) (hw : isW c = true) : FrontW S (k + 1) := by
  obtain ⟨hk, e⟩ := List.getElem?_eq_some_iff.1 hc
  refine ⟨hk, fun d hd => ?_⟩
  rw [List.take_succ_eq_append_getElem hk] at hd
  rcases List.mem_append.1 hd with hd | hd
  · exact h.2 d hd
  · obtain rfl := List.mem_singleton.1 hd; rw [e]; exact hw
end Tx
namespace Tx
theorem BackW.next {S : List UInt8} {u : Nat} {c : UInt8} (h : BackW S (u + 1)) (hc : S[u]? = some c) (hw : isW c = true) : BackW S u := by
  refine ⟨Nat.le_of_succ_le h.1, fun d hd => ?_⟩
  rw [drop_cons hc] at hd
  rcases List.mem_cons.1 hd with rfl | hd
  · exact hw
  · exact h.2 d hd
end Tx
namespace Tx
theorem dropWhile_all {p : UInt8 → Bool} : ∀ (a b : List UInt8), (∀ c ∈ a, p c = true) → (a ++ b).dropWhile p = b.dropWhile p
  | [], b, _ => rfl
  | c :: r, b, h => by rw [List.cons_append, List.dropWhile_cons_of_pos (h c (by simp)), dropWhile_all r b (fun d hd => h d (by simp [hd]))]
end Tx
namespace Tx
theorem trim_white (a m b : List UInt8) (ha : ∀ c ∈ a, isW c = true) (hb : ∀ c ∈ b, isW c = true) (h1 : ∀ c, m.head? = some c → isW c = false) (h2 : ∀ c, m.getLast? = some c → isW c = false) : trim (a ++ m ++ b) = m := by
  have hp : ∀ c, isW c = true → ([9, 10, 13, 32] : List UInt8).contains c = true := fun c h => by rw [isW_eq]; exact h
  have e1 : Lib.trimRightS (a ++ m ++ b) [9, 10, 13, 32] = Lib.trimRightS (a ++ m) [9, 10, 13, 32] := by
    unfold Lib.trimRightS
    rw [List.reverse_append, dropWhile_all _ _ (fun c hc => hp c (hb c (List.mem_reverse.1 hc)))]
  cases e : m with
  | nil =>
    show Lib.trimLeftS (Lib.trimRightS (a ++ [] ++ b) _) _ = []
    have e1' := e1
    rw [e, List.append_nil] at e1'
    rw [List.append_nil, e1']
    have : Lib.trimRightS a [9, 10, 13, 32] = [] := by
      unfold Lib.trimRightS
      have := dropWhile_all (p := fun c => ([9, 10, 13, 32] : List UInt8).contains c) a.reverse [] (fun c hc => hp c (ha c (List.mem_reverse.1 hc)))
      rw [List.append_nil] at this
      rw [this]; rfl
    rw [this]; rfl
  | cons c r =>
    rw [← e]
    show Lib.trimLeftS (Lib.trimRightS (a ++ m ++ b) _) _ = m
    rw [e1]
    have hl : ∃ d q, m.reverse = d :: q ∧ isW d = false := by
      cases er : m.reverse with
      | nil => have : m = [] := by simpa using er
               rw [e] at this; cases this
      | cons d q => exact ⟨d, q, rfl, h2 d (by rw [← List.head?_reverse, er]; rfl)⟩
    obtain ⟨d, q, er, hd⟩ := hl
    have e2 : Lib.trimRightS (a ++ m) [9, 10, 13, 32] = a ++ m := by
      unfold Lib.trimRightS
      rw [List.reverse_append, er, List.cons_append, List.dropWhile_cons_of_neg (by rw [isW_eq, hd]; decide), ← List.cons_append, ← er, ← List.reverse_append, List.reverse_reverse]
    rw [e2]
    unfold Lib.trimLeftS
    rw [dropWhile_all _ _ (fun c hc => hp c (ha c hc)), e, List.dropWhile_cons_of_neg (by rw [isW_eq, h1 c (by rw [e]; rfl)]; decide)]
end Tx
namespace Tx
/-- What lies between the two marks is the trimmed string. -/
theorem trim_between {S : List UInt8} {f u : Nat} (hf : FrontW S f) (hu : BackW S u) (hfu : f ≤ u) (h1 : ∀ c, f < u → S[f]? = some c → isW c = false) (h2 : ∀ c, f < u → S[u - 1]? = some c → isW c = false) : trim S = (S.take u).drop f := by
  have e : S = S.take f ++ (S.take u).drop f ++ S.drop u := by
    have h3 : S.take f = (S.take u).take f := by rw [List.take_take, Nat.min_eq_left hfu]
    rw [h3, List.take_append_drop, List.take_append_drop]
  conv => lhs; rw [e]
  refine trim_white _ _ _ hf.2 hu.2 (fun c hc => ?_) (fun c hc => ?_)
  · rw [List.head?_eq_getElem?, List.getElem?_drop, Nat.add_zero] at hc
    by_cases hlt : f < u
    · rw [List.getElem?_take_of_lt hlt] at hc
      exact h1 c hlt hc
    · rw [List.getElem?_eq_none (by rw [List.length_take]; omega)] at hc; cases hc
  · rw [List.getLast?_eq_getElem?, List.getElem?_drop] at hc
    by_cases hlt : f < u
    · have hl : ((S.take u).drop f).length = u - f := by rw [List.length_drop, List.length_take, Nat.min_eq_left hu.1]
      rw [hl, show f + (u - f - 1) = u - 1 by omega, List.getElem?_take_of_lt (by omega)] at hc
      exact h2 c hlt hc
    · rw [List.getElem?_eq_none (by rw [List.length_drop, List.length_take]; omega)] at hc; cases hc
end Tx
namespace Tx
theorem extract_eq (s : ByteArray) (f u : Nat) : (⟨((s.data.toList.take u).drop f).toArray⟩ : ByteArray) = s.extract f u := by
  have h : (s.extract f u).data.toList = (s.data.toList.take u).drop f := by simp [List.drop_take]
  rw [← Lib.mk_data (s.extract f u), h]
end Tx

set_option maxHeartbeats 2000000 in
set_option maxRecDepth 100000 in
theorem refTrim_any (s : ByteArray) (w : World) (hs : s.size ≤ 9223372036854775807) :
    Calls Tryd.prog 17 #[.string s] w fun e w' => e = .returned (.string ⟨(Tx.trim s.data.toList).toArray⟩) ∧ ∃ n, w' = w.drewN n := by
  have HS := Lib.hid (Lib.size_eq s)
  go_enter Tryd.func17, Tryd.ntmps17
  go_wp2
  go_loopw [3] (fun kk wr => ∃ k : Nat, kk = .int .i64 k ∧ k ≤ s.size ∧ Hid (Tx.FrontW s.data.toList k) ∧ Hid (∃ n, wr = w.drewN n)) (fun kk _ => s.size - (intOf kk).toNat)
  case atStart => exact ⟨0, rfl, Nat.zero_le _, ⟨Nat.zero_le _, by intro c hc; simp at hc⟩, ⟨0, rfl⟩⟩
  case round =>
    obtain ⟨k, rfl, hk, hf, hwr⟩ := hrel
    by_cases hlt : k < s.size
    · have gS := Tx.get_of s k hlt
      obtain ⟨c, hck⟩ : ∃ c, s[k] = c := ⟨_, rfl⟩
      rw [hck] at gS
      cases hw : Tx.isW c with
      | true =>
        have HW := Lib.hid (fun W => refWhite_to hw W)
        have HX := Lib.hid (hf.out.next gS hw)
        clear gS hw
        go_wp2_with fail
        refine (HW.out _).mono ?_
        rintro e wk ⟨rfl, nk, rfl⟩
        go_wp2
        go_roundw
        case rel => exact ⟨k + 1, by go_num, by omega, HX.out, drews_more hwr.out _⟩
        case measure => simp [intOf] <;> omega
      | false =>
        have HW := Lib.hid (fun W => refWhite_to hw W)
        have HG := Lib.hid gS
        have HK := Lib.hid hw
        clear gS hw
        go_wp2_with fail
        refine (HW.out _).mono ?_
        rintro e wk ⟨rfl, nk, rfl⟩
        have hwr2 := Lib.hid (drews_more hwr.out nk)
        clear hwr
        go_wp2
        obtain ⟨wo, rfl⟩ : ∃ wo : World, wo = wr := ⟨_, rfl⟩
        go_loopw [4] (fun uu wr => ∃ u : Nat, uu = .int .i64 u ∧ k ≤ u ∧ u ≤ s.size ∧ Hid (Tx.BackW s.data.toList u) ∧ Hid (∃ n, wr = w.drewN n)) (fun uu _ => (intOf uu).toNat)
        case atStart => exact ⟨s.size, rfl, by omega, Nat.le_refl _, ⟨by rw [HS.out]; exact Nat.le_refl _, by intro c hc; rw [HS.out, List.drop_length] at hc; cases hc⟩, hwr2.out⟩
        case round =>
          obtain ⟨u, rfl, hku, hus, hbk, hwr⟩ := hrel
          by_cases hlt2 : k < u
          · obtain ⟨v, rfl⟩ : ∃ v, u = v + 1 := ⟨u - 1, by omega⟩
            have hvs : v < s.size := by omega
            have gV := Tx.get_of s v hvs
            obtain ⟨d, hdk⟩ : ∃ d, s[v] = d := ⟨_, rfl⟩
            rw [hdk] at gV
            cases hw : Tx.isW d with
            | true =>
              have HW := Lib.hid (fun W => refWhite_to hw W)
              have HX := Lib.hid (hbk.out.next gV hw)
              clear gV hw
              go_wp2_with fail
              refine (HW.out _).mono ?_
              rintro e wk ⟨rfl, nk, rfl⟩
              go_wp2
              go_roundw
              case rel => exact ⟨v, by go_num, by omega, by omega, HX.out, drews_more hwr.out _⟩
              case measure => simp [intOf] <;> omega
            | false =>
              have HW := Lib.hid (fun W => refWhite_to hw W)
              have hx := Tx.trim_between hf.out hbk.out hku (fun c' h h' => by rw [HG.out] at h'; cases h'; exact HK.out) (fun d' h h' => by rw [show v + 1 - 1 = v by omega, gV] at h'; cases h'; exact hw)
              have HX := Lib.hid hx
              clear gV hw hx
              go_wp2_with fail
              refine (HW.out _).mono ?_
              rintro e wk ⟨rfl, nk, rfl⟩
              go_wp2
              go_ret
              exact ⟨by rw [HX.out, Tx.extract_eq]; first | rfl | simp, drews_more hwr.out _⟩
          · obtain rfl : u = k := by omega
            have hx := Tx.trim_between hf.out hbk.out (Nat.le_refl _) (fun c' h h' => absurd h (Nat.lt_irrefl _)) (fun d' h h' => absurd h (Nat.lt_irrefl _))
            have HX := Lib.hid hx
            clear hx
            go_wp2
            go_ret
            exact ⟨by rw [HX.out, Tx.extract_eq]; first | rfl | simp, hwr.out⟩
    · have hks : k = s.size := by omega
      have hwr2 := hwr
      have HG : Hid (∀ c, s.data.toList[k]? = some c → False) := fun c h => by
        have := (List.getElem?_eq_some_iff.1 h).1
        rw [← HS.out] at this
        omega
      clear hwr
      go_wp2
      obtain ⟨wo, rfl⟩ : ∃ wo : World, wo = wr := ⟨_, rfl⟩
      go_loopw [4] (fun uu wr => uu = .int .i64 s.size ∧ Hid (∃ n, wr = w.drewN n)) (fun uu _ => 0)
      case atStart => exact ⟨rfl, hwr2.out⟩
      case round =>
        obtain ⟨rfl, hwr⟩ := hrel
        have hbk : Tx.BackW s.data.toList s.size := ⟨by rw [HS.out]; exact Nat.le_refl _, by intro c hc; rw [HS.out, List.drop_length] at hc; cases hc⟩
        subst hks
        have hx := Tx.trim_between hf.out hbk (Nat.le_refl _) (fun c' h h' => absurd h (Nat.lt_irrefl _)) (fun d' h h' => absurd h (Nat.lt_irrefl _))
        have HX := Lib.hid hx
        clear hx hbk
        go_wp2
        go_ret
        exact ⟨by rw [HX.out, Tx.extract_eq]; first | rfl | simp, hwr.out⟩
theorem info9 : (Tryd.prog.info? 9).map (fun i => (i.zero, i.size, i.bytes)) = some (some (.string ⟨#[]⟩), 1, 16) := by kernel_rfl
namespace Tx
theorem chop_same (x : List UInt8) (h : x.getLast? ≠ some 13) : chop x = x := by
  unfold chop Lib.trimSuffix
  split
  · rename_i hs
    exfalso
    apply h
    unfold Lib.hasSuffix at hs
    simp at hs
    obtain ⟨p, hp⟩ := hs
    rw [← hp]; simp
  · rfl
end Tx
namespace Tx
theorem chop_cr (x : List UInt8) : chop (x ++ [13]) = x := by
  unfold chop Lib.trimSuffix
  split
  · simp
  · rename_i hs
    exfalso
    apply hs
    unfold Lib.hasSuffix
    simp
end Tx
namespace Tx
theorem lines_len (l : List UInt8) : (lines l).length ≤ l.length := by
  have hg : ∀ (l acc : List UInt8), (linesGo acc l).length ≤ (if acc = [] then 0 else 1) + l.length := by
    intro l
    induction l with
    | nil => intro acc; rw [linesGo]; split <;> simp_all
    | cons c r ih =>
      intro acc
      rw [linesGo]
      split
      · have := ih []
        simp at this ⊢
        omega
      · have := ih (acc ++ [c])
        simp at this ⊢
        omega
  have := hg l []
  simpa [lines] using this
end Tx
namespace Tx
/-- Behind these lines lie the lines from f on; up to i there is no LF. -/
def LinI (S : List UInt8) (done : List (List UInt8)) (f i : Nat) : Prop := f ≤ i ∧ i ≤ S.length ∧ done ++ lines (S.drop f) = lines S ∧ 10 ∉ (S.take i).drop f
end Tx
namespace Tx
theorem take_drop_succ {S : List UInt8} {f i : Nat} {c : UInt8} (hf : f ≤ i) (hc : S[i]? = some c) : (S.take (i + 1)).drop f = (S.take i).drop f ++ [c] := by
  obtain ⟨hi, e⟩ := List.getElem?_eq_some_iff.1 hc
  rw [List.take_succ_eq_append_getElem hi, List.drop_append_of_le_length (by rw [List.length_take]; omega), e]
end Tx
namespace Tx
theorem LinI.next {S : List UInt8} {done : List (List UInt8)} {f i : Nat} {c : UInt8} (h : LinI S done f i) (hc : S[i]? = some c) (hne : c ≠ 10) : LinI S done f (i + 1) := by
  refine ⟨Nat.le_succ_of_le h.1, (List.getElem?_eq_some_iff.1 hc).1, h.2.2.1, ?_⟩
  rw [take_drop_succ h.1 hc]
  intro hm
  rcases List.mem_append.1 hm with hm | hm
  · exact h.2.2.2 hm
  · exact hne (List.mem_singleton.1 hm).symm
end Tx
namespace Tx
theorem LinI.line {S : List UInt8} {done : List (List UInt8)} {f i : Nat} (h : LinI S done f i) (hc : S[i]? = some 10) : LinI S (done ++ [chop ((S.take i).drop f)]) (i + 1) (i + 1) := by
  have hi := (List.getElem?_eq_some_iff.1 hc).1
  have e : S.drop f = (S.take i).drop f ++ 10 :: S.drop (i + 1) := by
    have h1 : S = S.take i ++ S.drop i := (List.take_append_drop i S).symm
    conv => lhs; rw [h1]
    rw [List.drop_append_of_le_length (by rw [List.length_take]; have := h.1; omega), drop_cons hc]
  refine ⟨Nat.le_refl _, hi, ?_, ?_⟩
  · rw [← h.2.2.1, e, lines_at _ _ h.2.2.2]; simp
  · rw [List.drop_of_length_le (by rw [List.length_take]; omega)]; simp
end Tx
namespace Tx
theorem LinI.end_ {S : List UInt8} {done : List (List UInt8)} {f : Nat} (h : LinI S done f S.length) : lines S = if f < S.length then done ++ [S.drop f] else done := by
  have h4 := h.2.2.2
  rw [List.take_length] at h4
  rw [← h.2.2.1]
  by_cases hf : f < S.length
  · rw [if_pos hf, lines_no _ h4 (by intro e; have := congrArg List.length e; rw [List.length_drop, List.length_nil] at this; omega)]
  · rw [if_neg hf, List.drop_of_length_le (by omega), lines_nil, List.append_nil]
end Tx
namespace Tx
theorem chop_span_cr {S : List UInt8} {f i : Nat} (hf : f ≤ i) (hc : S[i]? = some 13) : chop ((S.take (i + 1)).drop f) = (S.take i).drop f := by rw [take_drop_succ hf hc, chop_cr]
end Tx
namespace Tx
theorem chop_span {S : List UInt8} {f i : Nat} {c : UInt8} (hf : f ≤ i) (hc : S[i]? = some c) (hne : c ≠ 13) : chop ((S.take (i + 1)).drop f) = (S.take (i + 1)).drop f := by
  refine chop_same _ ?_
  rw [take_drop_succ hf hc, List.getLast?_append]
  intro e
  exact hne (Option.some.inj e)
end Tx
namespace Tx
theorem chop_span_nil (S : List UInt8) (f : Nat) : chop ((S.take f).drop f) = [] := by
  rw [List.drop_of_length_le (by rw [List.length_take]; omega)]; rfl
end Tx

set_option maxHeartbeats 4000000 in
set_option maxRecDepth 100000 in
theorem refLines_any (s : ByteArray) (w : World) (hs : s.size ≤ 1000000) :
    Calls Tryd.prog 19 #[.string s] w fun e w' => ∃ v, e = .returned v ∧ w'.ownsRow w.heap.size 9 1 v (Tx.lines s.data.toList).length ((Tx.lines s.data.toList).map encStr) ∧ Below w.heap.size w w' := by
  obtain ⟨i0, hi, hz0, hz1, hz2⟩ := info_parts info9
  have HS := Lib.hid (Lib.size_eq s)
  have HL := Lib.hid (show (Tx.lines s.data.toList).length ≤ 1000000 from by have := Tx.lines_len s.data.toList; rw [← Lib.size_eq] at this; omega)
  go_enter Tryd.func19, Tryd.ntmps19
  go_wp2
  go_loopw [3, 4, 5] (fun oo ff ii wr => ∃ (f i : Nat) (done : List (List UInt8)), ff = .int .i64 f ∧ ii = .int .i64 i ∧ f ≤ i ∧ i ≤ s.size ∧ Hid (Tx.LinI s.data.toList done f i) ∧ wr.ownsRow w.heap.size 9 1 oo done.length (done.map encStr) ∧ Below w.heap.size w wr) (fun _ _ ii _ => s.size - (intOf ii).toNat)
  case atStart => exact ⟨0, 0, [], rfl, rfl, Nat.le_refl _, Nat.zero_le _, ⟨Nat.le_refl _, Nat.zero_le _, rfl, by simp⟩, World.ownsRow_nil _ _ _ _, Below.refl _ _⟩
  case round =>
    obtain ⟨f, i, done, rfl, rfl, hfi, hi2, hln, hown, hb⟩ := hrel
    have hdl : done.length ≤ 1000000 := by have h1 := HL.out; rw [← hln.out.2.2.1, List.length_append] at h1; omega
    have hsb := hb.size
    by_cases hlt : i < s.size
    · have gS := Tx.get_of s i hlt
      obtain ⟨c, hck⟩ : ∃ c, s[i] = c := ⟨_, rfl⟩
      rw [hck] at gS
      by_cases hc : c = 10
      · have e1 : ((c.toNat : Int) != 10) = false := by rw [hc]; rfl
        have HX := Lib.hid (hln.out.line (by rw [gS, hc]))
        clear gS hc
        by_cases hf : f = i
        · subst hf
          rw [Tx.chop_span_nil] at HX
          have hdx : encStr (([] : List UInt8)) = .string (ByteArray.empty) := by show Value.string _ = _; rfl
          have HDX := Lib.hid hdx
          clear hdx
          go_wp2_with (at_builtin; go_must (refine wpList_append_own _ rfl _ _ 32 rfl w.heap.size 9 i0 (.string ⟨#[]⟩) 1 16 Tryd.underlying32 hi hz0 hz1 hz2 rfl (by decide) _ _ _ rfl (hown.alloc _) ⟨wr.heap.size, 0, none⟩ 1 1 [.string (ByteArray.empty)] rfl rfl ?c1 ?c2 ?c3 ?c4 ?c5 ?_))
          case c1 => exact cell_one_new _ _ _
          case c2 => simp [Value.oneCell']
          case c3 => unfold maxLen; omega
          case c4 => omega
          case c5 => simp; omega
          intro v' w1 hown' hgrow _
          have hb1 : Below w.heap.size w w1 := (hb.alloc (by first | omega | (simp; omega)) _).grown hgrow (by simp; omega) (fun k e => (hown.lt k e).1)
          go_wp2
          go_roundw
          case rel => exact ⟨f + 1, f + 1, done ++ [([] : List UInt8)], by go_num, by go_num, Nat.le_refl _, by omega, HX.out, by rw [List.length_append, List.map_append, List.map_cons, List.map_nil, HDX.out]; show w1.ownsRow _ _ _ _ (done.length + 1) _; exact hown', hb1⟩
          case measure => simp [intOf]; omega
        · obtain ⟨j, rfl⟩ : ∃ j, i = j + 1 := ⟨i - 1, by omega⟩
          have hfj : f ≤ j := by omega
          have hjs : j < s.size := by omega
          have gJ := Tx.get_of s j hjs
          obtain ⟨d, hdk⟩ : ∃ d, s[j] = d := ⟨_, rfl⟩
          rw [hdk] at gJ
          by_cases hd : d = 13
          · have e2 : ((d.toNat : Int) == 13) = true := by rw [hd]; rfl
            rw [Tx.chop_span_cr hfj (by rw [gJ, hd])] at HX
            clear gJ hd
            have hdx : encStr ((s.data.toList.take j).drop f) = .string (s.extract f j) := by show Value.string _ = _; rw [Tx.extract_eq]
            have HDX := Lib.hid hdx
            clear hdx
            go_wp2_with (at_builtin; go_must (refine wpList_append_own _ rfl _ _ 32 rfl w.heap.size 9 i0 (.string ⟨#[]⟩) 1 16 Tryd.underlying32 hi hz0 hz1 hz2 rfl (by decide) _ _ _ rfl (hown.alloc _) ⟨wr.heap.size, 0, none⟩ 1 1 [.string (s.extract f j)] rfl rfl ?c1 ?c2 ?c3 ?c4 ?c5 ?_))
            case c1 => exact cell_one_new _ _ _
            case c2 => simp [Value.oneCell']
            case c3 => unfold maxLen; omega
            case c4 => omega
            case c5 => simp; omega
            intro v' w1 hown' hgrow _
            have hb1 : Below w.heap.size w w1 := (hb.alloc (by first | omega | (simp; omega)) _).grown hgrow (by simp; omega) (fun k e => (hown.lt k e).1)
            go_wp2
            go_roundw
            case rel => exact ⟨j + 1 + 1, j + 1 + 1, done ++ [(s.data.toList.take j).drop f], by go_num, by go_num, Nat.le_refl _, by omega, HX.out, by rw [List.length_append, List.map_append, List.map_cons, List.map_nil, HDX.out]; show w1.ownsRow _ _ _ _ (done.length + 1) _; exact hown', hb1⟩
            case measure => simp [intOf]; omega
          · have e2 : ((d.toNat : Int) == 13) = false := by
              rw [beq_eq_false_iff_ne]; intro e; exact hd (by rw [← UInt8.toNat_inj]; simp; omega)
            rw [Tx.chop_span hfj gJ hd] at HX
            clear gJ hd
            have hdx : encStr ((s.data.toList.take (j + 1)).drop f) = .string (s.extract f (j + 1)) := by show Value.string _ = _; rw [Tx.extract_eq]
            have HDX := Lib.hid hdx
            clear hdx
            go_wp2_with (at_builtin; go_must (refine wpList_append_own _ rfl _ _ 32 rfl w.heap.size 9 i0 (.string ⟨#[]⟩) 1 16 Tryd.underlying32 hi hz0 hz1 hz2 rfl (by decide) _ _ _ rfl (hown.alloc _) ⟨wr.heap.size, 0, none⟩ 1 1 [.string (s.extract f (j + 1))] rfl rfl ?c1 ?c2 ?c3 ?c4 ?c5 ?_))
            case c1 => exact cell_one_new _ _ _
            case c2 => simp [Value.oneCell']
            case c3 => unfold maxLen; omega
            case c4 => omega
            case c5 => simp; omega
            intro v' w1 hown' hgrow _
            have hb1 : Below w.heap.size w w1 := (hb.alloc (by first | omega | (simp; omega)) _).grown hgrow (by simp; omega) (fun k e => (hown.lt k e).1)
            go_wp2
            go_roundw
            case rel => exact ⟨j + 1 + 1, j + 1 + 1, done ++ [(s.data.toList.take (j + 1)).drop f], by go_num, by go_num, Nat.le_refl _, by omega, HX.out, by rw [List.length_append, List.map_append, List.map_cons, List.map_nil, HDX.out]; show w1.ownsRow _ _ _ _ (done.length + 1) _; exact hown', hb1⟩
            case measure => simp [intOf]; omega
      · have e1 : ((c.toNat : Int) != 10) = true := by
          rw [bne_iff_ne]; intro e; exact hc (by rw [← UInt8.toNat_inj]; simp; omega)
        have HX := Lib.hid (hln.out.next gS hc)
        clear gS hc
        go_wp2
        go_roundw
        case rel => exact ⟨f, i + 1, done, rfl, by go_num, by omega, by omega, HX.out, hown, hb⟩
        case measure => simp [intOf]; omega
    · have his : i = s.size := by omega
      subst his
      have hE := hln.out
      rw [HS.out] at hE
      have hend := hE.end_
      rw [← HS.out] at hend
      by_cases hf : f < s.size
      · rw [if_pos hf] at hend
        have HE := Lib.hid hend
        clear hend hE
        have hdx : encStr (s.data.toList.drop f) = .string (s.extract f s.size) := by show Value.string _ = _; rw [← Tx.extract_eq, List.take_of_length_le (by rw [← HS.out]; exact Nat.le_refl _)]
        have HDX := Lib.hid hdx
        clear hdx
        go_wp2_with (at_builtin; go_must (refine wpList_append_own _ rfl _ _ 32 rfl w.heap.size 9 i0 (.string ⟨#[]⟩) 1 16 Tryd.underlying32 hi hz0 hz1 hz2 rfl (by decide) _ _ _ rfl (hown.alloc _) ⟨wr.heap.size, 0, none⟩ 1 1 [.string (s.extract f s.size)] rfl rfl ?c1 ?c2 ?c3 ?c4 ?c5 ?_))
        case c1 => exact cell_one_new _ _ _
        case c2 => simp [Value.oneCell']
        case c3 => unfold maxLen; omega
        case c4 => omega
        case c5 => simp; omega
        intro v' w1 hown' hgrow _
        have hb1 : Below w.heap.size w w1 := (hb.alloc (by omega) _).grown hgrow (by simp; omega) (fun k e => (hown.lt k e).1)
        go_wp2
        go_ret
        refine ⟨_, rfl, ?_, hb1⟩
        rw [HE.out, List.length_append, List.map_append, List.map_cons, List.map_nil, HDX.out]
        show w1.ownsRow _ _ _ _ (done.length + 1) _
        exact hown'
      · rw [if_neg hf] at hend
        have HE := Lib.hid hend
        clear hend hE
        go_wp2
        go_ret
        exact ⟨_, rfl, by rw [HE.out]; exact hown, hb⟩

theorem row_shape {w : World} {base : Nat} {e : TypeId} {size : Nat} {v : Value} {n : Nat} {xs : List Value} (h : w.ownsRow base e size v n xs) : ∃ a cap, v = .slice a n cap := by
  rcases h.2 with ⟨rfl, rfl⟩ | ⟨g, cap, _, rfl, _⟩
  · exact ⟨_, _, rfl⟩
  · exact ⟨_, _, rfl⟩
theorem row_some {w : World} {base : Nat} {e : TypeId} {v : Value} {n : Nat} {xs : List Value} (h : w.ownsRow base e 1 v n xs) (hn : 0 < n) :
    ∃ g cap, v = .slice (some ⟨g, 0, none⟩) n cap ∧ base ≤ g ∧ g < w.heap.size ∧ ∀ (j : Nat) (u : Value), xs[j]? = some u → w.cell? ⟨g, j, none⟩ = some u := by
  have hx := h.1
  rcases h.2 with ⟨_, h0⟩ | ⟨g, cap, cur, rfl, hb, hg, _, _, _, ht⟩
  · omega
  · refine ⟨g, cap, rfl, hb, (Array.getElem?_eq_some_iff.1 hg).1, fun j u hu => ?_⟩
    have hj : j < xs.length := (List.getElem?_eq_some_iff.1 hu).1
    have : cur[j]? = some u := by
      rw [← ht, List.getElem?_take_of_lt (by omega)] at hu
      simpa using hu
    simp [World.cell?, hg, this]
/-- A value that holds just these strings. -/
structure RowOf (W : World) (v : Value) (xa : Option Addr) (b off cap : Nat) (X : List (List UInt8)) : Prop where
  is : v = .slice xa X.length cap
  at_ : 0 < X.length → xa = some ⟨b, off, none⟩
  cell : ∀ (j : Nat) (x : List UInt8), X[j]? = some x → W.cell? ⟨b, off + j, none⟩ = some (encStr x)
  lt : 0 < X.length → b < W.heap.size
theorem RowOf.below {W W' : World} {v : Value} {xa : Option Addr} {b off cap : Nat} {X : List (List UInt8)} (h : RowOf W v xa b off cap X) (hb : Below W.heap.size W W') : RowOf W' v xa b off cap X :=
  ⟨h.is, h.at_, fun j x hj => by
    have hp : 0 < X.length := by have := (List.getElem?_eq_some_iff.1 hj).1; omega
    exact (hb.cell (p := ⟨b, off + j, none⟩) (h.lt hp)).trans (h.cell j x hj), fun hp => Nat.lt_of_lt_of_le (h.lt hp) hb.size⟩
theorem rowOf_own {W : World} {base : Nat} {v : Value} {X : List (List UInt8)} (h : W.ownsRow base 9 1 v X.length (X.map encStr)) : ∃ xa b cap, RowOf W v xa b 0 cap X := by
  by_cases hn : 0 < X.length
  · obtain ⟨g, cap, rfl, _, hg, hc⟩ := row_some h hn
    refine ⟨_, g, cap, rfl, fun _ => rfl, fun j x hj => ?_, fun _ => hg⟩
    rw [Nat.zero_add]
    exact hc j _ (by rw [List.getElem?_map, hj]; rfl)
  · obtain ⟨a, cap, rfl⟩ := row_shape h
    refine ⟨a, 0, cap, rfl, fun h => absurd h hn, fun j x hj => ?_, fun h => absurd h hn⟩
    exact absurd (List.getElem?_eq_some_iff.1 hj).1 (by omega)
/-- A value that holds just these bytes, the call's own. -/
theorem add_plain0 (g j : Nat) : (⟨g, 0, none⟩ : Addr).add j = ⟨g, j, none⟩ := by
  unfold Addr.add
  split <;> simp_all
def BytesOf (w : World) (base : Nat) (v : Value) (l : List UInt8) : Prop := w.ownsRow base 5 1 v l.length (Lib.byteCells l)
theorem BytesOf.back {w : World} {base : Nat} {v : Value} {l : List UInt8} (h : BytesOf w base v l) : (convert 29 9 v).run Tryd.prog w = .ok (.string ⟨l.toArray⟩) w := by
  by_cases hn : 0 < l.length
  · obtain ⟨g, cap, rfl, _, hg, hc⟩ := row_some h hn
    have := run_convert_bytes_back (P := Tryd.prog) w 29 9 5 ⟨g, 0, none⟩ cap l Tryd.underlying29 Tryd.underlying5 Tryd.underlying9 (fun j hj => by
      rw [add_plain0]
      exact hc j _ (by unfold Lib.byteCells; rw [List.getElem?_map, List.getElem?_eq_getElem hj]; rfl))
    exact this
  · have hl : l = [] := List.eq_nil_of_length_eq_zero (by omega)
    subst hl
    rcases h.2 with ⟨rfl, _⟩ | ⟨g, cap, cur, rfl, _⟩
    · exact run_convert_bytes_nil (P := Tryd.prog) w 29 5 Tryd.underlying29 Tryd.underlying5 0 0 9 Tryd.underlying9
    · exact run_convert_bytes_back (P := Tryd.prog) w 29 9 5 ⟨g, 0, none⟩ cap [] Tryd.underlying29 Tryd.underlying5 Tryd.underlying9 (fun j hj => absurd hj (Nat.not_lt_zero _))
theorem flat_len : ∀ (X : List (List UInt8)) (m : Nat), (∀ x ∈ X, x.length ≤ m) → X.flatten.length ≤ X.length * m
  | [], _, _ => by simp
  | x :: X, m, h => by
    have h1 := flat_len X m (fun y hy => h y (by simp [hy]))
    have h2 := h x (by simp)
    rw [List.flatten_cons, List.length_append, List.length_cons, Nat.add_mul]
    omega
/-- The first k texts, one behind the other. -/
def flatK (X : List (List UInt8)) (k : Nat) : List UInt8 := (X.take k).flatten
theorem flatK_succ {X : List (List UInt8)} {k : Nat} (h : k < X.length) : flatK X (k + 1) = flatK X k ++ X[k] := by
  unfold flatK
  rw [List.take_succ_eq_append_getElem h, List.flatten_append, List.flatten_cons, List.flatten_nil, List.append_nil]
theorem flatK_all {X : List (List UInt8)} {k : Nat} (h : X.length ≤ k) : flatK X k = X.flatten := by unfold flatK; rw [List.take_of_length_le h]
theorem flatK_len {X : List (List UInt8)} {k m : Nat} (h : ∀ x ∈ X, x.length ≤ m) : (flatK X k).length ≤ k * m := by
  unfold flatK
  exact Nat.le_trans (flat_len _ m (fun x hx => h x (List.mem_of_mem_take hx))) (Nat.mul_le_mul_right _ (by rw [List.length_take]; omega))
set_option maxRecDepth 100000 in
set_option maxHeartbeats 4000000 in
theorem refJoin0_any (xa : Option Addr) (b off cap : Nat) (X : List (List UInt8)) (w : World) (hr : RowOf w (.slice xa X.length cap) xa b off cap X) (hl : X.length ≤ 300) (hz : ∀ x ∈ X, x.length ≤ 300) :
    Calls Tryd.prog 18 #[.slice xa X.length cap, .string ⟨#[]⟩] w fun e w' => e = .returned (.string ⟨(X.flatten).toArray⟩) ∧ Below w.heap.size w w' := by
  obtain ⟨i0, hi, hz0, hz1, hz2⟩ := info_parts infoU
  have HR := Lib.hid hr
  have HZ := Lib.hid hz
  clear hr hz
  obtain ⟨SP, hSP⟩ : ∃ SP : ByteArray, (⟨#[]⟩ : ByteArray) = SP := ⟨_, rfl⟩
  have hSs : SP.size = 0 := by rw [← hSP]; rfl
  have hSl : Hid (Lib.strCells SP = []) := by show _ = _; rw [← hSP]; rfl
  rw [hSP]
  clear hSP
  go_enter Tryd.func18, Tryd.ntmps18
  go_wp2
  go_loopw [5, 6] (fun bb i wr => ∃ k : Nat, i = .int .i64 k ∧ k ≤ X.length ∧ Hid (BytesOf wr w.heap.size bb (flatK X k)) ∧ Below w.heap.size w wr) (fun _ i _ => X.length - (intOf i).toNat)
  case atStart => exact ⟨0, rfl, Nat.zero_le _, World.ownsRow_nil _ _ _ _, Below.refl _ _⟩
  case round =>
    obtain ⟨k, rfl, hk, hun, hb⟩ := hrel
    by_cases hlt : k < X.length
    · obtain rfl := HR.out.at_ (by omega)
      obtain ⟨y, hy⟩ : ∃ y : ByteArray, encStr X[k] = .string y := ⟨_, rfl⟩
      have hyl : y.data.toList = X[k] := by
        have : (⟨X[k].toArray⟩ : ByteArray) = y := by injection hy
        rw [← this]
      have hys : y.size ≤ 300 := by rw [Lib.size_eq, hyl]; exact HZ.out _ (List.getElem_mem hlt)
      have HC : Hid (∀ W, Below w.heap.size w W → W.cell? ⟨b, off + k, none⟩ = some (.string y)) := fun W hW => by
        rw [← hy]
        exact (hW.cell (p := ⟨b, off + k, none⟩) (HR.out.lt (by omega))).trans (HR.out.cell k _ (List.getElem?_eq_getElem hlt))
      have hcl : (flatK X k).length ≤ 300 * 300 := by
        exact Nat.le_trans (flatK_len (fun x hx => HZ.out x hx)) (Nat.mul_le_mul_right _ (by omega))
      have hown := hun.out
      have hsb := hb.size
      by_cases hk0 : k = 0
      · subst hk0
        have htk : Hid (flatK X (0 + 1) = y.data.toList) := by
          show _ = _
          rw [flatK_succ hlt, hyl]; rfl
        have c0 := HC.out wr hb
        rw [Nat.add_zero] at c0
        have hown0 : wr.ownsRow w.heap.size 5 1 _ 0 [] := hown
        clear hy hyl hun hown
        go_wp2_with (at_builtin; go_must (refine Lib.wpList_append_own_string _ rfl _ _ 29 9 rfl w.heap.size 5 i0 Tryd.underlying29 Tryd.underlying9 hi hz0 hz1 hz2 _ _ _ rfl hown0 y rfl ?a1 ?a2 hsb ?_))
        case a1 => unfold maxLen; omega
        case a2 => omega
        intro v1 z1 hown1 hg1 _
        have hb1 : Below w.heap.size w z1 := hb.grown hg1 hsb (fun k e => (hown0.lt k e).1)
        have hsb1 := hb1.size
        have HN : Hid (BytesOf z1 w.heap.size v1 (flatK X (0 + 1))) := by
          show z1.ownsRow _ _ _ _ _ _
          rw [htk.out, ← Lib.size_eq]
          have h2 := hown1
          exact h2
        clear hown1 hg1 hb
        go_wp2
        go_roundw
        case rel => exact ⟨0 + 1, by go_num, by omega, HN.out, hb1⟩
        case measure => simp [intOf]; omega
      · have htk : Hid (flatK X (k + 1) = flatK X k ++ y.data.toList) := by
          show _ = _
          rw [flatK_succ hlt, hyl]
        have hkp : decide ((0 : Int) < (k : Int)) = true := decide_eq_true (by omega)
        clear hy hyl hun
        go_wp2_with (at_builtin; go_must (refine Lib.wpList_append_own_string _ rfl _ _ 29 9 rfl w.heap.size 5 i0 Tryd.underlying29 Tryd.underlying9 hi hz0 hz1 hz2 _ _ _ rfl hown SP rfl ?a1 ?a2 hsb ?_))
        case a1 => unfold maxLen; omega
        case a2 => omega
        intro v1 z1 hown1 hg1 _
        have hb1 : Below w.heap.size w z1 := hb.grown hg1 hsb (fun k e => (hown.lt k e).1)
        have hsb1 := hb1.size
        have c0 := HC.out z1 hb1
        have hown1 : z1.ownsRow w.heap.size 5 1 v1 (flatK X k).length (Lib.byteCells (flatK X k)) := by
          have h2 := hown1
          rw [hSl.out, List.append_nil] at h2
          exact h2
        clear hown hg1 hb
        go_wp2_with (at_builtin; go_must (refine Lib.wpList_append_own_string _ rfl _ _ 29 9 rfl w.heap.size 5 i0 Tryd.underlying29 Tryd.underlying9 hi hz0 hz1 hz2 _ _ _ rfl hown1 y rfl ?a1 ?a2 hsb1 ?_))
        case a1 => unfold maxLen; omega
        case a2 => omega
        intro v2 z2 hown2 hg2 _
        have hb2 : Below w.heap.size w z2 := hb1.grown hg2 hsb1 (fun k e => (hown1.lt k e).1)
        have hsb2 := hb2.size
        have HN : Hid (BytesOf z2 w.heap.size v2 (flatK X (k + 1))) := by
          show z2.ownsRow _ _ _ _ _ _
          rw [htk.out, Lib.byteCells_append, List.length_append, ← Lib.size_eq]
          exact hown2
        clear hown1 hown2 hg2 hb1
        go_wp2
        go_roundw
        case rel => exact ⟨k + 1, by go_num, by omega, HN.out, hb2⟩
        case measure => simp [intOf]; omega
    · have hX := hun.out
      rw [flatK_all (show X.length ≤ k by omega)] at hX
      have hback := hX.back
      clear hX hun
      go_wp2
      go_ret
      exact ⟨rfl, hb⟩
end Go.Proofs.YtehnjoggilomfaaDoor
