/-
  The reference's Fields.
-/
import Derived.Test.YtpigplnnmhjbkaaDoorRefTrim
namespace Go.Proofs.YtpigplnnmhjbkaaDoor
open Go Go.RowKit Go.Shelf
namespace Tx
/-- Behind these words lie the words from i on. -/
def FldI (S : List UInt8) (done : List (List UInt8)) (i : Nat) : Prop := i ≤ S.length ∧ done ++ words (S.drop i) = words S
theorem FldI.white {S : List UInt8} {done : List (List UInt8)} {i : Nat} {c : UInt8} (h : FldI S done i) (hc : S[i]? = some c) (hw : isW c = true) : FldI S done (i + 1) := by
  refine ⟨(List.getElem?_eq_some_iff.1 hc).1, ?_⟩
  rw [← h.2, drop_cons hc, words_white c _ hw]
/-- From i to k no byte is white. -/
def SpanI (S : List UInt8) (i k : Nat) : Prop := i ≤ k ∧ k ≤ S.length ∧ ∀ c ∈ (S.take k).drop i, isW c = false
theorem SpanI.next {S : List UInt8} {i k : Nat} {c : UInt8} (h : SpanI S i k) (hc : S[k]? = some c) (hw : isW c = false) : SpanI S i (k + 1) := by
  obtain ⟨hk, e⟩ := List.getElem?_eq_some_iff.1 hc
  refine ⟨Nat.le_succ_of_le h.1, hk, fun d hd => ?_⟩
  rw [List.take_succ_eq_append_getElem hk, List.drop_append_of_le_length (by rw [List.length_take]; have := h.1; omega)] at hd
  rcases List.mem_append.1 hd with hd | hd
  · exact h.2.2 d hd
  · obtain rfl := List.mem_singleton.1 hd; rw [e]; exact hw
theorem FldI.word {S : List UInt8} {done : List (List UInt8)} {i k : Nat} (h : FldI S done i) (hs : SpanI S i k) (hik : i < k) (he : ∀ c, S[k]? = some c → isW c = true) : FldI S (done ++ [(S.take k).drop i]) k := by
  refine ⟨hs.2.1, ?_⟩
  have e : S.drop i = (S.take k).drop i ++ S.drop k := by
    have h1 : S = S.take k ++ S.drop k := (List.take_append_drop k S).symm
    conv => lhs; rw [h1]
    rw [List.drop_append_of_le_length (by rw [List.length_take]; have := hs.2.1; omega)]
  have hne : (S.take k).drop i ≠ [] := by
    intro e'
    have := congrArg List.length e'
    rw [List.length_drop, List.length_take, List.length_nil] at this
    have := hs.2.1
    omega
  rw [← h.2, e, words_split _ _ hne hs.2.2 (fun c r hcr => he c (by
    have : (S.drop k)[0]? = some c := by rw [hcr]; rfl
    rwa [List.getElem?_drop, Nat.add_zero] at this))]
  simp
end Tx

theorem row_same {w w' : World} {base : Nat} {e : TypeId} {size : Nat} {v : Value} {n : Nat} {xs : List Value} (h : w.ownsRow base e size v n xs) (hw : ∃ k, w' = w.drewN k) : w'.ownsRow base e size v n xs := by
  obtain ⟨k, rfl⟩ := hw
  exact row_drews h k

set_option maxHeartbeats 4000000 in
set_option maxRecDepth 100000 in
theorem refFields_any (s : ByteArray) (w : World) (hs : s.size ≤ 1000000) :
    Calls Tryd.prog 28 #[.string s] w fun e w' => ∃ v, e = .returned v ∧ w'.ownsRow w.heap.size 9 1 v (Tx.words s.data.toList).length ((Tx.words s.data.toList).map encStr) ∧ Below w.heap.size w w' := by
  obtain ⟨i0, hi, hz0, hz1, hz2⟩ := info_parts info9
  have HS := Lib.hid (Lib.size_eq s)
  have HL := Lib.hid (show (Tx.words s.data.toList).length ≤ 1000000 from by have := Tx.words_len s.data.toList; rw [← Lib.size_eq] at this; omega)
  go_enter Tryd.func28, Tryd.ntmps28
  go_wp2
  go_loopw [3, 4] (fun oo ii wr => ∃ (i : Nat) (done : List (List UInt8)), ii = .int .i64 i ∧ i ≤ s.size ∧ Hid (Tx.FldI s.data.toList done i) ∧ wr.ownsRow w.heap.size 9 1 oo done.length (done.map encStr) ∧ Below w.heap.size w wr) (fun _ ii _ => s.size - (intOf ii).toNat)
  case atStart => exact ⟨0, [], rfl, Nat.zero_le _, ⟨Nat.zero_le _, rfl⟩, World.ownsRow_nil _ _ _ _, Below.refl _ _⟩
  case round =>
    obtain ⟨i, done, rfl, hi2, hfl, hown, hb⟩ := hrel
    by_cases hlt : i < s.size
    · have gS := Tx.get_of s i hlt
      obtain ⟨c, hck⟩ : ∃ c, s[i] = c := ⟨_, rfl⟩
      rw [hck] at gS
      have hdl : done.length ≤ 1000000 := by have h1 := HL.out; rw [← hfl.out.2, List.length_append] at h1; omega
      cases hw : Tx.isW c with
      | true =>
        have HW := Lib.hid (fun W => refWhite_to hw W)
        have HX := Lib.hid (hfl.out.white gS hw)
        clear gS hw
        go_wp2_with fail
        refine (HW.out _).mono ?_
        rintro e wk ⟨rfl, nk, rfl⟩
        go_wp2
        go_roundw
        case rel => exact ⟨i + 1, done, by go_num, by omega, HX.out, row_drews hown _, below_drews hb _⟩
        case measure => simp [intOf]; omega
      | false =>
        have HW := Lib.hid (fun W => refWhite_to hw W)
        have HG := Lib.hid gS
        have HK := Lib.hid hw
        have HO := Lib.hid hown
        have HB := Lib.hid hb
        clear gS hw hown hb
        go_wp2_with fail
        refine (HW.out _).mono ?_
        rintro e wk ⟨rfl, nk, rfl⟩
        clear HW
        go_wp2
        obtain ⟨wo, rfl⟩ : ∃ wo : World, wo = wr := ⟨_, rfl⟩
        go_loopw [5] (fun kk wr => ∃ k : Nat, kk = .int .i64 k ∧ k ≤ s.size ∧ Hid (Tx.SpanI s.data.toList i k) ∧ Hid (∃ n, wr = wo.drewN n)) (fun kk _ => s.size - (intOf kk).toNat)
        case atStart => exact ⟨i, rfl, by omega, ⟨Nat.le_refl _, by rw [← HS.out]; omega, by intro c hc; rw [List.drop_of_length_le (by rw [List.length_take]; omega)] at hc; cases hc⟩, ⟨nk, rfl⟩⟩
        case round =>
          obtain ⟨k, rfl, hk, hsp, hwr⟩ := hrel
          have hik := hsp.out.1
          by_cases hlt2 : k < s.size
          · have gK := Tx.get_of s k hlt2
            obtain ⟨d, hdk⟩ : ∃ d, s[k] = d := ⟨_, rfl⟩
            rw [hdk] at gK
            cases hw : Tx.isW d with
            | false =>
              have HW := Lib.hid (fun W => refWhite_to hw W)
              have HX := Lib.hid (hsp.out.next gK hw)
              clear gK hw
              go_wp2_with fail
              refine (HW.out _).mono ?_
              rintro e wk ⟨rfl, nk, rfl⟩
              go_wp2
              go_roundw
              case rel => exact ⟨k + 1, by go_num, by omega, HX.out, drews_more hwr.out _⟩
              case measure => simp [intOf]; omega
            | true =>
              have HW := Lib.hid (fun W => refWhite_to hw W)
              have hne : i < k := by
                rcases Nat.lt_or_ge i k with h | h
                · exact h
                · exfalso
                  have hki : k = i := by omega
                  subst hki
                  have h1 := HG.out
                  rw [gK] at h1
                  have h2 := HK.out
                  cases h1
                  rw [hw] at h2
                  cases h2
              have HX := Lib.hid (hfl.out.word hsp.out hne (fun c' h' => by rw [gK] at h'; cases h'; exact hw))
              clear gK hw
              go_wp2_with fail
              refine (HW.out _).mono ?_
              rintro e wk ⟨rfl, nk, rfl⟩
              clear HW
              have hown := row_same HO.out hwr.out
              have hb : Below w.heap.size w wr := by obtain ⟨n0, h⟩ := hwr.out; rw [h]; exact below_drews HB.out n0
              have hdx : encStr ((s.data.toList.take k).drop i) = .string (s.extract i k) := by show Value.string _ = _; rw [Tx.extract_eq]
              have HDX := Lib.hid hdx
              clear hdx hwr
              have hsb := hb.size
              go_wp2_with (at_builtin; go_must (refine wpList_append_own _ rfl _ _ 22 rfl w.heap.size 9 i0 (.string ⟨#[]⟩) 1 16 Tryd.underlying22 hi hz0 hz1 hz2 rfl (by decide) _ _ _ rfl ((row_drews hown nk).alloc _) ⟨wr.heap.size, 0, none⟩ 1 1 [.string (s.extract i k)] rfl rfl ?c1 ?c2 ?c3 ?c4 ?c5 ?_))
              case c1 => exact cell_one_new _ _ _
              case c2 => simp [Value.oneCell']
              case c3 => unfold maxLen; omega
              case c4 => omega
              case c5 => simp; omega
              intro v' w1 hown' hgrow _
              have hb1 : Below w.heap.size w w1 := ((below_drews hb nk).alloc (by first | omega | (simp; omega)) _).grown hgrow (by simp; omega) (fun k e => (hown.lt k e).1)
              go_wp2
              go_roundw
              case rel => exact ⟨k, done ++ [(s.data.toList.take k).drop i], rfl, hk, HX.out, by rw [List.length_append, List.map_append, List.map_cons, List.map_nil, HDX.out]; show w1.ownsRow _ _ _ _ (done.length + 1) _; exact hown', hb1⟩
              case measure => simp [intOf]; omega
          · have hks : k = s.size := by omega
            have HX := Lib.hid (hfl.out.word hsp.out (by omega) (fun c' h' => by have := (List.getElem?_eq_some_iff.1 h').1; rw [← HS.out] at this; omega))
            have hne : i < k := by omega
            subst hks
            have hown := row_same HO.out hwr.out
            have hb : Below w.heap.size w wr := by obtain ⟨n0, h⟩ := hwr.out; rw [h]; exact below_drews HB.out n0
            have hdx : encStr ((s.data.toList.take s.size).drop i) = .string (s.extract i s.size) := by show Value.string _ = _; rw [Tx.extract_eq]
            have HDX := Lib.hid hdx
            clear hdx hwr
            have hsb := hb.size
            go_wp2_with (at_builtin; go_must (refine wpList_append_own _ rfl _ _ 22 rfl w.heap.size 9 i0 (.string ⟨#[]⟩) 1 16 Tryd.underlying22 hi hz0 hz1 hz2 rfl (by decide) _ _ _ rfl (hown.alloc _) ⟨wr.heap.size, 0, none⟩ 1 1 [.string (s.extract i s.size)] rfl rfl ?c1 ?c2 ?c3 ?c4 ?c5 ?_))
            case c1 => exact cell_one_new _ _ _
            case c2 => simp [Value.oneCell']
            case c3 => unfold maxLen; omega
            case c4 => omega
            case c5 => simp; omega
            intro v' w1 hown' hgrow _
            have hb1 : Below w.heap.size w w1 := (hb.alloc (by first | omega | (simp; omega)) _).grown hgrow (by simp; omega) (fun k e => (hown.lt k e).1)
            go_wp2
            go_roundw
            case rel => exact ⟨s.size, done ++ [(s.data.toList.take s.size).drop i], rfl, hk, HX.out, by rw [List.length_append, List.map_append, List.map_cons, List.map_nil, HDX.out]; show w1.ownsRow _ _ _ _ (done.length + 1) _; exact hown', hb1⟩
            case measure => simp [intOf]; omega
    · have hie : i = s.size := by omega
      have hdn : done = Tx.words s.data.toList := by
        rw [← hfl.out.2, List.drop_of_length_le (by rw [← HS.out]; omega), Tx.words_nil, List.append_nil]
      have HD := Lib.hid hdn
      clear hdn
      go_wp2
      go_ret
      exact ⟨_, rfl, by rw [← HD.out]; exact hown, hb⟩
end Go.Proofs.YtpigplnnmhjbkaaDoor
