/-
  charset.Words.
-/
import Derived.Test.YtdkocjdhekomoaaGreatDoorHWf
namespace Go.Proofs.YtdkocjdhekomoaaGreatDoor
open Go Go.RowKit Go.Shelf
theorem drop_mk (s : ByteArray) (k : Nat) : s.extract k s.size = ⟨(s.data.toList.drop k).toArray⟩ := by
  rw [← extract_end, Lib.mk_data]
theorem span_mk (s : ByteArray) (f u : Nat) : s.extract f u = ⟨((s.data.toList.take u).drop f).toArray⟩ := by
  rw [← extract_eq, Lib.mk_data]
theorem span_next {S : List UInt8} {f i : Nat} {c : UInt8} (hf : f ≤ i) (hc : S[i]? = some c) : (S.take (i + 1)).drop f = (S.take i).drop f ++ [c] := by
  have hl : i < S.length := (List.getElem?_eq_some_iff.1 hc).1
  rw [List.take_add_one, hc, List.drop_append_of_le_length (by rw [List.length_take]; omega)]
  rfl
theorem span_empty (S : List UInt8) (f : Nat) : (S.take f).drop f = [] := by
  apply List.drop_eq_nil_of_le
  rw [List.length_take]; exact Nat.min_le_left _ _
/-- What has been written, the gap since, and what is still to be read. -/
def Wd (S out : List UInt8) (done at_ : Nat) (b : Bool) : Prop := out ++ Ch.wordsG ((S.take at_).drop done) b (S.drop at_) = Ch.words S
theorem Wd.start (S : List UInt8) : Wd S [] 0 0 false := by unfold Wd; simp [Ch.words, Ch.wordsG]
theorem Wd.next {S out : List UInt8} {done k : Nat} {b : Bool} (h : Wd S out done k b) (hd : done ≤ k) (hk : k < S.length) (hs : Ch.sound (S.drop k) = none) : Wd S out done (k + 1) b := by
  unfold Wd at h ⊢
  have hc : S[k]? = some S[k] := List.getElem?_eq_getElem hk
  rw [List.drop_eq_getElem_cons hk] at h hs
  rw [Ch.wordsG_no hs] at h
  rw [span_next hd hc]
  exact h
theorem Wd.word {S out : List UInt8} {done k : Nat} {b : Bool} {t rest : List UInt8} (h : Wd S out done k b) (hs : Ch.sound (S.drop k) = some (t, rest)) :
    k + ((S.drop k).length - rest.length) ≤ S.length ∧ k < k + ((S.drop k).length - rest.length) ∧
    Wd S (out ++ (if b && ((S.take k).drop done).all Tx.isW then [] else (S.take k).drop done) ++ t) (k + ((S.drop k).length - rest.length)) (k + ((S.drop k).length - rest.length)) true := by
  have hr := (Ch.sound_rest hs).2
  have hd := Ch.sound_drop hs
  have hl : (S.drop k).length = S.length - k := List.length_drop
  refine ⟨by omega, by omega, ?_⟩
  unfold Wd at h ⊢
  rw [Ch.wordsG_yes hs] at h
  rw [span_empty, ← List.drop_drop, ← hd]
  simpa [List.append_assoc] using h
theorem Wd.end_ {S out : List UInt8} {done : Nat} {b : Bool} (h : Wd S out done S.length b) : Ch.words S = out ++ S.drop done := by
  unfold Wd at h
  rw [List.drop_length, Ch.wordsG_nil, List.take_length] at h
  exact h.symm
namespace Ch
theorem repair_len : ∀ (n : Nat) (l : List UInt8), l.length ≤ n → (repair l).length ≤ 4 * l.length
  | 0, l, h => by
    have : l = [] := List.eq_nil_of_length_eq_zero (by omega)
    subst this; simp [repair_nil]
  | n + 1, l, h => by
    by_cases hne : l = []
    · subst hne; simp [repair_nil]
    · have hw := Lib.decodeL_width l
      have hl : 0 < l.length := List.length_pos_iff.2 hne
      have hd : (l.drop (Lib.decodeL l).2).length = l.length - (Lib.decodeL l).2 := List.length_drop
      have := repair_len n (l.drop (Lib.decodeL l).2) (by omega)
      have := rune_le4 ((Lib.decodeL l).1 : Int)
      have hle := Lib.decodeL_le l hne
      rw [repair_step l hne, List.length_append]
      omega
theorem textIn_len (n d : List UInt8) : (textIn n d).length ≤ 4 * d.length := by
  unfold textIn
  have h1 := repair_len _ d (Nat.le_refl _)
  have h2 := mapB_len gA d
  have h3 := mapB_len gL d
  have h4 := mapB_len gW d
  split
  · exact h1
  · split
    · exact h2
    · split
      · exact h3
      · split
        · exact h4
        · exact h1
theorem sound_len {l t rest : List UInt8} (h : sound l = some (t, rest)) : t.length ≤ 4 * l.length := by
  obtain ⟨r, rfl, hm⟩ := sound_some h
  obtain ⟨d, _, _, hd, _, rfl⟩ := meant_some hm
  have h1 := textIn_len (Tx.lowL (front r)) d
  have h2 := decode_len hd
  have h3 := front_len (back (back r))
  have h4 := back_len (back r)
  have h5 := back_len r
  simp only [List.length_cons]
  omega
end Ch
/-- What may have been written when k bytes are read. -/
def capL (k : Nat) : Nat := k * 10000000
theorem capL_max {o k : Nat} (h : o ≤ capL k) (hk : k ≤ 1000000) : o ≤ 10000000000000 := by unfold capL at h; omega
theorem capL_next {o k : Nat} (h : o ≤ capL k) : o ≤ capL (k + 1) := Nat.le_trans h (Nat.mul_le_mul_right _ (Nat.le_succ k))
theorem capL_two {o k n : Nat} {G T : ByteArray} {g : List UInt8} {t : List UInt8} (ho : g.length = o) (h : o ≤ capL k) (hn : k < k + n) (hG : G.size ≤ 1000000) (hT : T.size = t.length) (ht : t.length ≤ 4000000) : (g ++ G.data.toList ++ T.data.toList).length ≤ capL (k + n) := by
  rw [List.length_append, List.length_append, ← Lib.size_eq, ← Lib.size_eq]
  unfold capL at h ⊢
  omega
theorem capL_one {o k n : Nat} {T : ByteArray} {g : List UInt8} {t : List UInt8} (ho : g.length = o) (h : o ≤ capL k) (hn : k < k + n) (hT : T.size = t.length) (ht : t.length ≤ 4000000) : (g ++ T.data.toList).length ≤ capL (k + n) := by
  rw [List.length_append, ← Lib.size_eq]
  unfold capL at h ⊢
  omega
theorem isE (X : ByteArray) (l : List UInt8) (h : (⟨(Tx.trim l).toArray⟩ : ByteArray) = X) : (X.toList == []) = l.all Tx.isW ∧ X.toList.isEmpty = l.all Tx.isW := by
  subst h
  rw [Lib.toList_data, mk_list, ← Ch.trim_is]
  refine ⟨rfl, ?_⟩
  cases Tx.trim l <;> rfl
theorem retS {l m : List UInt8} (h : l = m) : Ending.returned (.string ⟨l.toArray⟩) = .returned (.string ⟨m.toArray⟩) := by rw [h]

set_option maxHeartbeats 8000000 in
set_option maxRecDepth 100000 in
theorem words_any (s : ByteArray) (hs : s.size ≤ 1000000) (w : World) (hE : EnvH w) :
    Calls Tryz.prog 18 #[.string s] w fun e w' => e = .returned (.string ⟨(Ch.words s.data.toList).toArray⟩) ∧ Below w.heap.size w w' := by
  have HF := Lib.hid (Bld.fresh w)
  have E0 := Lib.hid hE
  clear hE
  obtain ⟨bb, hb⟩ : ∃ bb, w.heap.size = bb := ⟨_, rfl⟩
  have HS := Lib.hid hb
  go_enter Tryz.func18, Tryz.ntmps18
  go_wp2
  go_loopw [4, 5, 6] (fun d b a wr => ∃ (done k : Nat) (bv : Bool) (out : List UInt8), d = .int .i64 done ∧ b = .bool bv ∧ a = .int .i64 k ∧ done ≤ k ∧ k ≤ s.size ∧ Hid (Wd s.data.toList out done k bv) ∧ out.length ≤ capL k ∧ Bld bb bb out wr ∧ Below bb w wr) (fun _ _ a _ => s.size - (intOf a).toNat)
  case atStart => exact ⟨0, 0, false, [], rfl, rfl, rfl, Nat.le_refl _, Nat.zero_le _, Wd.start _, Nat.zero_le _, by rw [← hb]; exact HF.out, by rw [← hb]; exact (Below.refl _ w).alloc (Nat.le_refl _) _⟩
  case round =>
    obtain ⟨done, k, bv, out, rfl, rfl, rfl, hdk, hk, hW, hol, hBl, hBe⟩ := hrel
    clear hb HF
    have hsz : bb ≤ wr.heap.size := by have := hBe.size; have := HS.out; omega
    have hmax := capL_max hol (by omega)
    by_cases hlt : k < s.size
    · have hlS : k < s.data.toList.length := by rw [← Lib.size_eq]; exact hlt
      have Er := Lib.hid (E0.out.below hBe (by rw [← HS.out]; exact E0.out.size))
      have HSW := Lib.hid (fun W hE => soundWord_any (s.data.toList.drop k) (by rw [List.length_drop, ← Lib.size_eq]; omega) W hE)
      rw [← drop_mk] at HSW
      cases hsd : Ch.sound (s.data.toList.drop k) with
      | none =>
        rw [hsd] at HSW
        have HN := Lib.hid (hW.out.next hdk hlS hsd)
        rw [snd_none rfl] at HSW
        clear hsd hlS hW
        go_wp2_with (go_at_call 40; refine (HSW.out _ Er.out).mono ?_; rintro e w1 ⟨rfl, hB1⟩)
        go_roundw
        case rel => exact ⟨done, k + 1, bv, out, rfl, rfl, by go_num, by omega, by omega, HN.out, capL_next hol, bld_below hBl hB1, hBe.trans (hB1.mono hsz)⟩
        case measure => simp [intOf]; omega
      | some x =>
        obtain ⟨t, rest⟩ := x
        rw [hsd] at HSW
        have hw := hW.out.word hsd
        have htl := Ch.sound_len hsd
        have hn0 : (s.data.toList.drop k).length = s.size - k := by rw [List.length_drop, ← Lib.size_eq]
        rw [← Lib.size_eq] at hw
        rw [snd_some rfl] at HSW
        rw [hn0] at hw HSW htl
        obtain ⟨n, hn⟩ : ∃ n, s.size - k - rest.length = n := ⟨_, rfl⟩
        rw [hn] at hw HSW
        obtain ⟨hw1, hw2, hw3⟩ := hw
        have n0 : ((n : Int) == 0) = false := by rw [beq_eq_false_iff_ne]; omega
        have n1 : ¬ ((n : Int) = 0) := by omega
        have htz : t.length ≤ 4000000 := by omega
        have hgl : ((s.data.toList.take k).drop done).length ≤ k - done := by rw [List.length_drop, List.length_take]; omega
        rw [← extract_eq] at hw3 hgl
        obtain ⟨G, hG⟩ : ∃ G, s.extract done k = G := ⟨_, rfl⟩
        have HT := Lib.hid (fun W => trimT_any G (by rw [Lib.size_eq, ← hG]; omega) W)
        obtain ⟨T, hT⟩ : ∃ T : ByteArray, (⟨t.toArray⟩ : ByteArray) = T := ⟨_, rfl⟩
        have hTl : T.data.toList = t := by rw [← hT]
        have hTs : T.size = t.length := by rw [← hT, mk_len]
        have hGs : G.size ≤ k - done := by rw [← hG, Lib.size_eq]; exact hgl
        rw [hT] at HSW
        rw [hG, ← hTl] at hw3
        have HG := Lib.hid hG
        clear hsd hlS hW hn hn0 htl hgl hT hTl hG
        cases bv with
        | false =>
          have HN : Hid (Wd s.data.toList (out ++ G.data.toList ++ T.data.toList) (k + n) (k + n) true) := Lib.hid (by simpa using hw3)
          clear hw3 HT
          have hGx := HG.out
          clear HG
          go_wp2_with (first
            | (go_at_call 41; refine (ws_any bb bb _ T _ hBl2 (by rw [List.length_append, ← Lib.size_eq]; omega) hs2).mono ?_; rintro e w3 ⟨rfl, hBl3, hB3, -⟩)
            | (go_at_call 41; refine (ws_any bb bb _ G _ hBl1 (by omega) hs1).mono ?_; rintro e w2 ⟨rfl, hBl2, hB2, -⟩; have hs2 := Nat.le_trans hs1 hB2.size)
            | (go_at_call 40; refine (HSW.out _ Er.out).mono ?_; rintro e w1 ⟨rfl, hB1⟩; have hBl1 := bld_below hBl hB1; have hs1 := Nat.le_trans hsz hB1.size))
          go_roundw
          case rel => exact ⟨k + n, k + n, true, _, by go_num, rfl, by go_num, Nat.le_refl _, hw1, HN.out, capL_two rfl hol hw2 (by omega) hTs htz, hBl3, ((hBe.trans (hB1.mono hsz)).trans hB2).trans hB3⟩
          case measure => simp [intOf]; omega
        | true =>
          obtain ⟨X, hX⟩ : ∃ X : ByteArray, (⟨(Tx.trim G.data.toList).toArray⟩ : ByteArray) = X := ⟨_, rfl⟩
          obtain ⟨x1, x2⟩ := isE X _ hX
          rw [hX] at HT
          clear hX
          have hGx := HG.out
          clear HG
          cases hall : G.data.toList.all Tx.isW with
          | true =>
            rw [hall] at x1 x2 hw3
            have HN : Hid (Wd s.data.toList (out ++ T.data.toList) (k + n) (k + n) true) := Lib.hid (by simpa using hw3)
            clear hw3 hall
            go_wp2_with (first
              | (go_at_call 41; refine (ws_any bb bb _ T _ hBl2 (by omega) hs2).mono ?_; rintro e w3 ⟨rfl, hBl3, hB3, -⟩)
              | (go_at_call 23; refine (HT.out _).mono ?_; rintro e w2 ⟨rfl, hB2⟩; have hBl2 := bld_below hBl1 hB2; have hs2 := Nat.le_trans hs1 hB2.size)
              | (go_at_call 40; refine (HSW.out _ Er.out).mono ?_; rintro e w1 ⟨rfl, hB1⟩; have hBl1 := bld_below hBl hB1; have hs1 := Nat.le_trans hsz hB1.size))
            go_roundw
            case rel => exact ⟨k + n, k + n, true, _, by go_num, rfl, by go_num, Nat.le_refl _, hw1, HN.out, capL_one rfl hol hw2 hTs htz, hBl3, ((hBe.trans (hB1.mono hsz)).trans (hB2.mono hs1)).trans hB3⟩
            case measure => simp [intOf]; omega
          | false =>
            rw [hall] at x1 x2 hw3
            have HN : Hid (Wd s.data.toList (out ++ G.data.toList ++ T.data.toList) (k + n) (k + n) true) := Lib.hid (by simpa using hw3)
            clear hw3 hall
            go_wp2_with (first
              | (go_at_call 41; refine (ws_any bb bb _ T _ hBl3 (by rw [List.length_append, ← Lib.size_eq]; omega) hs3).mono ?_; rintro e w4 ⟨rfl, hBl4, hB4, -⟩)
              | (go_at_call 41; refine (ws_any bb bb _ G _ hBl2 (by omega) hs2).mono ?_; rintro e w3 ⟨rfl, hBl3, hB3, -⟩; have hs3 := Nat.le_trans hs2 hB3.size)
              | (go_at_call 23; refine (HT.out _).mono ?_; rintro e w2 ⟨rfl, hB2⟩; have hBl2 := bld_below hBl1 hB2; have hs2 := Nat.le_trans hs1 hB2.size)
              | (go_at_call 40; refine (HSW.out _ Er.out).mono ?_; rintro e w1 ⟨rfl, hB1⟩; have hBl1 := bld_below hBl hB1; have hs1 := Nat.le_trans hsz hB1.size))
            go_roundw
            case rel => exact ⟨k + n, k + n, true, _, by go_num, rfl, by go_num, Nat.le_refl _, hw1, HN.out, capL_two rfl hol hw2 (by omega) hTs htz, hBl4, (((hBe.trans (hB1.mono hsz)).trans (hB2.mono hs1)).trans hB3).trans hB4⟩
            case measure => simp [intOf]; omega
    · obtain rfl : k = s.size := by omega
      have hE := hW.out
      rw [Lib.size_eq] at hE
      have HE := Lib.hid hE.end_
      rw [← extract_end] at HE
      have hGs : (s.extract done s.size).size ≤ s.size := by rw [Lib.size_eq, extract_end, List.length_drop, ← Lib.size_eq]; omega
      obtain ⟨G, hG⟩ : ∃ G, s.extract done s.size = G := ⟨_, rfl⟩
      rw [hG] at HE hGs
      clear hE hW
      go_wp2_with (first
        | (go_at_call 41; refine (ws_any bb bb _ G _ hBl (by omega) hsz).mono ?_; rintro e w2 ⟨rfl, hBl2, hB2, -⟩; have hs2 := Nat.le_trans hsz hB2.size)
        | (go_at_call 39; refine (str_any bb bb _ _ hBl2 hs2).mono ?_; rintro e w3 ⟨rfl, hB3, -⟩))
      go_ret
      exact ⟨retS HE.out.symm, by rw [HS.out]; exact (hBe.trans hB2).trans hB3⟩
end Go.Proofs.YtdkocjdhekomoaaGreatDoor
