/-
  missivelaw08.CharsetEncodes.
-/
import Derived.Test.YtdkocjdhekomoaaGreatDoorHEsP
import Derived.Test.YtdkocjdhekomoaaGreatDoorHFi
namespace Go.Proofs.YtdkocjdhekomoaaGreatDoor
open Go Go.RowKit Go.Shelf
theorem fields_row {s : ByteArray} {L : List (List UInt8)} (hL : Tx.words s.data.toList = L) (hs : s.size ≤ 1000000) (w : World) :
    Calls Tryz.prog 22 #[.string s] w fun e w' => (∃ xa n cap, e = .returned (.slice xa n cap) ∧ Hid (RowAt w' xa n cap L)) ∧ Below w.heap.size w w' :=
  (fields_any s w hs).mono fun _ _ ⟨v, a, h, hb⟩ => by
    rw [hL] at h
    obtain ⟨xa, b, cap, rfl, hv⟩ := SOwn.row (X := L) h
    exact ⟨⟨xa, _, cap, a, Lib.hid ⟨b, rfl, hv⟩⟩, hb⟩
theorem count_flat : ∀ X : List (List UInt8), (∀ p ∈ X, p ≠ []) → X.length ≤ X.flatten.length
  | [], _ => Nat.le_refl _
  | p :: r, h => by
    have h1 := List.length_pos_iff.2 (h p (by simp))
    have h2 := count_flat r fun q hq => h q (by simp [hq])
    simp only [List.length_cons, List.flatten_cons, List.length_append]; omega
theorem encode_len (l : List UInt8) (h : l.length ≤ 2000) : (Ch.encode l).length ≤ 700000 := by
  rcases Ch.encode_cases l with ⟨_, h2, _⟩ | ⟨_, h2, h3, h4⟩
  · rw [h2]; omega
  · rw [h2]
    have h5 := Tx.joinSp_len ((Ch.parts (Ch.repair l)).map Ch.codedWord) 75 (fun x hx => by
      obtain ⟨p, hp, rfl⟩ := List.mem_map.1 hx
      exact (Ch.coded_len72 (h4 p hp).1 (h4 p hp).2.1).1)
    have h6 := count_flat _ fun p hp => (h4 p hp).1
    rw [h3] at h6
    have h7 := Ch.repair_len _ l (Nat.le_refl _)
    rw [List.length_map] at h5
    omega
theorem flat_next {X : List (List UInt8)} {k : Nat} {p : List UInt8} (h : X[k]? = some p) : (X.take (k + 1)).flatten = (X.take k).flatten ++ p := by
  rw [List.take_add_one, h]; simp
set_option maxHeartbeats 16000000 in
set_option maxRecDepth 100000 in
theorem encodes_law (s : ByteArray) (w : World) (hE : EnvH w) (hs : s.size ≤ 9223372036854775807) :
    Calls Tryz.prog 6 #[.string s] w fun e w' => e = .returned (.bool true) ∧ Below w.heap.size w w' := by
  have HSm := Lib.hid (small_any w hE)
  have E0 := Lib.hid hE
  clear hE
  by_cases h2 : 2000 < (s.size : Int)
  · go_enter Tryz.func6, Tryz.ntmps6
    go_wp2_with (go_at_call 9; refine HSm.out.mono ?_; rintro e w1 ⟨rfl, hB1⟩)
    go_ret
    exact ⟨rfl, hB1⟩
  have hle : s.size ≤ 2000 := by omega
  have j1 : (s.size : Int) ≤ 2000 := by omega
  have hel := encode_len s.data.toList (by rw [← Lib.size_eq]; exact hle)
  have hrl := Ch.repair_len _ s.data.toList (Nat.le_refl _)
  rw [← Lib.size_eq] at hrl
  have HEn := Lib.hid (fun W h => encode_to (s := s) rfl (by omega) W h)
  have HRe := Lib.hid (fun W => repair_to (s := s) rfl (by omega) W)
  have hchars := Ch.encode_chars s.data.toList
  have hwe := Ch.words_encode s.data.toList
  have hcas := Lib.hid (Ch.encode_cases s.data.toList)
  obtain ⟨T, hT⟩ : ∃ T : ByteArray, (⟨(Ch.encode s.data.toList).toArray⟩ : ByteArray) = T := ⟨_, rfl⟩
  obtain ⟨R, hR⟩ : ∃ R : ByteArray, (⟨(Ch.repair s.data.toList).toArray⟩ : ByteArray) = R := ⟨_, rfl⟩
  have hTl : T.data.toList = Ch.encode s.data.toList := by rw [← hT]
  have hRl : R.data.toList = Ch.repair s.data.toList := by rw [← hR]
  have hTs : T.size ≤ 700000 := by rw [Lib.size_eq, hTl]; exact hel
  have HWo := Lib.hid (fun W h => words_to (s := T) (o := Ch.repair s.data.toList) (by rw [hTl]; exact hwe) (by omega) W h)
  rw [hT] at HEn
  rw [hR] at HRe HWo
  rw [← hTl] at hchars
  have HTl := Lib.hid hTl
  have HRl := Lib.hid hRl
  have HCh := Lib.hid hchars
  have r1 : (R.toList == R.toList) = true := by simp
  clear hel hrl hchars hwe hT hR hTl hRl h2
  go_enter Tryz.func6, Tryz.ntmps6
  go_wp2_with (first
    | (go_at_call 9; refine HSm.out.mono ?_; rintro e w1 ⟨rfl, hB1⟩; have E1 := Lib.hid (E0.out.new hB1))
    | (go_at_call 20; refine (HEn.out _ E1.out).mono ?_; rintro e w2 ⟨rfl, hB2⟩; have T2 := hB1.trans (hB2.mono hB1.size); have E2 := Lib.hid (E1.out.new hB2))
    | (go_at_call 18; refine (HWo.out _ E2.out).mono ?_; rintro e w3 ⟨rfl, hB3⟩; have T3 := T2.trans (hB3.mono T2.size); have E3 := Lib.hid (E2.out.new hB3))
    | (go_at_call 16; refine (HRe.out _).mono ?_; rintro e w4 ⟨rfl, hB4⟩; have T4 := T3.trans (hB4.mono T3.size); have E4 := Lib.hid (E3.out.new hB4)))
  go_loopw [5] (fun i wr => ∃ k : Nat, i = .int .i64 k ∧ k ≤ T.size ∧ wr = w4) (fun i _ => T.size - (intOf i).toNat)
  case atStart => exact ⟨0, rfl, Nat.zero_le _, rfl⟩
  case round =>
    obtain ⟨k, rfl, hk, rfl⟩ := hrel
    by_cases hlt : k < T.size
    · have hg := Tx.get_of T k hlt
      obtain ⟨c, hc⟩ : ∃ c, T[k] = c := ⟨_, rfl⟩
      rw [hc] at hg
      have hcc := HCh.out c (List.mem_of_getElem? hg)
      rw [Bool.and_eq_true, decide_eq_true_eq, decide_eq_true_eq, UInt8.le_iff_toNat_le, UInt8.le_iff_toNat_le] at hcc
      have i1 : ¬ ((c.toNat : Int) < 32) := by have := hcc.1; simp at this; omega
      have i2 : ¬ ((126 : Int) < (c.toNat : Int)) := by have := hcc.2; simp at this; omega
      clear hcc hg
      go_wp2
      exact ⟨⟨k + 1, by go_num, by omega, (by first | rfl | trivial)⟩, by simp [intOf]; omega⟩
    · obtain rfl : k = T.size := by omega
      obtain ⟨v, hv⟩ : ∃ v, (T.data.toList == s.data.toList) = v := ⟨_, rfl⟩
      have q1 := same_to hv
      cases v with
      | true =>
        clear hv
        go_wp2
        go_ret
        exact ⟨rfl, T4⟩
      | false =>
        rcases hcas.out with ⟨_, h2, _⟩ | ⟨_, h2, h3, h4⟩
        · rw [HTl.out, h2] at hv; simp at hv
        · obtain ⟨X, hX⟩ : ∃ X, Ch.parts (Ch.repair s.data.toList) = X := ⟨_, rfl⟩
          rw [hX] at h2 h3 h4
          have hcnt := count_flat X fun p hp => (h4 p hp).1
          have hrl := Ch.repair_len _ s.data.toList (Nat.le_refl _)
          rw [← Lib.size_eq, ← h3] at hrl
          have hXl : X.length ≤ 1000000 := by omega
          have HFi := Lib.hid (fun W => fields_row (s := T) (L := X.map Ch.codedWord) (by rw [HTl.out, h2]; exact Ch.encode_fields h4) (by omega) W)
          have HG := Lib.hid h4
          have H3 := Lib.hid h3
          clear hv h2 h3 h4 hX
          go_wp2_with (go_at_call 22; refine (HFi.out _).mono ?_; rintro e w5 ⟨⟨xa, n, cap, rfl, hrow⟩, hB5⟩; have T5 := T4.trans (hB5.mono T4.size))
          obtain ⟨b, rfl, hLv⟩ := hrow.out
          have HLv := Lib.hid hLv
          clear hrow hLv
          rw [List.length_map]
          go_loopw [7, 8] (fun v i wr => ∃ (k : Nat) (Wh : ByteArray), v = .string Wh ∧ i = .int .i64 k ∧ k ≤ X.length ∧ Below w.heap.size w wr ∧ Below w5.heap.size w5 wr ∧ Hid (Wh.data.toList = (X.take k).flatten)) (fun _ i _ => X.length - (intOf i).toNat)
          case atStart => exact ⟨0, ⟨#[]⟩, rfl, rfl, Nat.zero_le _, T5, Below.refl _ _, rfl⟩
          case round =>
            obtain ⟨k, Wh, rfl, rfl, hk, hBr, hB5r, hWh⟩ := hrel
            by_cases hlt : k < X.length
            · obtain ⟨p, hp⟩ : ∃ p, X[k]? = some p := ⟨_, List.getElem?_eq_getElem hlt⟩
              have hgp := HG.out p (List.mem_of_getElem? hp)
              obtain ⟨hl1, hl2⟩ := Ch.coded_len72 hgp.1 hgp.2.1
              have hw1 := Ch.words_one hgp
              have hxa := HLv.out.at_ (by rw [List.length_map]; omega)
              subst hxa
              obtain ⟨Y, hY⟩ : ∃ Y : ByteArray, (⟨(Ch.codedWord p).toArray⟩ : ByteArray) = Y := ⟨_, rfl⟩
              obtain ⟨P, hP⟩ : ∃ P : ByteArray, (⟨p.toArray⟩ : ByteArray) = P := ⟨_, rfl⟩
              have hYl : Y.data.toList = Ch.codedWord p := by rw [← hY]
              have hPl : P.data.toList = p := by rw [← hP]
              have hcell : ∀ W, Below w5.heap.size w5 W → W.cell? ⟨b, k, none⟩ = some (.string Y) := fun W hW => by
                have h1 := (HLv.out.below hW).cell k (by rw [List.length_map]; exact hlt)
                rw [Nat.zero_add, List.getD_eq_getElem?_getD, List.getElem?_map, hp] at h1
                rw [h1, ← hY]; rfl
              have hc0 := hcell wr hB5r
              have HC := Lib.hid hcell
              have Er := Lib.hid (E0.out.below hBr E0.out.size)
              have hY75 : Y.size ≤ 75 := by rw [Lib.size_eq, hYl]; exact hl1
              have i75 : ¬ ((75 : Int) < (Y.size : Int)) := by omega
              have HW1 := Lib.hid (fun W h => words_to (s := Y) (o := p) (by rw [hYl]; exact hw1) (by omega) W h)
              rw [hP] at HW1
              have hPs : P.size ≤ 45 := by rw [Lib.size_eq, hPl]; exact hgp.2.1
              have HV1 := Lib.hid (fun W h => valid_to (s := P) (o := true) (by rw [hPl]; exact hgp.2.2) (by omega) W h)
              have q2 : (P.toList == Y.toList) = false := same_to (by
                rw [hPl, hYl, beq_eq_false_iff_ne]
                intro e; rw [← e] at hl2; omega)
              have hWs : Wh.size ≤ 1000000 := by
                rw [Lib.size_eq, hWh.out]
                have h1 : (X.take k).flatten.length ≤ X.flatten.length := by
                  conv => rhs; rw [← List.take_append_drop k X, List.flatten_append, List.length_append]
                  omega
                omega
              have HN : Hid ((Wh ++ P).data.toList = (X.take (k + 1)).flatten) := Lib.hid (by
                rw [flat_next hp, ← hWh.out]
                simp [← hPl])
              clear hp hgp hl1 hl2 hw1 hY hP hYl hPl hcell hWh hcnt hrl
              go_wp2_with (go_at_call 18; refine (HW1.out _ Er.out).mono ?_; rintro e w6 ⟨rfl, hB6⟩; have T6 := hBr.trans (hB6.mono hBr.size); have B6 := hB5r.trans (hB6.mono hB5r.size); have E6 := Lib.hid (Er.out.new hB6); have hc6 := HC.out w6 B6)
              go_wp2_with (go_at_call 12; refine (HV1.out _ E6.out).mono ?_; rintro e w7 ⟨rfl, hB7⟩; have T7 := T6.trans (hB7.mono T6.size); have B7 := B6.trans (hB7.mono B6.size))
              go_roundw
              case rel => exact ⟨k + 1, Wh ++ P, rfl, by go_num, by omega, T7, B7, HN.out⟩
              case measure => simp [intOf]; omega
            · obtain rfl : k = X.length := by omega
              have q3 : (Wh.toList == R.toList) = true := same_to (by rw [hWh.out, List.take_length, HRl.out, H3.out]; simp)
              clear hWh
              go_wp2_with (go_at_call 16; refine (HRe.out _).mono ?_; rintro e w6 ⟨rfl, hB6⟩; have T6 := hBr.trans (hB6.mono hBr.size))
              go_ret
              exact ⟨rfl, T6⟩
end Go.Proofs.YtdkocjdhekomoaaGreatDoor
