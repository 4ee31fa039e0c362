/-
  The reference's writers: digits, Num, Int, Text, Nums, Texts.
-/
import Derived.Test.YthknahghmlfegaaDoorWWr
import Derived.Lib.ConvBytes
namespace Go.Proofs.YthknahghmlfegaaDoor
open Go Go.RowKit Go.Shelf

theorem one_back (w : World) (c : UInt8) : (convert 64 9 (.slice (some ⟨w.heap.size, 0, none⟩) 1 1)).run Tryd.prog (w.alloc (.cells #[.int .u8 (c.toNat : Int)] 5)) = .ok (.string ⟨#[c]⟩) (w.alloc (.cells #[.int .u8 (c.toNat : Int)] 5)) :=
  run_convert_bytes_back (P := Tryd.prog) _ 64 9 5 ⟨w.heap.size, 0, none⟩ 1 [c] Tryd.underlying64 Tryd.underlying5 Tryd.underlying9 (fun j hj => by
    obtain rfl : j = 0 := by simpa using hj
    exact cell_one_new w (.int .u8 (c.toNat : Int)) 5 0 _ rfl)
theorem neg_tmod (u : Nat) : (-(u : Int)).tmod 10 = -((u % 10 : Nat) : Int) := by rw [Int.neg_tmod, Int.tmod_eq_emod_of_nonneg (by omega)]; omega
theorem neg_tdiv (u : Nat) : (-(u : Int)).tdiv 10 = -((u / 10 : Nat) : Int) := by rw [Int.neg_tdiv, Int.tdiv_eq_ediv_of_nonneg (by omega)]; omega

set_option maxHeartbeats 1000000 in
set_option maxRecDepth 100000 in
theorem dig_one (u : Nat) (h10 : u < 10) (n : Int) (hn : n = -(u : Int)) (w : World) :
    Calls Tryd.prog 43 #[.int .i64 n] w fun e w' => e = .returned (.string ⟨#[UInt8.ofNat (48 + u % 10)]⟩) ∧ Below w.heap.size w w' := by
  obtain ⟨r, hr⟩ : ∃ r, n.tmod 10 = r := ⟨_, rfl⟩
  have hrv : r = -((u % 10 : Nat) : Int) := by rw [← hr, hn, neg_tmod]
  have hb := one_back w (UInt8.ofNat (48 + u % 10))
  have hc : ((UInt8.ofNat (48 + u % 10)).toNat : Int) = 48 - r := by rw [Wr.digit_nat (u % 10) (by omega)]; omega
  rw [hc] at hb
  have hr1 : -9 ≤ r := by omega
  have hr2 : r ≤ 0 := by omega
  have hn1 : -10 < n := by omega
  have hn2 : n ≤ 0 := by omega
  generalize UInt8.ofNat (48 + u % 10) = c at hb ⊢
  clear hc hrv hn
  go_enter Tryd.func43, Tryd.ntmps43
  go_wp2
  go_ret
  exact ⟨rfl, (Below.refl _ w).alloc (Nat.le_refl _) _⟩

set_option maxHeartbeats 1000000 in
set_option maxRecDepth 100000 in
theorem dig_more (u : Nat) (h10 : ¬ u < 10) (hu : u ≤ 9223372036854775808) (n : Int) (hn : n = -(u : Int)) (S : ByteArray) (hS : S.size ≤ 30)
    (ih : Hid (∀ (z : Int) (W : World), z = -((u / 10 : Nat) : Int) → Calls Tryd.prog 43 #[.int .i64 z] W fun e w' => e = .returned (.string S) ∧ Below W.heap.size W w')) (w : World) :
    Calls Tryd.prog 43 #[.int .i64 n] w fun e w' => e = .returned (.string (S ++ ⟨#[UInt8.ofNat (48 + u % 10)]⟩)) ∧ Below w.heap.size w w' := by
  obtain ⟨r, hr⟩ : ∃ r, n.tmod 10 = r := ⟨_, rfl⟩
  have hrv : r = -((u % 10 : Nat) : Int) := by rw [← hr, hn, neg_tmod]
  obtain ⟨q, hq⟩ : ∃ q, n.tdiv 10 = q := ⟨_, rfl⟩
  have hqv : q = -((u / 10 : Nat) : Int) := by rw [← hq, hn, neg_tdiv]
  have hb := one_back w (UInt8.ofNat (48 + u % 10))
  have hc : ((UInt8.ofNat (48 + u % 10)).toNat : Int) = 48 - r := by rw [Wr.digit_nat (u % 10) (by omega)]; omega
  rw [hc] at hb
  have hr1 : -9 ≤ r := by omega
  have hr2 : r ≤ 0 := by omega
  have hn1 : n ≤ -10 := by omega
  have hq1 : -922337203685477581 ≤ q := by omega
  have hq2 : q ≤ 0 := by omega
  have HQV := Lib.hid hqv
  generalize UInt8.ofNat (48 + u % 10) = c at hb ⊢
  have hcs : (⟨#[c]⟩ : ByteArray).size = 1 := rfl
  obtain ⟨C, hC⟩ : ∃ C : ByteArray, (⟨#[c]⟩ : ByteArray) = C := ⟨_, rfl⟩
  rw [hC] at hb hcs ⊢
  have hcs2 : C.size ≤ 1 := by omega
  clear hc hrv hqv hn hC hcs
  go_enter Tryd.func43, Tryd.ntmps43
  go_wp2_with fail
  refine (ih.out q _ HQV.out).mono ?_
  rintro e w1 ⟨rfl, hB⟩
  go_wp2
  go_ret
  exact ⟨rfl, ((Below.refl _ w).alloc (Nat.le_refl _) _).trans (hB.mono (by simp))⟩

theorem dig_any (u : Nat) : u ≤ 9223372036854775808 → ∀ (n : Int) (w : World), n = -(u : Int) →
    Calls Tryd.prog 43 #[.int .i64 n] w fun e w' => e = .returned (.string ⟨(Lib.decDigits u).toArray⟩) ∧ Below w.heap.size w w' := by
  induction u using Nat.strongRecOn with
  | _ u ih =>
    intro hu n w hn
    by_cases h10 : u < 10
    · have hd : Lib.decDigits u = [UInt8.ofNat (48 + u % 10)] := by rw [Lib.decDigits, dif_pos h10, Nat.mod_eq_of_lt h10]
      rw [hd]
      exact dig_one u h10 n hn w
    · have hs : (⟨(Lib.decDigits (u / 10)).toArray⟩ : ByteArray).size ≤ 30 := by
        rw [Wr.bs_len]
        have := Wr.dec_len_le 19 (u / 10) (by have : (10 : Nat) ^ 20 = 100000000000000000000 := by decide
                                              omega)
        omega
      have hd : (⟨(Lib.decDigits (u / 10)).toArray⟩ : ByteArray) ++ ⟨#[UInt8.ofNat (48 + u % 10)]⟩ = ⟨(Lib.decDigits u).toArray⟩ := by
        apply ByteArray.ext; apply Array.ext'
        conv => rhs; rw [Lib.decDigits, dif_neg h10]
        simp
      refine (dig_more u h10 hu n hn _ hs (fun z W hz => ih (u / 10) (by omega) (by omega) z W hz) w).mono fun e w' ⟨h1, h2⟩ => ⟨by rw [h1, hd], h2⟩

set_option maxHeartbeats 1000000 in
set_option maxRecDepth 100000 in
theorem rint_any (n : Int) (hn : Wr.i64 n) (w : World) :
    Calls Tryd.prog 14 #[.int .i64 n] w fun e w' => e = .returned (.string ⟨(Wr.encInt n).toArray⟩) ∧ Below w.heap.size w w' := by
  obtain ⟨h1, h2⟩ := hn
  have hl := Wr.dec_len_le 18 n.natAbs (by have : (10 : Nat) ^ 19 = 10000000000000000000 := by decide
                                           omega)
  obtain ⟨D, hD⟩ : ∃ D : ByteArray, (⟨(Lib.decDigits n.natAbs).toArray⟩ : ByteArray) = D := ⟨_, rfl⟩
  have hDs : D.size ≤ 19 := by rw [← hD, Wr.bs_len]; exact hl
  have hDl : D.data.toList = Lib.decDigits n.natAbs := by rw [← hD]
  by_cases h0 : n < 0
  · have H := Lib.hid (fun W => dig_any n.natAbs (by omega) n W (by omega))
    rw [hD] at H
    have he : Hid (Wr.encInt n = 45 :: (D.data.toList ++ [59])) := by show _ = _; unfold Wr.encInt Lib.itoa; rw [if_pos h0, hDl]; rfl
    clear hl hD hDl
    go_enter Tryd.func14, Tryd.ntmps14
    go_wp2_with fail
    refine (H.out _).mono ?_
    rintro e w1 ⟨rfl, hB⟩
    go_wp2
    go_ret
    exact ⟨ret_str (by rw [he.out]; apply ByteArray.ext; apply Array.ext'; simp), hB⟩
  · have H := Lib.hid (fun z W (hz : z = -n) => dig_any n.natAbs (by omega) z W (by omega))
    rw [hD] at H
    have he : Hid (Wr.encInt n = D.data.toList ++ [59]) := by
      show _ = _; unfold Wr.encInt Lib.itoa; rw [if_neg h0, hDl, show n.toNat = n.natAbs from by omega]
    clear hl hD hDl
    go_enter Tryd.func14, Tryd.ntmps14
    go_wp2_with fail
    refine (H.out _ _ rfl).mono ?_
    rintro e w1 ⟨rfl, hB⟩
    go_wp2
    go_ret
    exact ⟨ret_str (by rw [he.out]; apply ByteArray.ext; apply Array.ext'; simp), hB⟩

set_option maxHeartbeats 1000000 in
set_option maxRecDepth 100000 in
theorem rnum_any (n : Int) (hn : Wr.i64 n) (W : World) :
    Calls Tryd.prog 12 #[.int .i64 n] W fun x w' => x = .returned (.string ⟨(Wr.encNum n).toArray⟩) ∧ Below W.heap.size W w' := by
  have HI := Lib.hid (rint_any n hn W)
  clear hn
  by_cases h0 : n < 0
  · have e : Wr.encNum n = [] := by unfold Wr.encNum; rw [if_pos h0]
    rw [e]
    clear e HI
    go_enter Tryd.func12, Tryd.ntmps12
    go_wp2
    go_ret
    exact ⟨rfl, Below.refl _ _⟩
  · have e : Wr.encNum n = Wr.encInt n := by unfold Wr.encNum; rw [if_neg h0]
    rw [e]
    clear e
    go_enter Tryd.func12, Tryd.ntmps12
    go_wp2_with fail
    refine HI.out.mono ?_
    rintro x w1 ⟨rfl, hB⟩
    go_wp2
    go_ret
    exact ⟨rfl, hB⟩

set_option maxHeartbeats 1000000 in
set_option maxRecDepth 100000 in
theorem rtext_any (s : ByteArray) (hs : s.size ≤ 100000000) (W : World) :
    Calls Tryd.prog 16 #[.string s] W fun x w' => x = .returned (.string ⟨(Wr.encText s.data.toList).toArray⟩) ∧ Below W.heap.size W w' := by
  have hsz := Lib.size_eq s
  have H := Lib.hid (fun z W (hz : z = -(s.size : Int)) => dig_any s.size (by omega) z W hz)
  have HZ := Lib.hid hsz
  have hl := Wr.itoa_len (Wr.i64_nat (show s.size ≤ 9223372036854775807 by omega))
  obtain ⟨D, hD⟩ : ∃ D : ByteArray, (⟨(Lib.decDigits s.size).toArray⟩ : ByteArray) = D := ⟨_, rfl⟩
  have hDl : D.data.toList = Lib.itoa (s.size : Int) := by rw [← hD, Lib.itoa_nonneg]
  rw [hD] at H
  rw [← hDl, ← Lib.size_eq] at hl
  have HD := Lib.hid hDl
  clear hsz hD hDl
  go_enter Tryd.func16, Tryd.ntmps16
  go_wp2_with fail
  refine (H.out _ _ rfl).mono ?_
  rintro x w1 ⟨rfl, hB⟩
  go_wp2
  go_ret
  exact ⟨ret_str (by unfold Wr.encText; rw [← HZ.out, ← HD.out]; apply ByteArray.ext; apply Array.ext'; simp), hB⟩

set_option maxRecDepth 100000 in
set_option maxHeartbeats 4000000 in
theorem rnums_any (xa : Option Addr) (b off cap : Nat) (X : List Int) (W : World) (hr : RowV W xa b off (X.map (Value.int .i64))) (hl : X.length ≤ 1000000) (ht : (X.map Wr.encInt).flatten.length ≤ 100000000) (hX : ∀ x ∈ X, Wr.i64 x) :
    Calls Tryd.prog 18 #[.slice xa X.length cap] W fun e w' => e = .returned (.string ⟨(Wr.encList Wr.encInt X).toArray⟩) ∧ Below W.heap.size W w' := by
  have H := Lib.hid (fun z W (hz : z = -(X.length : Int)) => dig_any X.length (by omega) z W hz)
  have hil := Wr.itoa_len (Wr.i64_nat (show X.length ≤ 9223372036854775807 by omega))
  obtain ⟨D, hD⟩ : ∃ D : ByteArray, (⟨(Lib.decDigits X.length).toArray⟩ : ByteArray) = D := ⟨_, rfl⟩
  have hDl : D.data.toList = Lib.itoa (X.length : Int) := by rw [← hD, Lib.itoa_nonneg]
  rw [hD] at H
  rw [← hDl, ← Lib.size_eq] at hil
  have HD := Lib.hid hDl
  have HR := Lib.hid hr
  have HT := Lib.hid ht
  have HX := Lib.hid hX
  clear hr ht hD hDl hX
  go_enter Tryd.func18, Tryd.ntmps18
  go_wp2_with fail
  refine (H.out _ _ rfl).mono ?_
  rintro x w1 ⟨rfl, hB1⟩
  go_wp2_with fail
  go_loopw [3, 4] (fun s i wr => ∃ (k : Nat) (S : ByteArray), s = .string S ∧ i = .int .i64 k ∧ k ≤ X.length ∧ Hid (S.data.toList = Wr.part Wr.encInt X k) ∧ Hid (Below W.heap.size W wr)) (fun _ i _ => X.length - (intOf i).toNat)
  case atStart => exact ⟨0, _, rfl, rfl, Nat.zero_le _, (show _ = _ by rw [Wr.part_zero]; unfold Wr.listHead; rw [← HD.out]; simp), hB1⟩
  case round =>
    obtain ⟨k, S, rfl, rfl, hk, hS, hB⟩ := hrel
    have hpl := Wr.part_len Wr.encInt X k hl HT.out
    rw [← hS.out, ← Lib.size_eq] at hpl
    by_cases hlt : k < X.length
    · obtain rfl := HR.out.at_ (by rw [List.length_map]; omega)
      have HP := Lib.hid (Wr.part_succ Wr.encInt X k hlt)
      have hel := Wr.part_len Wr.encInt X (k + 1) hl HT.out
      rw [Wr.part_succ Wr.encInt X k hlt, List.length_append] at hel
      have hcell := HR.out.cell k ((Value.int .i64) X[k]) (by rw [List.getElem?_map, List.getElem?_eq_getElem hlt]; rfl)
      have hxi := HX.out _ (List.getElem_mem hlt)
      obtain ⟨y, hy⟩ : ∃ y, X[k] = y := ⟨_, rfl⟩
      rw [hy] at hcell HP hel hxi
      have HXI := Lib.hid hxi
      clear hxi hy
      have c0 : wr.cell? ⟨b, off + k, none⟩ = some (.int .i64 y) := by
        rw [← hcell]
        exact hB.out.cell (p := ⟨b, off + k, none⟩) (HR.out.lt (by rw [List.length_map]; omega))
      obtain ⟨E, hE⟩ : ∃ E : ByteArray, (⟨(Wr.encInt y).toArray⟩ : ByteArray) = E := ⟨_, rfl⟩
      have hEs : E.size ≤ 100000021 := by rw [← hE, Wr.bs_len]; omega
      have HC := Lib.hid (rint_any y HXI.out wr)
      rw [hE] at HC
      have hEl : E.data.toList = Wr.encInt y := by rw [← hE]
      have HEl := Lib.hid hEl
      clear hcell hE hEl hel
      go_wp2_with fail
      refine HC.out.mono ?_
      rintro x w4 ⟨rfl, hB4⟩
      have HB4 := Lib.hid (hB.out.trans (hB4.mono hB.out.size))
      clear hB4
      go_wp2_with fail
      go_roundw
      case rel => exact ⟨k + 1, _, rfl, by go_num, by omega, (show _ = _ by rw [HP.out, ← hS.out, ← HEl.out]; simp), HB4.out⟩
      case measure => simp [intOf]; omega
    · obtain rfl : k = X.length := by omega
      go_wp2
      go_ret
      exact ⟨ret_str (by rw [← Wr.part_end, ← hS.out]; apply ByteArray.ext; apply Array.ext'; simp), hB.out⟩

set_option maxRecDepth 100000 in
set_option maxHeartbeats 4000000 in
theorem rtexts_any (xa : Option Addr) (b off cap : Nat) (X : List (List UInt8)) (W : World) (hr : RowV W xa b off (X.map encStr)) (hl : X.length ≤ 1000000) (ht : (X.map Wr.encText).flatten.length ≤ 100000000) :
    Calls Tryd.prog 20 #[.slice xa X.length cap] W fun e w' => e = .returned (.string ⟨(Wr.encList Wr.encText X).toArray⟩) ∧ Below W.heap.size W w' := by
  have H := Lib.hid (fun z W (hz : z = -(X.length : Int)) => dig_any X.length (by omega) z W hz)
  have hil := Wr.itoa_len (Wr.i64_nat (show X.length ≤ 9223372036854775807 by omega))
  obtain ⟨D, hD⟩ : ∃ D : ByteArray, (⟨(Lib.decDigits X.length).toArray⟩ : ByteArray) = D := ⟨_, rfl⟩
  have hDl : D.data.toList = Lib.itoa (X.length : Int) := by rw [← hD, Lib.itoa_nonneg]
  rw [hD] at H
  rw [← hDl, ← Lib.size_eq] at hil
  have HD := Lib.hid hDl
  have HR := Lib.hid hr
  have HT := Lib.hid ht
  clear hr ht hD hDl
  go_enter Tryd.func20, Tryd.ntmps20
  go_wp2_with fail
  refine (H.out _ _ rfl).mono ?_
  rintro x w1 ⟨rfl, hB1⟩
  go_wp2_with fail
  go_loopw [3, 4] (fun s i wr => ∃ (k : Nat) (S : ByteArray), s = .string S ∧ i = .int .i64 k ∧ k ≤ X.length ∧ Hid (S.data.toList = Wr.part Wr.encText X k) ∧ Hid (Below W.heap.size W wr)) (fun _ i _ => X.length - (intOf i).toNat)
  case atStart => exact ⟨0, _, rfl, rfl, Nat.zero_le _, (show _ = _ by rw [Wr.part_zero]; unfold Wr.listHead; rw [← HD.out]; simp), hB1⟩
  case round =>
    obtain ⟨k, S, rfl, rfl, hk, hS, hB⟩ := hrel
    have hpl := Wr.part_len Wr.encText X k hl HT.out
    rw [← hS.out, ← Lib.size_eq] at hpl
    by_cases hlt : k < X.length
    · obtain rfl := HR.out.at_ (by rw [List.length_map]; omega)
      have HP := Lib.hid (Wr.part_succ Wr.encText X k hlt)
      have hel := Wr.part_len Wr.encText X (k + 1) hl HT.out
      rw [Wr.part_succ Wr.encText X k hlt, List.length_append] at hel
      have hcell := HR.out.cell k (encStr X[k]) (by rw [List.getElem?_map, List.getElem?_eq_getElem hlt]; rfl)
      obtain ⟨y, hy⟩ : ∃ y : ByteArray, encStr X[k] = .string y := ⟨_, rfl⟩
      have hyl : y.data.toList = X[k] := by
        have : (⟨X[k].toArray⟩ : ByteArray) = y := by injection hy
        rw [← this]
      rw [hy] at hcell
      rw [← hyl] at HP hel
      have hys : y.size ≤ 100000000 := by
        rw [Lib.size_eq]
        have h1 := Wr.flat_take Wr.encText X (k + 1)
        have h2 := HT.out
        rw [List.take_succ_eq_append_getElem hlt, List.map_append, List.flatten_append, List.length_append, List.map_cons, List.map_nil, List.flatten_cons, List.flatten_nil, List.append_nil, ← hyl] at h1
        have h3 : y.data.toList.length ≤ (Wr.encText y.data.toList).length := by unfold Wr.encText; simp only [List.length_append, List.length_cons, List.length_nil]; omega
        omega
      clear hy hyl
      have c0 : wr.cell? ⟨b, off + k, none⟩ = some (.string y) := by
        rw [← hcell]
        exact hB.out.cell (p := ⟨b, off + k, none⟩) (HR.out.lt (by rw [List.length_map]; omega))
      obtain ⟨E, hE⟩ : ∃ E : ByteArray, (⟨(Wr.encText y.data.toList).toArray⟩ : ByteArray) = E := ⟨_, rfl⟩
      have hEs : E.size ≤ 100000021 := by rw [← hE, Wr.bs_len]; omega
      have HC := Lib.hid (rtext_any y hys wr)
      rw [hE] at HC
      have hEl : E.data.toList = Wr.encText y.data.toList := by rw [← hE]
      have HEl := Lib.hid hEl
      clear hcell hE hEl hel
      go_wp2_with fail
      refine HC.out.mono ?_
      rintro x w4 ⟨rfl, hB4⟩
      have HB4 := Lib.hid (hB.out.trans (hB4.mono hB.out.size))
      clear hB4
      go_wp2_with fail
      go_roundw
      case rel => exact ⟨k + 1, _, rfl, by go_num, by omega, (show _ = _ by rw [HP.out, ← hS.out, ← HEl.out]; simp), HB4.out⟩
      case measure => simp [intOf]; omega
    · obtain rfl : k = X.length := by omega
      go_wp2
      go_ret
      exact ⟨ret_str (by rw [← Wr.part_end, ← hS.out]; apply ByteArray.ext; apply Array.ext'; simp), hB.out⟩
end Go.Proofs.YthknahghmlfegaaDoor
