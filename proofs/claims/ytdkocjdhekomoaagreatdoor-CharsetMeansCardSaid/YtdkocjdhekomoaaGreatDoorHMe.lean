/-
  missivelaw08.CharsetMeans.
-/
import Derived.Test.YtdkocjdhekomoaaGreatDoorHQu
namespace Go.Proofs.YtdkocjdhekomoaaGreatDoor
open Go Go.RowKit Go.Shelf

theorem byte_of_wf {x : Int} (h : (Lit.int .u8 x).wf = true) : ∃ c : UInt8, x = (c.toNat : Int) := by
  have e1 : IntKind.u8.min = 0 := by decide
  have e2 : IntKind.u8.max = 255 := by decide
  simp [Lit.wf, e1, e2] at h
  exact ⟨UInt8.ofNat x.toNat, by simp; omega⟩
/-- A character set's name, and its form in capital letters. -/
structure NmOk (nm : ByteArray) : Prop where
  size : nm.size ≤ 20
  no63 : ∀ c ∈ nm.data.toList, c ≠ 63
  no63U : ∀ c ∈ Tx.upL nm.data.toList, c ≠ 63
  low : Tx.lowL nm.data.toList = nm.data.toList
  lowU : Tx.lowL (Tx.upL nm.data.toList) = nm.data.toList
  kn : Ch.known nm.data.toList = true
def names4 : List ByteArray := [⟨#[117, 115, 45, 97, 115, 99, 105, 105]⟩, ⟨#[117, 116, 102, 45, 56]⟩, ⟨#[105, 115, 111, 45, 56, 56, 53, 57, 45, 49]⟩, ⟨#[119, 105, 110, 100, 111, 119, 115, 45, 49, 50, 53, 50]⟩]
theorem names_ok (m : Nat) (h : m < 4) : ∃ nm, names4[m]? = some nm ∧ NmOk nm := by
  match m, h with
  | 0, _ => exact ⟨_, rfl, by decide, by decide, by decide, by decide, by decide, by decide⟩
  | 1, _ => exact ⟨_, rfl, by decide, by decide, by decide, by decide, by decide, by decide⟩
  | 2, _ => exact ⟨_, rfl, by decide, by decide, by decide, by decide, by decide, by decide⟩
  | 3, _ => exact ⟨_, rfl, by decide, by decide, by decide, by decide, by decide, by decide⟩
theorem and3 (c : UInt8) : bits .and .u8 (c.toNat : Int) 3 = ((c.toNat % 4 : Nat) : Int) := by
  have H : ∀ k : Fin 256, bits .and .u8 (k.val : Int) 3 = ((k.val % 4 : Nat) : Int) := by decide +kernel
  exact H ⟨c.toNat, UInt8.toNat_lt c⟩
theorem conv_new (c : UInt8) (w : World) : (convert 32 9 (.slice (some ⟨w.heap.size, 0, none⟩) 1 1)).run Tryz.prog (w.alloc (.cells #[.int .u8 (c.toNat : Int)] 5)) = .ok (.string ⟨#[c]⟩) (w.alloc (.cells #[.int .u8 (c.toNat : Int)] 5)) :=
  run_convert_bytes_back (P := Tryz.prog) (w.alloc (.cells #[.int .u8 (c.toNat : Int)] 5)) 32 9 5 ⟨w.heap.size, 0, none⟩ 1 [c] Tryz.underlying32 Tryz.underlying5 Tryz.underlying9 (fun j hj => by
    obtain rfl : j = 0 := by simp at hj; omega
    rw [add_plain0]
    unfold World.cell?
    rw [World.alloc_heap_new]
    rfl)
theorem word_str (nm Q : ByteArray) (le : UInt8) (a : List UInt8) (hQ : Q.data.toList = Ch.quo a) :
    ((((⟨#[61, 63]⟩ : ByteArray) ++ nm) ++ ⟨#[63, le, 63]⟩) ++ Q ++ ⟨#[63, 61]⟩).data.toList = Ch.qWord nm.data.toList le a := by
  simp [Ch.qWord, hQ]
theorem is_white {l : List UInt8} (h : (Tx.trim l == []) = true) : ∀ c ∈ l, Tx.isW c = true := by
  rw [Ch.trim_is] at h
  exact List.all_eq_true.1 h
set_option maxHeartbeats 16000000 in
set_option maxRecDepth 100000 in
theorem means_law (c0 : UInt8) (a b t : ByteArray) (c4 : UInt8) (w : World) (hE : EnvH w) (ha : a.size ≤ 9223372036854775807) (hb : b.size ≤ 9223372036854775807) (ht : t.size ≤ 9223372036854775807) :
    Calls Tryz.prog 7 #[.int .u8 c0.toNat, .string a, .string b, .string t, .int .u8 c4.toNat] w fun e w' => e = .returned (.bool true) ∧ Below w.heap.size w w' := by
  have HSm := Lib.hid (small_any w hE)
  have E0 := Lib.hid hE
  clear hE
  have h3 := and3 c0
  obtain ⟨m, hm⟩ : ∃ m, c0.toNat % 4 = m := ⟨_, rfl⟩
  have hm4 : m < 4 := by omega
  rw [hm] at h3
  clear hm
  obtain ⟨nm, hnm, hok⟩ := names_ok m hm4
  have hcell : ∀ W : World, (W.alloc (.cells #[.string ⟨#[117, 115, 45, 97, 115, 99, 105, 105]⟩, .string ⟨#[117, 116, 102, 45, 56]⟩, .string ⟨#[105, 115, 111, 45, 56, 56, 53, 57, 45, 49]⟩, .string ⟨#[119, 105, 110, 100, 111, 119, 115, 45, 49, 50, 53, 50]⟩] 9)).cell? ⟨W.heap.size, m, none⟩ = some (.string nm) := fun W => by
    unfold World.cell?
    rw [World.alloc_heap_new]
    show (names4.map Value.string).toArray[m]? = _
    simp [hnm]
  have HOk := Lib.hid hok
  have hns := hok.size
  have hT := trimT_any t ht
  obtain ⟨X, hX⟩ : ∃ X : ByteArray, (⟨(Tx.trim t.data.toList).toArray⟩ : ByteArray) = X := ⟨_, rfl⟩
  obtain ⟨x1, x2⟩ := isE X _ hX
  rw [hX] at hT
  have HT := Lib.hid hT
  clear hok hnm hX hT
  by_cases g1 : 200 < (a.size : Int)
  · go_enter Tryz.func7, Tryz.ntmps7
    go_wp2_with (go_at_call 9; refine HSm.out.mono ?_; rintro e w1 ⟨rfl, hB1⟩; have hc1 := hcell w1)
    go_ret
    exact ⟨rfl, hB1.alloc hB1.size _⟩
  by_cases g2 : 200 < (b.size : Int)
  · go_enter Tryz.func7, Tryz.ntmps7
    go_wp2_with (go_at_call 9; refine HSm.out.mono ?_; rintro e w1 ⟨rfl, hB1⟩; have hc1 := hcell w1)
    go_ret
    exact ⟨rfl, hB1.alloc hB1.size _⟩
  by_cases g3 : 20 < (t.size : Int)
  · go_enter Tryz.func7, Tryz.ntmps7
    go_wp2_with (go_at_call 9; refine HSm.out.mono ?_; rintro e w1 ⟨rfl, hB1⟩; have hc1 := hcell w1)
    go_ret
    exact ⟨rfl, hB1.alloc hB1.size _⟩
  have k1 : (a.size : Int) ≤ 200 := by omega
  have k2 : (b.size : Int) ≤ 200 := by omega
  have k3 : (t.size : Int) ≤ 20 := by omega
  clear g1 g2 g3
  cases hall : t.data.toList.all Tx.isW with
  | false =>
    rw [hall] at x1 x2
    clear hall
    go_enter Tryz.func7, Tryz.ntmps7
    go_wp2_with (first
      | (go_at_call 9; refine HSm.out.mono ?_; rintro e w1 ⟨rfl, hB1⟩; have hc1 := hcell w1)
      | (go_at_call 23; refine (HT.out _).mono ?_; rintro e w2 ⟨rfl, hB2⟩))
    go_ret
    exact ⟨rfl, (hB1.alloc hB1.size _).trans (hB2.mono (hB1.alloc hB1.size _).size)⟩
  | true =>
    rw [hall] at x1 x2
    have hwh := List.all_eq_true.1 hall
    clear hall
    have hok := HOk.out
    have HUa := Lib.hid (fun W h => utf8_to (n := nm) (s := a) (o := Ch.textIn nm.data.toList a.data.toList) (ok := true) (by unfold Ch.utf8; rw [hok.low, hok.kn]) (by omega) (by omega) W h)
    have HUb := Lib.hid (fun W h => utf8_to (n := nm) (s := b) (o := Ch.textIn nm.data.toList b.data.toList) (ok := true) (by unfold Ch.utf8; rw [hok.low, hok.kn]) (by omega) (by omega) W h)
    have HQa := Lib.hid (fun W => quote_any a (by omega) W)
    have HQb := Lib.hid (fun W => quote_any b (by omega) W)
    have HUp := Lib.hid (fun W => upperS_any nm W (by omega))
    have lx := Ch.textIn_len nm.data.toList a.data.toList
    have ly := Ch.textIn_len nm.data.toList b.data.toList
    rw [← Lib.size_eq] at lx ly
    have lqa := Ch.quo_len a.data.toList
    have lqb := Ch.quo_len b.data.toList
    rw [← Lib.size_eq] at lqa lqb
    obtain ⟨x, hx⟩ : ∃ x, Ch.textIn nm.data.toList a.data.toList = x := ⟨_, rfl⟩
    obtain ⟨y, hy⟩ : ∃ y, Ch.textIn nm.data.toList b.data.toList = y := ⟨_, rfl⟩
    rw [hx] at HUa lx
    rw [hy] at HUb ly
    obtain ⟨Xs, hXs⟩ : ∃ Xs : ByteArray, (⟨x.toArray⟩ : ByteArray) = Xs := ⟨_, rfl⟩
    obtain ⟨Ys, hYs⟩ : ∃ Ys : ByteArray, (⟨y.toArray⟩ : ByteArray) = Ys := ⟨_, rfl⟩
    obtain ⟨Qa, hQa⟩ : ∃ Qa : ByteArray, (⟨(Ch.quo a.data.toList).toArray⟩ : ByteArray) = Qa := ⟨_, rfl⟩
    obtain ⟨Qb, hQb⟩ : ∃ Qb : ByteArray, (⟨(Ch.quo b.data.toList).toArray⟩ : ByteArray) = Qb := ⟨_, rfl⟩
    obtain ⟨U, hU⟩ : ∃ U : ByteArray, (⟨(Tx.upL nm.data.toList).toArray⟩ : ByteArray) = U := ⟨_, rfl⟩
    rw [hXs] at HUa
    rw [hYs] at HUb
    rw [hQa] at HQa
    rw [hQb] at HQb
    rw [hU] at HUp
    have xl : Xs.data.toList = x := by rw [← hXs]
    have yl : Ys.data.toList = y := by rw [← hYs]
    have qal : Qa.data.toList = Ch.quo a.data.toList := by rw [← hQa]
    have qbl : Qb.data.toList = Ch.quo b.data.toList := by rw [← hQb]
    have ul : U.data.toList = Tx.upL nm.data.toList := by rw [← hU]
    have zx : Xs.size ≤ 800 := by rw [Lib.size_eq, xl]; omega
    have zy : Ys.size ≤ 800 := by rw [Lib.size_eq, yl]; omega
    have zqa : Qa.size ≤ 600 := by rw [Lib.size_eq, qal]; omega
    have zqb : Qb.size ≤ 600 := by rw [Lib.size_eq, qbl]; omega
    have zu : U.size ≤ 20 := by rw [Lib.size_eq, ul]; unfold Tx.upL; rw [List.length_map, ← Lib.size_eq]; exact hns
    have hv := word_str nm Qa 113 a.data.toList qal
    have hw := word_str U Qb 81 b.data.toList qbl
    rw [ul] at hw
    have sv : ∀ rest, Ch.sound (Ch.qWord nm.data.toList 113 a.data.toList ++ rest) = some (x, rest) := fun rest => by
      have := Ch.qWord_sound nm.data.toList 113 a.data.toList rest hok.no63 (.inl rfl) (by rw [hok.low]; exact hok.kn)
      rwa [hok.low, hx] at this
    have sw : ∀ rest, Ch.sound (Ch.qWord (Tx.upL nm.data.toList) 81 b.data.toList ++ rest) = some (y, rest) := fun rest => by
      have := Ch.qWord_sound (Tx.upL nm.data.toList) 81 b.data.toList rest hok.no63U (.inr rfl) (by rw [hok.lowU]; exact hok.kn)
      rwa [hok.lowU, hy] at this
    obtain ⟨Z1, hZ1⟩ : ∃ Z : ByteArray, ((((((⟨#[61, 63]⟩ : ByteArray) ++ nm) ++ ⟨#[63, 113, 63]⟩) ++ Qa ++ ⟨#[63, 61]⟩) ++ t) ++ ((((⟨#[61, 63]⟩ : ByteArray) ++ U) ++ ⟨#[63, 81, 63]⟩) ++ Qb ++ ⟨#[63, 61]⟩)) = Z := ⟨_, rfl⟩
    have z1l : Z1.data.toList = Ch.qWord nm.data.toList 113 a.data.toList ++ t.data.toList ++ Ch.qWord (Tx.upL nm.data.toList) 81 b.data.toList := by
      rw [← hZ1, ByteArray.data_append, Array.toList_append, ByteArray.data_append, Array.toList_append, hv, hw]
    have c63 : (⟨#[61, 63]⟩ : ByteArray).size = 2 := rfl
    have c64 : (⟨#[63, 113, 63]⟩ : ByteArray).size = 3 := rfl
    have c65 : (⟨#[63, 81, 63]⟩ : ByteArray).size = 3 := rfl
    have c66 : (⟨#[63, 61]⟩ : ByteArray).size = 2 := rfl
    have z1s : Z1.size ≤ 2000 := by rw [← hZ1]; simp only [ByteArray.size_append]; omega
    have HW1 := Lib.hid (fun W h => words_to (s := Z1) (o := x ++ y) (by rw [z1l]; exact Ch.two_words sv sw hwh) (by omega) W h)
    obtain ⟨P1, hP1⟩ : ∃ P : ByteArray, (⟨(x ++ y).toArray⟩ : ByteArray) = P := ⟨_, rfl⟩
    rw [hP1] at HW1
    have q1 : (P1.toList == (Xs ++ Ys).toList) = true := same_to (by rw [← hP1, ByteArray.data_append, Array.toList_append, xl, yl]; simp)
    have HZ1 := Lib.hid hZ1
    have hcv := conv_new c4
    have HTc := Lib.hid (fun W => trimT_any ⟨#[c4]⟩ (by show (1 : Nat) ≤ _; omega) W)
    obtain ⟨X4, hX4⟩ : ∃ X : ByteArray, (⟨(Tx.trim (⟨#[c4]⟩ : ByteArray).data.toList).toArray⟩ : ByteArray) = X := ⟨_, rfl⟩
    obtain ⟨y1, y2⟩ := isE X4 _ hX4
    rw [hX4] at HTc
    cases h4 : (⟨#[c4]⟩ : ByteArray).data.toList.all Tx.isW with
    | true =>
      rw [h4] at y1 y2
      clear hok hx hy hXs hYs hQa hQb hU lx ly lqa lqb xl yl qal qbl ul hv hw sv sw hZ1 z1l z1s hP1 hX4 h4 hwh c63 c64 c65 c66
      go_enter Tryz.func7, Tryz.ntmps7
      go_wp2_with (first
        | (go_at_call 9; refine HSm.out.mono ?_; rintro e w1 ⟨rfl, hB1⟩; have hc1 := hcell w1; have T1 := hB1.alloc hB1.size (.cells #[.string ⟨#[117, 115, 45, 97, 115, 99, 105, 105]⟩, .string ⟨#[117, 116, 102, 45, 56]⟩, .string ⟨#[105, 115, 111, 45, 56, 56, 53, 57, 45, 49]⟩, .string ⟨#[119, 105, 110, 100, 111, 119, 115, 45, 49, 50, 53, 50]⟩] 9))
        | (go_at_call 23; with_reducible refine (HT.out _).mono ?_; rintro e w2 ⟨rfl, hB2⟩; have T2 := T1.trans (hB2.mono T1.size))
        | (go_at_call 10; with_reducible refine (HUa.out _ (E0.out.below T2 E0.out.size)).mono ?_; rintro e w3 ⟨rfl, hB3⟩; have T3 := T2.trans (hB3.mono T2.size))
        | (go_at_call 10; with_reducible refine (HUb.out _ (E0.out.below T3 E0.out.size)).mono ?_; rintro e w4 ⟨rfl, hB4⟩; have T4 := T3.trans (hB4.mono T3.size))
        | (go_at_call 24; with_reducible refine (HQa.out _).mono ?_; rintro e w5 ⟨rfl, hB5⟩; have T5 := T4.trans (hB5.mono T4.size))
        | (go_at_call 25; with_reducible refine (HUp.out _).mono ?_; rintro e w6 ⟨rfl, hB6⟩; have T6 := T5.trans (hB6.mono T5.size))
        | (go_at_call 24; with_reducible refine (HQb.out _).mono ?_; rintro e w7 ⟨rfl, hB7⟩; have T7 := T6.trans (hB7.mono T6.size))
        | (go_at_call 18; rw [HZ1.out]; with_reducible refine (HW1.out _ (E0.out.below T7 E0.out.size)).mono ?_; rintro e w8 ⟨rfl, hB8⟩; have T8 := T7.trans (hB8.mono T7.size))
        | (go_at_call 23; with_reducible refine (HTc.out _).mono ?_; rintro e w9 ⟨rfl, hB9⟩; have T9 := (T8.alloc T8.size (.cells #[.int .u8 (c4.toNat : Int)] 5)).trans (hB9.mono (T8.alloc T8.size (.cells #[.int .u8 (c4.toNat : Int)] 5)).size)))
      go_ret
      exact ⟨rfl, T9⟩
    | false =>
      rw [h4] at y1 y2
      obtain ⟨Z2, hZ2⟩ : ∃ Z : ByteArray, ((((((((⟨#[61, 63]⟩ : ByteArray) ++ nm) ++ ⟨#[63, 113, 63]⟩) ++ Qa ++ ⟨#[63, 61]⟩) ++ t) ++ ⟨#[c4]⟩) ++ t) ++ ((((⟨#[61, 63]⟩ : ByteArray) ++ U) ++ ⟨#[63, 81, 63]⟩) ++ Qb ++ ⟨#[63, 61]⟩)) = Z := ⟨_, rfl⟩
      have z2l : Z2.data.toList = Ch.qWord nm.data.toList 113 a.data.toList ++ t.data.toList ++ [c4] ++ t.data.toList ++ Ch.qWord (Tx.upL nm.data.toList) 81 b.data.toList := by
        rw [← hZ2]
        simp only [ByteArray.data_append, Array.toList_append] at hv hw ⊢
        rw [hv, hw]
      have c67 : (⟨#[c4]⟩ : ByteArray).size = 1 := rfl
      have z2s : Z2.size ≤ 2000 := by rw [← hZ2]; simp only [ByteArray.size_append]; omega
      have hc4 : Tx.isW c4 = false := by simpa using h4
      have HW2 := Lib.hid (fun W h => words_to (s := Z2) (o := x ++ t.data.toList ++ [c4] ++ t.data.toList ++ y) (by rw [z2l]; exact Ch.apart_words sv sw rfl hwh hc4) (by omega) W h)
      obtain ⟨P2, hP2⟩ : ∃ P : ByteArray, (⟨(x ++ t.data.toList ++ [c4] ++ t.data.toList ++ y).toArray⟩ : ByteArray) = P := ⟨_, rfl⟩
      rw [hP2] at HW2
      have q2 : (P2.toList == ((((Xs ++ t) ++ ⟨#[c4]⟩) ++ t) ++ Ys).toList) = true := same_to (by rw [← hP2]; simp [← xl, ← yl])
      have HZ2 := Lib.hid hZ2
      clear hok hx hy hXs hYs hQa hQb hU lx ly lqa lqb xl yl qal qbl ul hv hw sv sw hZ1 z1l z1s hP1 hX4 h4 hwh hZ2 z2l z2s hP2 hc4 c63 c64 c65 c66 c67
      go_enter Tryz.func7, Tryz.ntmps7
      go_wp2_with (first
        | (go_at_call 9; refine HSm.out.mono ?_; rintro e w1 ⟨rfl, hB1⟩; have hc1 := hcell w1; have T1 := hB1.alloc hB1.size (.cells #[.string ⟨#[117, 115, 45, 97, 115, 99, 105, 105]⟩, .string ⟨#[117, 116, 102, 45, 56]⟩, .string ⟨#[105, 115, 111, 45, 56, 56, 53, 57, 45, 49]⟩, .string ⟨#[119, 105, 110, 100, 111, 119, 115, 45, 49, 50, 53, 50]⟩] 9))
        | (go_at_call 23; with_reducible refine (HT.out _).mono ?_; rintro e w2 ⟨rfl, hB2⟩; have T2 := T1.trans (hB2.mono T1.size))
        | (go_at_call 10; with_reducible refine (HUa.out _ (E0.out.below T2 E0.out.size)).mono ?_; rintro e w3 ⟨rfl, hB3⟩; have T3 := T2.trans (hB3.mono T2.size))
        | (go_at_call 10; with_reducible refine (HUb.out _ (E0.out.below T3 E0.out.size)).mono ?_; rintro e w4 ⟨rfl, hB4⟩; have T4 := T3.trans (hB4.mono T3.size))
        | (go_at_call 24; with_reducible refine (HQa.out _).mono ?_; rintro e w5 ⟨rfl, hB5⟩; have T5 := T4.trans (hB5.mono T4.size))
        | (go_at_call 25; with_reducible refine (HUp.out _).mono ?_; rintro e w6 ⟨rfl, hB6⟩; have T6 := T5.trans (hB6.mono T5.size))
        | (go_at_call 24; with_reducible refine (HQb.out _).mono ?_; rintro e w7 ⟨rfl, hB7⟩; have T7 := T6.trans (hB7.mono T6.size))
        | (go_at_call 18; rw [HZ1.out]; with_reducible refine (HW1.out _ (E0.out.below T7 E0.out.size)).mono ?_; rintro e w8 ⟨rfl, hB8⟩; have T8 := T7.trans (hB8.mono T7.size))
        | (go_at_call 23; with_reducible refine (HTc.out _).mono ?_; rintro e w9 ⟨rfl, hB9⟩; have T9 := (T8.alloc T8.size (.cells #[.int .u8 (c4.toNat : Int)] 5)).trans (hB9.mono (T8.alloc T8.size (.cells #[.int .u8 (c4.toNat : Int)] 5)).size))
        | (go_at_call 18; rw [HZ2.out]; with_reducible refine (HW2.out _ (E0.out.below T9 E0.out.size)).mono ?_; rintro e w10 ⟨rfl, hB10⟩; have T10 := T9.trans (hB10.mono T9.size)))
      go_ret
      exact ⟨rfl, T10⟩
end Go.Proofs.YtdkocjdhekomoaaGreatDoor
