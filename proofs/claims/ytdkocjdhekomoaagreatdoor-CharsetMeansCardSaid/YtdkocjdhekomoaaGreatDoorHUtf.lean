/-
  charset.Valid, Repair, Count and Utf8, with the library's tables as the program's text lays them.
-/
import Derived.Test.YtdkocjdhekomoaaGreatDoorHPl
import Derived.Test.YtdkocjdhekomoaaGreatDoorCBx
import Derived.Test.YtdkocjdhekomoaaGreatDoorLines
import Derived.BigCall
namespace Go.Proofs.YtdkocjdhekomoaaGreatDoor
open Go Go.RowKit Go.Shelf

/-- The tables that the package and the library read. -/
structure EnvH (w : World) : Prop where
  tabs : Lib.Utf8Tabs 1 2 w
  win : ∀ j, j < 32 → w.cell? ⟨0, j, none⟩ = some (.int .i32 (Ch.win.getD j 0 : Nat))
  mx : MaxAt w
  syn : ∃ v, w.cell? ⟨4, 0, none⟩ = some v ∧ (v = .nilIface ∨ ∃ te pe, v = .iface te pe)
  size : 9 ≤ w.heap.size
theorem Utf8Tabs_belowB {g3 g4 B : Nat} {w w' : World} (h : Lib.Utf8Tabs g3 g4 w) (hb : Below B w w') (h3 : g3 < B) (h4 : g4 < B) : Lib.Utf8Tabs g3 g4 w' :=
  ⟨fun c hc => (hb.cell h3).trans (h.1 c hc), fun i hi => ⟨(hb.cell h4).trans (h.2 i hi).1, (hb.cell h4).trans (h.2 i hi).2⟩⟩
theorem EnvH.below {B : Nat} {w w' : World} (h : EnvH w) (hb : Below B w w') (hB : 9 ≤ B) : EnvH w' :=
  ⟨Utf8Tabs_belowB h.tabs hb (by omega) (by omega), fun j hj => (hb.cell (p := ⟨0, j, none⟩) (show 0 < B by omega)).trans (h.win j hj), h.mx.below hb (by omega),
    h.syn.imp fun v hv => ⟨(hb.cell (p := ⟨4, 0, none⟩) (show 4 < B by omega)).trans hv.1, hv.2⟩, Nat.le_trans h.size hb.size⟩
theorem EnvH.new {w w' : World} (h : EnvH w) (hb : Below w.heap.size w w') : EnvH w' := h.below hb h.size

theorem ba_eq {S : ByteArray} {n m : List UInt8} (hS : (⟨n.toArray⟩ : ByteArray) = S) (h : n = m) : (S.toList == m) = true := by subst h hS; rw [Lib.toList_data]; simp
theorem ba_ne {S : ByteArray} {n m : List UInt8} (hS : (⟨n.toArray⟩ : ByteArray) = S) (h : n ≠ m) : (S.toList == m) = false := by
  subst hS
  rw [Lib.toList_data, beq_eq_false_iff_ne]
  simpa using h
theorem below_it (w : World) (s : ByteArray) (pos : Nat) : Below w.heap.size w (w.iter s pos) := (Below.refl _ w).alloc (Nat.le_refl _) (.stringIter s pos)
theorem decode_in (s : ByteArray) (pos : Nat) (hp : pos < s.size) : pos + (Utf8.decode s pos).2 ≤ s.size := by
  have hne : s.data.toList.drop pos ≠ [] := fun e => by
    have := congrArg List.length e
    rw [List.length_drop, ← Lib.size_eq] at this
    simp at this; omega
  have := Lib.decodeL_le _ hne
  rw [Lib.decodeL_drop, List.length_drop, ← Lib.size_eq] at this
  omega
theorem decode_rune (s : ByteArray) (pos : Nat) : (Utf8.decode s pos).1 ≤ 1114111 := by
  have := Lib.decodeL_rune (s.data.toList.drop pos)
  rwa [Lib.decodeL_drop] at this

theorem rune_le4 (r : Int) : (Lib.encodeRune r).length ≤ 4 := by
  have := Lib.runeCells_le r
  rw [Lib.runeCells_length] at this
  omega
theorem rune_ge1 (r : Int) : 1 ≤ (Lib.encodeRune r).length := by
  have := Lib.runeCells_le r
  rw [Lib.runeCells_length] at this
  omega

theorem wr_any (B b : Nat) (l : List UInt8) (r : Nat) (hr : r ≤ 1114111) (w : World) (h : Bld B b l w) (hlen : l.length ≤ 1000000000) (hBw : B ≤ w.heap.size) :
    Calls Tryz.prog 38 #[.pointer (some ⟨b, 0, none⟩), .int .i32 r] w fun e w' => (∃ n : Int, e = .returned (.tuple #[.int .i64 n, .nilIface])) ∧ Bld B b (l ++ Lib.encodeRune (r : Int)) w' ∧ Below B w w' ∧ Lib.OthersKept 5 (some b) w w' := by
  refine (Any.Builder_WriteRune_k Tryz.lays168 Tryz.Builder_X168 B b _ (r : Int) (by omega) (by omega) w h (by rw [Lib.byteCells_length]; omega) hBw).mono ?_
  rintro e w' ⟨rfl, h1, h2, h3⟩
  refine ⟨⟨_, rfl⟩, ?_, h2, h3⟩
  unfold Bld
  rw [Lib.byteCells_append, Lib.byteCells_encodeRune]
  exact Or.inr h1

theorem valid_any (s : ByteArray) (w : World) (hE : EnvH w) (hs : s.size ≤ 9223372036854775807) :
    Calls Tryz.prog 12 #[.string s] w fun e w' => e = .returned (.bool (Lib.validD s.data.toList)) ∧ Below w.heap.size w w' := by
  have HV := Lib.hid (Any.utf8_ValidString Tryz.lays196 s w hs hE.tabs)
  go_enter Tryz.func12, Tryz.ntmps12
  go_wp2_with fail
  refine HV.out.mono ?_
  rintro e w1 ⟨rfl, hB⟩
  go_wp2
  go_ret
  exact ⟨rfl, hB⟩
theorem count_any (s : ByteArray) (w : World) (hs : s.size < 9223372036854775807) :
    Calls Tryz.prog 14 #[.string s] w fun e w' => e = .returned (.int .i64 (Ch.count s.data.toList)) ∧ Below w.heap.size w w' := by
  have HV := Lib.hid (Any.utf8_RuneCountInString Tryz.lays195 s w hs)
  go_enter Tryz.func14, Tryz.ntmps14
  go_wp2_with fail
  refine HV.out.mono ?_
  rintro e w1 ⟨rfl, pos, rfl⟩
  rw [Ch.count_lib]
  go_wp2
  go_ret
  exact ⟨rfl, below_it w s pos⟩

set_option maxHeartbeats 4000000 in
set_option maxRecDepth 1000000 in
theorem repair_any (s : ByteArray) (w : World) (hs : s.size ≤ 100000000) :
    Calls Tryz.prog 16 #[.string s] w fun e w' => e = .returned (.string ⟨(Ch.repair s.data.toList).toArray⟩) ∧ Below w.heap.size w w' := by
  have HF := Lib.hid (Bld.fresh w)
  go_enter Tryz.func16, Tryz.ntmps16
  go_wp2
  go_loopw [] (fun wr => ∃ (pos : Nat) (acc : List UInt8), Bld w.heap.size w.heap.size acc wr ∧ wr.heap[w.heap.size + 1]? = some (.stringIter s pos) ∧ Below w.heap.size w wr ∧ Hid (acc ++ Ch.repair (s.data.toList.drop pos) = Ch.repair s.data.toList) ∧ acc.length ≤ 4 * pos ∧ pos ≤ s.size) (fun wr => s.size - wr.iterPos (w.heap.size + 1))
  case atStart =>
    refine ⟨0, [], HF.out.alloc _, ?_, ((Below.refl _ w).alloc (Nat.le_refl _) _).alloc (by simp) _, rfl, by simp, Nat.zero_le _⟩
    have := World.iter_heap (w.alloc (.cells #[.pointer none, .slice none 0 0] 40)) s 0
    simpa using this
  case round =>
    obtain ⟨pos, acc, hI, hit, hbw, hacc, hal, hps⟩ := hrel
    clear HF
    have hsz : w.heap.size + 1 < wr.heap.size := (Array.getElem?_eq_some_iff.1 hit).1
    by_cases hp : pos < s.size
    · have hnx : ∀ ty, (Instr.next (.pointer (some ⟨w.heap.size + 1, 0, none⟩)) true ty).run Tryz.prog wr = _ := fun ty => Lib.run_next_any_at wr (w.heap.size + 1) s pos ty hit hp
      have hwd := Lib.decode_width_pos s pos hp
      have hd1 := decode_rune s pos
      have hd2 := decode_in s pos hp
      have hI2 := Lib.IsBuilderF.iterAt hI hit (pos + (Utf8.decode s pos).2)
      have hit2 := Lib.iterAt_heap wr (w.heap.size + 1) s pos (pos + (Utf8.decode s pos).2) hit
      have hbw2 := Lib.below_iterAt hbw (k := w.heap.size + 1) (by omega) s (pos + (Utf8.decode s pos).2)
      have hsz2 : w.heap.size ≤ (wr.iterAt (w.heap.size + 1) s (pos + (Utf8.decode s pos).2)).heap.size := by rw [Lib.iterAt_size]; omega
      have HN : Hid (acc ++ Lib.encodeRune ((Utf8.decode s pos).1 : Int) ++ Ch.repair (s.data.toList.drop (pos + (Utf8.decode s pos).2)) = Ch.repair s.data.toList) := by
        have hne : s.data.toList.drop pos ≠ [] := fun e => by
          have := congrArg List.length e
          rw [List.length_drop, ← Lib.size_eq] at this
          simp at this; omega
        have := hacc.out
        rw [Ch.repair_step _ hne, Lib.decodeL_drop, List.drop_drop, ← List.append_assoc] at this
        exact this
      have hr4 := rune_le4 ((Utf8.decode s pos).1 : Int)
      clear hacc
      generalize Utf8.decode s pos = D at *
      obtain ⟨r, k⟩ := D
      have HR := Lib.hid (fun W => wr_any w.heap.size w.heap.size acc r hd1 W)
      go_wp2_with (go_at_call 38; refine (HR.out _ hI2 (by omega) hsz2).mono ?_; rintro e W1 ⟨⟨n, rfl⟩, h1, b1, k1⟩)
      go_roundw
      case rel =>
        exact ⟨pos + k, acc ++ Lib.encodeRune (r : Int), h1, k1.iter hit2 (by omega), hbw2.trans b1, HN, by have hw2 : 1 ≤ k := hwd; rw [List.length_append]; omega, by omega⟩
      case measure =>
        simp only [World.iterPos, k1.iter hit2 (by omega), hit]
        have hw2 : 1 ≤ k := hwd
        omega
    · have hnx : ∀ ty, (Instr.next (.pointer (some ⟨w.heap.size + 1, 0, none⟩)) true ty).run Tryz.prog wr = _ := fun ty => Lib.run_next_end_at wr (w.heap.size + 1) s pos ty hit hp
      have he : s.data.toList.drop pos = [] := List.drop_eq_nil_of_le (by rw [← Lib.size_eq]; omega)
      have hE := hacc.out
      rw [he, Ch.repair_nil, List.append_nil] at hE
      have HE := Lib.hid hE
      clear hacc hE he
      go_wp2_with (go_at_call 39; refine (str_any w.heap.size w.heap.size acc _ hI (by omega)).mono ?_; rintro e W1 ⟨rfl, b1, -⟩)
      go_wp2
      go_ret
      exact ⟨congrArg (fun l : List UInt8 => Ending.returned (.string ⟨l.toArray⟩)) HE.out, hbw.trans b1⟩

theorem fromA_any (c : UInt8) (w : World) : Calls Tryz.prog 29 #[.int .u8 c.toNat] w fun e w' => e = .returned (.int .i32 (Ch.gA c : Nat)) ∧ w = w' := by
  have cl := UInt8.toNat_lt c
  unfold Ch.gA
  by_cases h : c.toNat < 128
  · rw [if_pos h]
    have h1 : ¬ ((128 : Int) ≤ (c.toNat : Int)) := by omega
    go_enter Tryz.func29, Tryz.ntmps29
    go_wp2
    go_ret
    exact ⟨rfl, rfl⟩
  · rw [if_neg h]
    have h1 : (128 : Int) ≤ (c.toNat : Int) := by omega
    go_enter Tryz.func29, Tryz.ntmps29
    go_wp2
    go_ret
    exact ⟨rfl, rfl⟩
theorem fromL_any (c : UInt8) (w : World) : Calls Tryz.prog 30 #[.int .u8 c.toNat] w fun e w' => e = .returned (.int .i32 (Ch.gL c : Nat)) ∧ w = w' := by
  have cl := UInt8.toNat_lt c
  unfold Ch.gL
  go_enter Tryz.func30, Tryz.ntmps30
  go_wp2
  go_ret
  exact ⟨rfl, rfl⟩
theorem fromW_any (c : UInt8) (w : World) (hE : EnvH w) : Calls Tryz.prog 31 #[.int .u8 c.toNat] w fun e w' => e = .returned (.int .i32 (Ch.gW c : Nat)) ∧ w = w' := by
  have cl := UInt8.toNat_lt c
  unfold Ch.gW
  by_cases h : 128 ≤ c.toNat ∧ c.toNat < 160
  · rw [if_pos h]
    obtain ⟨j, hj⟩ : ∃ j, c.toNat = j + 128 := ⟨c.toNat - 128, by omega⟩
    have hw := hE.win j (by omega)
    have e1 : c.toNat - 128 = j := by omega
    have e2 : (c.toNat : Int) - 128 = (j : Int) := by omega
    have e3 : (0 : Int) ≤ (j : Int) := by omega
    have e4 : (j : Int) < 32 := by omega
    rw [e1]
    generalize (Ch.win.getD j 0) = V at *
    have HJ := Lib.hid hj
    clear hj
    go_enter Tryz.func31, Tryz.ntmps31
    go_wp2
    go_ret
    exact ⟨rfl, rfl⟩
  · rw [if_neg h]
    by_cases h0 : c.toNat < 128
    · have e3 : ¬ ((0 : Int) ≤ (c.toNat : Int) - 128) := by omega
      go_enter Tryz.func31, Tryz.ntmps31
      go_wp2
      go_ret
      exact ⟨rfl, rfl⟩
    · have e3 : (0 : Int) ≤ (c.toNat : Int) - 128 := by omega
      have e4 : ¬ ((c.toNat : Int) - 128 < 32) := by omega
      go_enter Tryz.func31, Tryz.ntmps31
      go_wp2
      go_ret
      exact ⟨rfl, rfl⟩
theorem gA_le (c : UInt8) : Ch.gA c ≤ 1114111 := by have := UInt8.toNat_lt c; unfold Ch.gA; split <;> omega
theorem gL_le (c : UInt8) : Ch.gL c ≤ 1114111 := by have := UInt8.toNat_lt c; unfold Ch.gL; omega
theorem gW_le (c : UInt8) : Ch.gW c ≤ 1114111 := by
  have H : ∀ c : Fin 256, Ch.gW (UInt8.ofNat c.val) ≤ 1114111 := by decide +kernel
  have := H ⟨c.toNat, UInt8.toNat_lt c⟩
  simpa using this
theorem mapB_take (g : UInt8 → Nat) (S : List UInt8) (k : Nat) (c : UInt8) (h : S[k]? = some c) : Ch.mapB g (S.take (k + 1)) = Ch.mapB g (S.take k) ++ Lib.encodeRune (g c : Int) := by
  rw [List.take_add_one, h, Ch.mapB_append]
  simp [Ch.mapB]
theorem mapB_len (g : UInt8 → Nat) : ∀ l, (Ch.mapB g l).length ≤ 4 * l.length
  | [] => by simp [Ch.mapB]
  | c :: r => by
    have := rune_le4 (g c : Int)
    have := mapB_len g r
    simp only [Ch.mapB, List.length_append, List.length_cons]; omega

set_option maxHeartbeats 2000000 in
set_option maxRecDepth 100000 in
theorem mapA_any (s : ByteArray) (w : World) (hs : s.size ≤ 100000000) :
    Calls Tryz.prog 28 #[.string s, .func (.func 29) #[] #[]] w fun e w' => e = .returned (.string ⟨(Ch.mapB Ch.gA s.data.toList).toArray⟩) ∧ Below w.heap.size w w' := by
  have HF := Lib.hid (Bld.fresh w)
  go_enter Tryz.func28, Tryz.ntmps28
  go_wp2
  go_loopw [6, 9] (fun _ i wr => ∃ k : Nat, i = .int .i64 k ∧ k ≤ s.size ∧ Bld w.heap.size w.heap.size (Ch.mapB Ch.gA (s.data.toList.take k)) wr ∧ Below w.heap.size w wr) (fun _ i _ => s.size - (intOf i).toNat)
  case atStart => exact ⟨0, rfl, Nat.zero_le _, HF.out, (Below.refl _ w).alloc (Nat.le_refl _) _⟩
  case round =>
    obtain ⟨k, rfl, hk, hBl, hBe⟩ := hrel
    clear HF
    have hsz : w.heap.size ≤ wr.heap.size := hBe.size
    have hl := mapB_len Ch.gA (s.data.toList.take k)
    have hl2 : (s.data.toList.take k).length ≤ k := by rw [List.length_take]; exact Nat.min_le_left _ _
    by_cases hlt : k < s.size
    · have hg := Tx.get_of s k hlt
      obtain ⟨c, hc⟩ : ∃ c, s[k] = c := ⟨_, rfl⟩
      rw [hc] at hg
      have HN := Lib.hid (mapB_take Ch.gA _ k c hg)
      have HL := Lib.hid (fun W => fromA_any c W)
      have HG := gA_le c
      clear hg
      generalize Ch.mapB Ch.gA (s.data.toList.take k) = acc at *
      have HR := Lib.hid (fun W h => wr_any w.heap.size w.heap.size acc (Ch.gA c) HG W h (by omega))
      go_wp2_with (first
        | (go_at_call 29; refine (HL.out _).mono ?_; rintro e w' ⟨rfl, rfl⟩)
        | (go_at_call 38; refine (HR.out _ hBl hsz).mono ?_; rintro e w2 ⟨⟨n, rfl⟩, hBl2, hB2, -⟩))
      go_roundw
      case rel => exact ⟨k + 1, by go_num, by omega, HN.out ▸ hBl2, hBe.trans hB2⟩
      case measure => simp [intOf]; omega
    · obtain rfl : k = s.size := by omega
      have he : s.data.toList.take s.size = s.data.toList := List.take_of_length_le (by rw [← Lib.size_eq]; exact Nat.le_refl _)
      rw [he] at hBl
      clear he hl hl2
      go_wp2_with (go_at_call 39; refine (str_any w.heap.size w.heap.size _ _ hBl hsz).mono ?_; rintro e w2 ⟨rfl, hB2, -⟩)
      go_ret
      exact ⟨rfl, hBe.trans hB2⟩

set_option maxHeartbeats 2000000 in
set_option maxRecDepth 100000 in
theorem mapL_any (s : ByteArray) (w : World) (hs : s.size ≤ 100000000) :
    Calls Tryz.prog 28 #[.string s, .func (.func 30) #[] #[]] w fun e w' => e = .returned (.string ⟨(Ch.mapB Ch.gL s.data.toList).toArray⟩) ∧ Below w.heap.size w w' := by
  have HF := Lib.hid (Bld.fresh w)
  go_enter Tryz.func28, Tryz.ntmps28
  go_wp2
  go_loopw [6, 9] (fun _ i wr => ∃ k : Nat, i = .int .i64 k ∧ k ≤ s.size ∧ Bld w.heap.size w.heap.size (Ch.mapB Ch.gL (s.data.toList.take k)) wr ∧ Below w.heap.size w wr) (fun _ i _ => s.size - (intOf i).toNat)
  case atStart => exact ⟨0, rfl, Nat.zero_le _, HF.out, (Below.refl _ w).alloc (Nat.le_refl _) _⟩
  case round =>
    obtain ⟨k, rfl, hk, hBl, hBe⟩ := hrel
    clear HF
    have hsz : w.heap.size ≤ wr.heap.size := hBe.size
    have hl := mapB_len Ch.gL (s.data.toList.take k)
    have hl2 : (s.data.toList.take k).length ≤ k := by rw [List.length_take]; exact Nat.min_le_left _ _
    by_cases hlt : k < s.size
    · have hg := Tx.get_of s k hlt
      obtain ⟨c, hc⟩ : ∃ c, s[k] = c := ⟨_, rfl⟩
      rw [hc] at hg
      have HN := Lib.hid (mapB_take Ch.gL _ k c hg)
      have HL := Lib.hid (fun W => fromL_any c W)
      have HG := gL_le c
      clear hg
      generalize Ch.mapB Ch.gL (s.data.toList.take k) = acc at *
      have HR := Lib.hid (fun W h => wr_any w.heap.size w.heap.size acc (Ch.gL c) HG W h (by omega))
      go_wp2_with (first
        | (go_at_call 30; refine (HL.out _).mono ?_; rintro e w' ⟨rfl, rfl⟩)
        | (go_at_call 38; refine (HR.out _ hBl hsz).mono ?_; rintro e w2 ⟨⟨n, rfl⟩, hBl2, hB2, -⟩))
      go_roundw
      case rel => exact ⟨k + 1, by go_num, by omega, HN.out ▸ hBl2, hBe.trans hB2⟩
      case measure => simp [intOf]; omega
    · obtain rfl : k = s.size := by omega
      have he : s.data.toList.take s.size = s.data.toList := List.take_of_length_le (by rw [← Lib.size_eq]; exact Nat.le_refl _)
      rw [he] at hBl
      clear he hl hl2
      go_wp2_with (go_at_call 39; refine (str_any w.heap.size w.heap.size _ _ hBl hsz).mono ?_; rintro e w2 ⟨rfl, hB2, -⟩)
      go_ret
      exact ⟨rfl, hBe.trans hB2⟩

set_option maxHeartbeats 2000000 in
set_option maxRecDepth 100000 in
theorem mapW_any (s : ByteArray) (w : World) (hE : EnvH w) (hs : s.size ≤ 100000000) :
    Calls Tryz.prog 28 #[.string s, .func (.func 31) #[] #[]] w fun e w' => e = .returned (.string ⟨(Ch.mapB Ch.gW s.data.toList).toArray⟩) ∧ Below w.heap.size w w' := by
  have HF := Lib.hid (Bld.fresh w)
  have HEn := Lib.hid hE
  clear hE
  go_enter Tryz.func28, Tryz.ntmps28
  go_wp2
  go_loopw [6, 9] (fun _ i wr => ∃ k : Nat, i = .int .i64 k ∧ k ≤ s.size ∧ Bld w.heap.size w.heap.size (Ch.mapB Ch.gW (s.data.toList.take k)) wr ∧ Below w.heap.size w wr) (fun _ i _ => s.size - (intOf i).toNat)
  case atStart => exact ⟨0, rfl, Nat.zero_le _, HF.out, (Below.refl _ w).alloc (Nat.le_refl _) _⟩
  case round =>
    obtain ⟨k, rfl, hk, hBl, hBe⟩ := hrel
    clear HF
    have hsz : w.heap.size ≤ wr.heap.size := hBe.size
    have hl := mapB_len Ch.gW (s.data.toList.take k)
    have hl2 : (s.data.toList.take k).length ≤ k := by rw [List.length_take]; exact Nat.min_le_left _ _
    by_cases hlt : k < s.size
    · have hg := Tx.get_of s k hlt
      obtain ⟨c, hc⟩ : ∃ c, s[k] = c := ⟨_, rfl⟩
      rw [hc] at hg
      have HN := Lib.hid (mapB_take Ch.gW _ k c hg)
      have HL := Lib.hid (fun W => fromW_any c W)
      have HG := gW_le c
      have HEr := Lib.hid (HEn.out.new hBe)
      clear hg
      generalize Ch.mapB Ch.gW (s.data.toList.take k) = acc at *
      have HR := Lib.hid (fun W h => wr_any w.heap.size w.heap.size acc (Ch.gW c) HG W h (by omega))
      go_wp2_with (first
        | (go_at_call 31; refine (HL.out _ HEr.out).mono ?_; rintro e w' ⟨rfl, rfl⟩)
        | (go_at_call 38; refine (HR.out _ hBl hsz).mono ?_; rintro e w2 ⟨⟨n, rfl⟩, hBl2, hB2, -⟩))
      go_roundw
      case rel => exact ⟨k + 1, by go_num, by omega, HN.out ▸ hBl2, hBe.trans hB2⟩
      case measure => simp [intOf]; omega
    · obtain rfl : k = s.size := by omega
      have he : s.data.toList.take s.size = s.data.toList := List.take_of_length_le (by rw [← Lib.size_eq]; exact Nat.le_refl _)
      rw [he] at hBl
      clear he hl hl2
      go_wp2_with (go_at_call 39; refine (str_any w.heap.size w.heap.size _ _ hBl hsz).mono ?_; rintro e w2 ⟨rfl, hB2, -⟩)
      go_ret
      exact ⟨rfl, hBe.trans hB2⟩

set_option maxHeartbeats 2000000 in
set_option maxRecDepth 100000 in
theorem utf8_any (name s : ByteArray) (w : World) (hE : EnvH w) (hn : name.size ≤ 9223372036854775807) (hs : s.size ≤ 100000000) :
    Calls Tryz.prog 10 #[.string name, .string s] w fun e w' => e = .returned (.tuple #[.string ⟨(Ch.utf8 name.data.toList s.data.toList).1.toArray⟩, .bool (Ch.utf8 name.data.toList s.data.toList).2]) ∧ Below w.heap.size w w' := by
  have HL := Lib.hid (lowerS_any name w hn)
  unfold Ch.utf8
  dsimp only
  obtain ⟨n, hnn⟩ : ∃ n, Tx.lowL name.data.toList = n := ⟨_, rfl⟩
  rw [hnn]
  rw [hnn] at HL
  clear hnn
  obtain ⟨S, hS⟩ : ∃ S : ByteArray, (⟨n.toArray⟩ : ByteArray) = S := ⟨_, rfl⟩
  rw [hS] at HL
  have HEn := Lib.hid hE
  clear hE
  have HR := Lib.hid (fun W => repair_any s W hs)
  have HA := Lib.hid (fun W => mapA_any s W hs)
  have HLt := Lib.hid (fun W => mapL_any s W hs)
  have HW := Lib.hid (fun W hE => mapW_any s W hE hs)
  clear hs
  by_cases h1 : n = Ch.nU
  · have q1 := ba_eq hS h1
    have k1 : Ch.textIn n s.data.toList = Ch.repair s.data.toList := by unfold Ch.textIn; rw [if_pos h1]
    have k2 : Ch.known n = true := by rw [h1]; decide
    rw [k1, k2]
    unfold Ch.nU at q1
    clear k1 k2 hS h1
    go_enter Tryz.func10, Tryz.ntmps10
    go_wp2_with (first
      | (go_at_call 27; refine HL.out.mono ?_; rintro e w1 ⟨rfl, hB1⟩)
      | (go_at_call 16; refine (HR.out _).mono ?_; rintro e w2 ⟨rfl, hB2⟩))
    go_ret2
    exact ⟨rfl, hB1.trans (hB2.mono hB1.size)⟩
  have q1 := ba_ne hS h1
  by_cases h2 : n = Ch.nA
  · have q2 := ba_eq hS h2
    have k1 : Ch.textIn n s.data.toList = Ch.mapB Ch.gA s.data.toList := by unfold Ch.textIn; rw [if_neg h1, if_pos h2]
    have k2 : Ch.known n = true := by rw [h2]; decide
    rw [k1, k2]
    unfold Ch.nU at q1
    unfold Ch.nA at q2
    clear k1 k2 hS h1 h2
    go_enter Tryz.func10, Tryz.ntmps10
    go_wp2_with (first
      | (go_at_call 27; refine HL.out.mono ?_; rintro e w1 ⟨rfl, hB1⟩)
      | (go_at_call 28; refine (HA.out _).mono ?_; rintro e w2 ⟨rfl, hB2⟩))
    go_ret2
    exact ⟨rfl, hB1.trans (hB2.mono hB1.size)⟩
  have q2 := ba_ne hS h2
  by_cases h3 : n = Ch.nL
  · have q3 := ba_eq hS h3
    have k1 : Ch.textIn n s.data.toList = Ch.mapB Ch.gL s.data.toList := by unfold Ch.textIn; rw [if_neg h1, if_neg h2, if_pos h3]
    have k2 : Ch.known n = true := by rw [h3]; decide
    rw [k1, k2]
    unfold Ch.nU at q1
    unfold Ch.nA at q2
    unfold Ch.nL at q3
    clear k1 k2 hS h1 h2 h3
    go_enter Tryz.func10, Tryz.ntmps10
    go_wp2_with (first
      | (go_at_call 27; refine HL.out.mono ?_; rintro e w1 ⟨rfl, hB1⟩)
      | (go_at_call 28; refine (HLt.out _).mono ?_; rintro e w2 ⟨rfl, hB2⟩))
    go_ret2
    exact ⟨rfl, hB1.trans (hB2.mono hB1.size)⟩
  have q3 := ba_ne hS h3
  by_cases h4 : n = Ch.nW
  · have q4 := ba_eq hS h4
    have k1 : Ch.textIn n s.data.toList = Ch.mapB Ch.gW s.data.toList := by unfold Ch.textIn; rw [if_neg h1, if_neg h2, if_neg h3, if_pos h4]
    have k2 : Ch.known n = true := by rw [h4]; decide
    rw [k1, k2]
    unfold Ch.nU at q1
    unfold Ch.nA at q2
    unfold Ch.nL at q3
    unfold Ch.nW at q4
    clear k1 k2 hS h1 h2 h3 h4
    go_enter Tryz.func10, Tryz.ntmps10
    go_wp2_with (first
      | (go_at_call 27; refine HL.out.mono ?_; rintro e w1 ⟨rfl, hB1⟩)
      | (go_at_call 28; refine (HW.out _ (HEn.out.new hB1)).mono ?_; rintro e w2 ⟨rfl, hB2⟩))
    go_ret2
    exact ⟨rfl, hB1.trans (hB2.mono hB1.size)⟩
  have q4 := ba_ne hS h4
  have k1 : Ch.textIn n s.data.toList = Ch.repair s.data.toList := by unfold Ch.textIn; rw [if_neg h1, if_neg h2, if_neg h3, if_neg h4]
  have k2 : Ch.known n = false := by unfold Ch.known; rw [beq_eq_false_iff_ne.2 h1, beq_eq_false_iff_ne.2 h2, beq_eq_false_iff_ne.2 h3, beq_eq_false_iff_ne.2 h4]; rfl
  rw [k1, k2]
  unfold Ch.nU at q1
  unfold Ch.nA at q2
  unfold Ch.nL at q3
  unfold Ch.nW at q4
  clear k1 k2 hS h1 h2 h3 h4
  go_enter Tryz.func10, Tryz.ntmps10
  go_wp2_with (first
    | (go_at_call 27; refine HL.out.mono ?_; rintro e w1 ⟨rfl, hB1⟩)
    | (go_at_call 16; refine (HR.out _).mono ?_; rintro e w2 ⟨rfl, hB2⟩))
  go_ret2
  exact ⟨rfl, hB1.trans (hB2.mono hB1.size)⟩
end Go.Proofs.YtdkocjdhekomoaaGreatDoor
