/-
  strings.IndexAny and strings.TrimLeft at the four white bytes, for every string.
-/
import Derived.Test.YtdkocjdhekomoaaGreatDoorRune
import Derived.Deep.WholeRow
namespace Go.Proofs.YtdkocjdhekomoaaGreatDoor
open Go Go.RowKit Go.Shelf
namespace Tx

theorem get_lt (s : ByteArray) (i : Nat) (h : i < s.size) : s.get! i = s[i] := by
  have h' : i < s.data.size := h
  show s.data[i]! = s.data[i]
  rw [getElem!_pos s.data i h']

/-- Where no ASCII byte stands: the rune is not ASCII, and no byte of it is. -/
theorem decode_high (s : ByteArray) (i : Nat) (h : i < s.size) (hb : 128 ≤ (s[i]'h).toNat) :
    128 ≤ (Utf8.decode s i).1 ∧ (Utf8.decode s i).1 ≤ 1114111 ∧ 1 ≤ (Utf8.decode s i).2 ∧ i + (Utf8.decode s i).2 ≤ s.size ∧
      ∀ (j : Nat) (hj : j < s.size), i ≤ j → j < i + (Utf8.decode s i).2 → 128 ≤ (s[j]'hj).toNat := by
  rw [Lib.decode_at]
  have e0 : (s.get! i).toNat = (s[i]'h).toNat := by rw [get_lt s i h]
  have hb0 : 128 ≤ (s.get! i).toNat := by rw [e0]; exact hb
  have key : ∀ k, (1 ≤ k) → i + k < s.size → ((s.get! (i + k)).toNat / 64 = 2) → ∀ (hj : i + k < s.size), 128 ≤ (s[i + k]'hj).toNat := by
    intro k _ hk hc hj
    rw [← get_lt s (i + k) hj]; omega
  generalize (s.get! i).toNat = b0 at *
  have k1 := key 1 (by omega)
  have k2 := key 2 (by omega)
  have k3 := key 3 (by omega)
  generalize (s.get! (i + 1)).toNat = b1 at *
  generalize (s.get! (i + 2)).toNat = b2 at *
  generalize (s.get! (i + 3)).toNat = b3 at *
  have lt0 : b0 < 256 := by rw [e0]; exact UInt8.toNat_lt _
  have one : ∀ (j : Nat) (hj : j < s.size), i ≤ j → j < i + 1 → 128 ≤ (s[j]'hj).toNat := by
    intro j hj h1 h2
    obtain rfl : j = i := by omega
    exact hb
  have bad : 128 ≤ ((65533, 1) : Nat × Nat).1 ∧ ((65533, 1) : Nat × Nat).1 ≤ 1114111 ∧ 1 ≤ ((65533, 1) : Nat × Nat).2 ∧ i + ((65533, 1) : Nat × Nat).2 ≤ s.size ∧
      ∀ (j : Nat) (hj : j < s.size), i ≤ j → j < i + ((65533, 1) : Nat × Nat).2 → 128 ≤ (s[j]'hj).toNat := ⟨by decide, by decide, by decide, by simp; omega, one⟩
  unfold Lib.decodeN
  rw [if_neg (by omega)]
  split
  · rename_i h1
    split
    · rename_i h2
      refine ⟨by simpa using h2, by simp; omega, by simp, by simp; omega, ?_⟩
      intro j hj h3 h4
      simp at h4
      by_cases hji : j = i
      · subst hji; exact hb
      · obtain rfl : j = i + 1 := by omega
        exact k1 hj h1.2.2 hj
    · exact bad
  · split
    · rename_i h1
      split
      · rename_i h2
        refine ⟨by simp; omega, by simp; omega, by simp, by simp; omega, ?_⟩
        intro j hj h3 h4
        simp at h4
        by_cases hji : j = i
        · subst hji; exact hb
        · by_cases hj1 : j = i + 1
          · subst hj1; exact k1 hj h1.2.1.2 hj
          · obtain rfl : j = i + 2 := by omega
            exact k2 hj h1.2.2.2 hj
      · exact bad
    · split
      · rename_i h1
        split
        · rename_i h2
          refine ⟨by simp; omega, by simp; omega, by simp, by simp; omega, ?_⟩
          intro j hj h3 h4
          simp at h4
          by_cases hji : j = i
          · subst hji; exact hb
          · by_cases hj1 : j = i + 1
            · subst hj1; exact k1 hj h1.2.1.2 hj
            · by_cases hj2 : j = i + 2
              · subst hj2; exact k2 hj h1.2.2.1.2 hj
              · obtain rfl : j = i + 3 := by omega
                exact k3 hj h1.2.2.2.2 hj
        · exact bad
      · exact bad
/-- What IndexAny looks for. -/
theorem noAny_more {s : ByteArray} {i k : Nat} (h : Lib.NoAny s.data.toList [9, 10, 13, 32] i) (hk : ∀ (j : Nat) (hj : j < s.size), i ≤ j → j < i + k → 128 ≤ (s[j]'hj).toNat) (hle : i + k ≤ s.size) :
    Lib.NoAny s.data.toList [9, 10, 13, 32] (i + k) := by
  intro j b hj hb
  by_cases h1 : j < i
  · exact h j b h1 hb
  · have hjs : j < s.size := by omega
    have := hk j hjs (by omega) hj
    rw [Lib.data_getElem? s j hjs] at hb
    have e : s[j] = b := by simpa using hb
    rw [e] at this
    simp only [List.contains, List.elem]
    have n9 : (b == 9) = false := by rw [beq_eq_false_iff_ne]; rintro rfl; simp at this
    have n10 : (b == 10) = false := by rw [beq_eq_false_iff_ne]; rintro rfl; simp at this
    have n13 : (b == 13) = false := by rw [beq_eq_false_iff_ne]; rintro rfl; simp at this
    have n32 : (b == 32) = false := by rw [beq_eq_false_iff_ne]; rintro rfl; simp at this
    simp [n9, n10, n13, n32]
end Tx

theorem indexRune_ascii (r : Nat) (w : World) (h : r < 128) :
    Calls Tryz.prog 105 #[.string ⟨#[9, 10, 13, 32]⟩, .int .i32 r] w fun e w' => e = .returned (.int .i64 (Lib.indexByte [9, 10, 13, 32] (UInt8.ofNat r))) ∧ w = w' :=
  (Any.strings_IndexRune_ascii Tryz.lays152 ⟨#[9, 10, 13, 32]⟩ r w (by omega) (by omega)).mono fun _ _ ⟨h1, h2⟩ => ⟨by rw [h1]; simp, h2.symm⟩

theorem useSet_any (n : Int) (w : World) : Calls Tryz.prog 106 #[.int .i64 n] w fun e w' => e = .returned (.bool (decide (8 < n))) ∧ w = w' :=
  (Any.strings_shouldUseASCIISet Tryz.lays226 n w).mono fun _ _ ⟨h1, h2⟩ => ⟨h1, h2.symm⟩

set_option maxHeartbeats 2000000 in
set_option maxRecDepth 100000 in
theorem indexAny_short (s : ByteArray) (w : World) (h8 : s.size ≤ 8) :
    Calls Tryz.prog 81 #[.string s, .string ⟨#[9, 10, 13, 32]⟩] w fun e w' => e = .returned (.int .i64 (Lib.indexAny s.data.toList [9, 10, 13, 32])) ∧ Below w.heap.size w w' := by
  have h8z : decide ((8 : Int) < (s.size : Int)) = false := decide_eq_false (by omega)
  go_enter Tryz.func81, Tryz.ntmps81
  go_wp2_with (go_at_call 106; refine (useSet_any _ _).mono ?_; rintro e w' ⟨rfl, rfl⟩; rw [h8z])
  go_loopw [9, 10] (fun _ _ wr => ∃ i : Nat, i ≤ s.size ∧ wr.heap[w.heap.size]? = some (.stringIter s i) ∧ Below w.heap.size w wr ∧ Hid (Lib.NoAny s.data.toList [9, 10, 13, 32] i)) (fun _ _ wr => s.size - wr.iterPos w.heap.size)
  case atStart => exact ⟨0, Nat.zero_le _, World.iter_heap w s 0, (Below.refl _ w).alloc (Nat.le_refl _) _, Lib.NoAny.zero _ _⟩
  case round =>
    obtain ⟨i, hi, hit, hbw, hno⟩ := hrel
    by_cases hp : i < s.size
    · by_cases ha : (s[i]'hp).toNat < 128
      · have hxl : s.data.toList[i]? = some s[i] := Lib.data_getElem? s i hp
        have hnx : ∀ ty, (Instr.next (.pointer (some ⟨w.heap.size, 0, none⟩)) true ty).run Tryz.prog wr = _ := fun ty => Lib.run_next_ascii_at wr w.heap.size s i ty hit hp ha
        have hc : ∀ W, _ := fun W => indexRune_ascii (s[i]'hp).toNat W ha
        obtain ⟨x, hx⟩ : ∃ x : UInt8, s[i]'hp = x := ⟨_, rfl⟩
        rw [hx] at hxl hnx hc ha
        have ex : UInt8.ofNat x.toNat = x := by simp
        rw [ex] at hc
        have Hxl := Lib.hid hxl
        clear hxl hx ex
        have hit2 := Lib.iterAt_heap wr w.heap.size s i (i + 1) hit
        have hbw2 := Lib.below_iterAt hbw (k := w.heap.size) (Nat.le_refl _) s (i + 1)
        have hcon := Lib.contains_iff_indexByte [9, 10, 13, 32] x
        have hge := Lib.indexByte_ge [9, 10, 13, 32] x
        generalize Lib.indexByte [9, 10, 13, 32] x = v at *
        have HC := Lib.hid hc
        clear hc
        cases hin : List.contains [9, 10, 13, 32] x
        · rw [hin] at hcon
          have hlt : ¬ ((0 : Int) ≤ v) := of_decide_eq_false hcon.symm
          have HN := Lib.hid hin
          clear hcon hin
          go_wp2_with (go_at_call 105; refine (HC.out _).mono ?_; rintro e w' ⟨rfl, rfl⟩)
          go_roundw
          case rel => exact ⟨i + 1, by omega, hit2, hbw2, hno.out.succ Hxl.out HN.out⟩
          case measure => simp only [World.iterPos, hit2, hit]; omega
        · rw [hin] at hcon
          have hle : ((0 : Int) ≤ v) := of_decide_eq_true hcon.symm
          have HN := Lib.hid hin
          clear hcon hin
          go_wp2_with (go_at_call 105; refine (HC.out _).mono ?_; rintro e w' ⟨rfl, rfl⟩)
          go_ret
          exact ⟨by rw [Lib.indexAny_hit hno.out Hxl.out HN.out]; rfl, hbw2⟩
      · obtain ⟨hd1, hd2, hd3, hd4, hd5⟩ := Tx.decode_high s i hp (by omega)
        have hnx : ∀ ty, (Instr.next (.pointer (some ⟨w.heap.size, 0, none⟩)) true ty).run Tryz.prog wr = _ := fun ty => Lib.run_next_any_at wr w.heap.size s i ty hit hp
        have HA := Lib.hid (Tx.noAny_more hno.out hd5 hd4)
        clear hd5
        have hit2 := Lib.iterAt_heap wr w.heap.size s i (i + (Utf8.decode s i).2) hit
        have hbw2 := Lib.below_iterAt hbw (k := w.heap.size) (Nat.le_refl _) s (i + (Utf8.decode s i).2)
        generalize (Utf8.decode s i).1 = r at *
        generalize (Utf8.decode s i).2 = k at *
        have hlt := (Array.getElem?_eq_some_iff.1 hit2).1
        go_wp2_with (go_at_call 105; refine (indexRune_any _ _ (by omega) (by omega)).mono ?_; rintro e w' ⟨rfl, hB⟩)
        have hit3 := (hB.block w.heap.size hlt).trans hit2
        go_roundw
        case rel => exact ⟨i + k, by omega, hit3, hbw2.trans (hB.mono (Nat.le_of_lt hlt)), HA.out⟩
        case measure => simp only [World.iterPos, hit3, hit]; omega
    · have hnx : ∀ ty, (Instr.next (.pointer (some ⟨w.heap.size, 0, none⟩)) true ty).run Tryz.prog wr = _ := fun ty => Lib.run_next_end_at wr w.heap.size s i ty hit hp
      obtain rfl : i = s.size := by omega
      go_wp2
      go_ret
      exact ⟨by rw [Lib.indexAny_none (by rw [← Lib.size_eq]; exact hno.out)]; rfl, hbw⟩
theorem info60 : (Tryz.prog.info? 79).map (fun i => (i.zero, i.size)) = some (some (.agg (Array.replicate 256 (.bool false))), 256) := by kernel_rfl

/-- strings.IndexAny at the four white bytes: every string that is shorter than the model's bound. -/
theorem indexAny_any (s : ByteArray) (w : World) (hs : s.size ≤ 1000000) :
    Calls Tryz.prog 81 #[.string s, .string ⟨#[9, 10, 13, 32]⟩] w fun e w' => e = .returned (.int .i64 (Lib.indexAny s.data.toList [9, 10, 13, 32])) ∧ Below w.heap.size w w' := by
  by_cases h8 : s.size ≤ 8
  · exact indexAny_short s w h8
  · refine (Any.strings_IndexAny_long Tryz.lays153 (zero_of_info info60).1 (zero_of_info info60).2 s ⟨#[9, 10, 13, 32]⟩ w (by decide) (by omega) (by omega) (by decide) (ascii_of_all (by decide))).mono ?_
    rintro e w' ⟨h1, rfl⟩
    exact ⟨h1, ((Below.refl _ _).alloc (Nat.le_refl _) _).alloc (by simp) _⟩

theorem bs_len' (l : List UInt8) : (⟨l.toArray⟩ : ByteArray).size = l.length := by show l.toArray.size = _; simp
/-- strings.TrimLeft at a space and a tab. -/
theorem trimBlanks_any (s : ByteArray) (w : World) :
    Calls Tryz.prog 80 #[.string s, .string ⟨#[32, 9]⟩] w fun e w' => e = .returned (.string ⟨(Lib.trimLeftS s.data.toList [32, 9]).toArray⟩) ∧ Below w.heap.size w w' :=
  Any.strings_TrimLeft_laid Tryz.lays161 info60 s ⟨#[32, 9]⟩ w (by decide) (ascii_of_all (by decide))

/-- strings.TrimLeft at the four white bytes. -/
theorem trimLeft_any (s : ByteArray) (w : World) :
    Calls Tryz.prog 80 #[.string s, .string ⟨#[9, 10, 13, 32]⟩] w fun e w' => e = .returned (.string ⟨(Lib.trimLeftS s.data.toList [9, 10, 13, 32]).toArray⟩) ∧ Below w.heap.size w w' :=
  Any.strings_TrimLeft_laid Tryz.lays161 info60 s ⟨#[9, 10, 13, 32]⟩ w (by decide) (ascii_of_all (by decide))

end Go.Proofs.YtdkocjdhekomoaaGreatDoor
