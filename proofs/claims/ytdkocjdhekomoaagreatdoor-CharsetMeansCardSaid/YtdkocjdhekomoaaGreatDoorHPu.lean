/-
  strconv.ParseUint of two bytes in base 16, and charset.hexByte.
-/
import Derived.Test.YtdkocjdhekomoaaGreatDoorHUtf
import Derived.Test.YtdkocjdhekomoaaGreatDoorHPuL
import Derived.LoopTactic
namespace Go.Proofs.YtdkocjdhekomoaaGreatDoor
open Go Go.RowKit Go.Shelf

namespace Ch
/-- What strconv makes of a byte: its small form. -/
def low (c : UInt8) : Nat := (c ||| 32).toNat
theorem low_bits (c : UInt8) : bits .or .u8 (c.toNat : Int) 32 = (low c : Int) := by
  have H : ∀ k : Fin 256, bits .or .u8 (k.val : Int) 32 = (low (UInt8.ofNat k.val) : Int) := by decide +kernel
  have := H ⟨c.toNat, UInt8.toNat_lt c⟩
  simpa using this
theorem digit_cases (c : UInt8) :
    (48 ≤ c.toNat ∧ c.toNat ≤ 57 ∧ Cd.hexF c = some (UInt8.ofNat (c.toNat - 48))) ∨
    ((c.toNat < 48 ∨ 57 < c.toNat) ∧ c.toNat ≠ 95 ∧ 97 ≤ low c ∧ low c ≤ 102 ∧ Cd.hexF c = some (UInt8.ofNat (low c - 87))) ∨
    ((c.toNat < 48 ∨ 57 < c.toNat) ∧ c.toNat ≠ 95 ∧ 103 ≤ low c ∧ low c ≤ 122 ∧ Cd.hexF c = none) ∨
    ((c.toNat < 48 ∨ 57 < c.toNat) ∧ (low c < 97 ∨ 122 < low c) ∧ low c < 256 ∧ Cd.hexF c = none) := by
  have H : ∀ k : Fin 256, (48 ≤ (UInt8.ofNat k.val).toNat ∧ (UInt8.ofNat k.val).toNat ≤ 57 ∧ Cd.hexF (UInt8.ofNat k.val) = some (UInt8.ofNat ((UInt8.ofNat k.val).toNat - 48))) ∨
      (((UInt8.ofNat k.val).toNat < 48 ∨ 57 < (UInt8.ofNat k.val).toNat) ∧ (UInt8.ofNat k.val).toNat ≠ 95 ∧ 97 ≤ low (UInt8.ofNat k.val) ∧ low (UInt8.ofNat k.val) ≤ 102 ∧ Cd.hexF (UInt8.ofNat k.val) = some (UInt8.ofNat (low (UInt8.ofNat k.val) - 87))) ∨
      (((UInt8.ofNat k.val).toNat < 48 ∨ 57 < (UInt8.ofNat k.val).toNat) ∧ (UInt8.ofNat k.val).toNat ≠ 95 ∧ 103 ≤ low (UInt8.ofNat k.val) ∧ low (UInt8.ofNat k.val) ≤ 122 ∧ Cd.hexF (UInt8.ofNat k.val) = none) ∨
      (((UInt8.ofNat k.val).toNat < 48 ∨ 57 < (UInt8.ofNat k.val).toNat) ∧ (low (UInt8.ofNat k.val) < 97 ∨ 122 < low (UInt8.ofNat k.val)) ∧ low (UInt8.ofNat k.val) < 256 ∧ Cd.hexF (UInt8.ofNat k.val) = none) := by decide +kernel
  have := H ⟨c.toNat, UInt8.toNat_lt c⟩
  simpa using this
end Ch

/-- What ParseUint returns of two digits. -/
def num2 : Option UInt8 → Value
  | some x => .tuple #[.int .u64 x.toNat, .nilIface]
  | none => .tuple #[.int .u64 0, .iface 123 (.int .i64 2)]
/-- What the number is behind k of the two digits. -/
def NumAt (a b : UInt8) (k acc : Nat) : Prop := (k = 0 ∧ acc = 0) ∨ (k = 1 ∧ ∃ x, Cd.hexF a = some x ∧ acc = x.toNat) ∨ (k = 2 ∧ ∃ x y, Cd.hexF a = some x ∧ Cd.hexF b = some y ∧ acc = 16 * x.toNat + y.toNat)
theorem hex2_two (a b : UInt8) : Cd.hex2 [a, b] = match Cd.hexF a, Cd.hexF b with
    | some x, some y => some (UInt8.ofNat (x.toNat * 16 + y.toNat))
    | _, _ => none := rfl
theorem NumAt.lt {a b : UInt8} {k acc : Nat} (h : NumAt a b k acc) (hk : k < 2) : acc < 16 := by
  rcases h with ⟨_, rfl⟩ | ⟨_, x, hx, rfl⟩ | ⟨h, _⟩
  · omega
  · exact Cd.hexF_lt hx
  · omega
theorem NumAt.next {a b : UInt8} {k acc : Nat} (h : NumAt a b k acc) (hk : k < 2) {x : UInt8} (hx : Cd.hexF ([a, b].getD k 0) = some x) : NumAt a b (k + 1) (acc * 16 + x.toNat) := by
  rcases h with ⟨rfl, rfl⟩ | ⟨rfl, y, hy, rfl⟩ | ⟨h, _⟩
  · exact .inr (.inl ⟨rfl, x, hx, by omega⟩)
  · exact .inr (.inr ⟨rfl, y, x, hy, hx, by omega⟩)
  · omega
theorem NumAt.bad {a b : UInt8} {k acc : Nat} (h : NumAt a b k acc) (hk : k < 2) (hx : Cd.hexF ([a, b].getD k 0) = none) : Cd.hex2 [a, b] = none := by
  rcases h with ⟨rfl, rfl⟩ | ⟨rfl, y, hy, rfl⟩ | ⟨h, _⟩
  · rw [hex2_two]
    have : Cd.hexF a = none := hx
    rw [this]
  · rw [hex2_two]
    have : Cd.hexF b = none := hx
    rw [hy, this]
  · omega
theorem NumAt.all {a b : UInt8} {acc : Nat} (h : NumAt a b 2 acc) : Cd.hex2 [a, b] = some (UInt8.ofNat acc) ∧ acc < 256 := by
  rcases h with ⟨h, _⟩ | ⟨h, _⟩ | ⟨_, x, y, hx, hy, rfl⟩
  · omega
  · omega
  · have := Cd.hexF_lt hx
    have := Cd.hexF_lt hy
    refine ⟨?_, by omega⟩
    rw [hex2_two, hx, hy]
    show some (UInt8.ofNat (x.toNat * 16 + y.toNat)) = _
    rw [Nat.mul_comm]

set_option maxHeartbeats 8000000 in
set_option maxRecDepth 100000 in
theorem parse2_any (t : ByteArray) (a b : UInt8) (ht : t.data.toList = [a, b]) (w : World) :
    Calls Tryz.prog 139 #[.string t, .int .i64 16, .int .i64 8] w fun e w' => e = .returned (num2 (Cd.hex2 [a, b])) ∧ Below w.heap.size w w' := by
  obtain ⟨R, hR⟩ : ∃ R, num2 (Cd.hex2 [a, b]) = R := ⟨_, rfl⟩
  rw [hR]
  have HR := Lib.hid hR
  clear hR
  have hsz : t.size = 2 := by rw [Lib.size_eq, ht]; rfl
  have hcv := Lib.run_convert_string_bytes (P := Tryz.prog) w 9 32 5 t Tryz.underlying9 Tryz.underlying32 Tryz.underlying5
  have hB : ∀ j, j < t.size → (Lib.bytesWorld w 5 t).cell? ⟨w.heap.size, j, none⟩ = some (.int .u8 (t.data.toList.getD j 0).toNat) := fun j hj => Lib.bytesWorld_cell w 5 t j hj
  rw [ht] at hB
  have b0 := hB 0 (by omega)
  have b1 := hB 1 (by omega)
  simp only [List.getD_cons_zero, List.getD_cons_succ] at b0 b1
  have hbw : Below w.heap.size w (Lib.bytesWorld w 5 t) := by
    exact Lib.bytesWorld_below w 5 t
  clear hB
  obtain ⟨W1, hW1⟩ : ∃ W1, W1 = Lib.bytesWorld w 5 t := ⟨_, rfl⟩
  rw [← hW1] at hcv b0 b1 hbw
  clear hW1
  have hemp : t.toList.isEmpty = false := by rw [Lib.toList_data, ht]; rfl
  rw [hsz] at hcv
  have hmv : IntKind.u64.wrap (IntKind.u64.wrap 256 - 1) = 255 := by decide
  have HT := Lib.hid ht
  have HS := Lib.hid hsz
  clear ht
  go_enter Tryz.func139, Tryz.ntmps139
  go_wp2
  go_loop [12, 13, 101] (fun vu vn vi => ∃ (k acc : Nat) (n : Int), vu = .bool false ∧ vn = .int .u64 n ∧ vi = .int .i64 k ∧ k ≤ 2 ∧ Hid (n = (acc : Int) ∧ NumAt a b k acc)) (fun _ _ vi => 2 - (intOf vi).toNat)
  case atStart => exact ⟨0, 0, 0, rfl, rfl, rfl, by omega, rfl, Or.inl ⟨rfl, rfl⟩⟩
  case round =>
    obtain ⟨k, acc, n, rfl, rfl, rfl, hk, hh⟩ := hrel
    obtain ⟨hn, hN⟩ := hh.out
    clear hh
    by_cases hlt : k < 2
    · have hacc := hN.lt hlt
      have n0 : 0 ≤ n := by omega
      have n1 : n ≤ 15 := by omega
      obtain ⟨c, hcc⟩ : ∃ c, [a, b].getD k 0 = c := ⟨_, rfl⟩
      have hcell : W1.cell? ⟨w.heap.size, k, none⟩ = some (.int .u8 c.toNat) := by
        rw [← hcc]
        match k, hlt with
        | 0, _ => exact b0
        | 1, _ => exact b1
      have HX := Lib.hid (fun x hx => hN.next hlt (x := x) (by rw [hcc]; exact hx))
      have HB := Lib.hid (fun hx => hN.bad hlt (by rw [hcc]; exact hx))
      have cl : c.toNat < 256 := UInt8.toNat_lt c
      have HL := Lib.hid (fun W => AnyPu.internal_strconv_lower Tryz.laysPu19 (c.toNat : Int) W)
      have hlow := Ch.low_bits c
      clear b0 b1 hcc hN
      rcases Ch.digit_cases c with ⟨h1, h2, hx⟩ | ⟨h0, hu, h1, h2, hx⟩ | ⟨h0, hu, h1, h2, hx⟩ | ⟨h0, h1, h2, hx⟩
      · have hxn := HX.out _ hx
        have HN : Hid (n * 16 + ((c.toNat : Int) - 48) = ((acc * 16 + (UInt8.ofNat (c.toNat - 48)).toNat : Nat) : Int) ∧ NumAt a b (k + 1) (acc * 16 + (UInt8.ofNat (c.toNat - 48)).toNat)) := Lib.hid ⟨by simp; omega, hxn⟩
        have iov : n * 16 + ((c.toNat : Int) - 48) ≤ 255 := by omega
        clear hx HX HB hlow HL hxn hacc hn
        go_wp2
        exact ⟨⟨k + 1, _, n * 16 + ((c.toNat : Int) - 48), rfl, (by first | rfl | (congr 1; omega)), (by first | rfl | (congr 1; omega)), by omega, HN⟩, by simp [intOf]; omega⟩
      · have hxn := HX.out _ hx
        obtain ⟨lw, hlw⟩ : ∃ lw, Ch.low c = lw := ⟨_, rfl⟩
        rw [hlw] at hlow h1 h2 hxn
        have HN : Hid (n * 16 + ((lw : Int) - 97 + 10) = ((acc * 16 + (UInt8.ofNat (lw - 87)).toNat : Nat) : Int) ∧ NumAt a b (k + 1) (acc * 16 + (UInt8.ofNat (lw - 87)).toNat)) := Lib.hid ⟨by simp; omega, hxn⟩
        have iov : n * 16 + ((lw : Int) - 97 + 10) ≤ 255 := by omega
        have i16 : ¬ ((16 : Int) ≤ (lw : Int) - 97 + 10) := by omega
        have hui : ¬ ((c.toNat : Int) = 95) := by omega
        clear hx HX HB hlw hxn hacc hn hu
        rcases h0 with h0 | h0
        all_goals
          go_wp2_with (go_at_call 142; refine (HL.out _).mono ?_; rintro e w' ⟨rfl, rfl⟩; rw [hlow])
          refine ⟨⟨k + 1, _, n * 16 + ((lw : Int) - 97 + 10), rfl, (by first | rfl | (congr 1; omega)), (by first | rfl | (congr 1; omega)), by omega, HN⟩, by simp [intOf]; omega⟩
      · have HN := Lib.hid (HB.out hx)
        obtain ⟨lw, hlw⟩ : ∃ lw, Ch.low c = lw := ⟨_, rfl⟩
        rw [hlw] at hlow h1 h2
        have i16 : (16 : Int) ≤ (lw : Int) - 97 + 10 := by omega
        have hui : ¬ ((c.toNat : Int) = 95) := by omega
        clear hx HX HB hlw hacc hn hu
        rcases h0 with h0 | h0
        all_goals
          go_wp2_with (go_at_call 142; refine (HL.out _).mono ?_; rintro e w' ⟨rfl, rfl⟩; rw [hlow])
          go_ret2
          refine ⟨?_, hbw⟩
          rw [← HR.out, HN.out]; rfl
      · have HN := Lib.hid (HB.out hx)
        obtain ⟨lw, hlw⟩ : ∃ lw, Ch.low c = lw := ⟨_, rfl⟩
        rw [hlw] at hlow h1 h2
        by_cases hu : c.toNat = 95
        · have HL5 := Lib.hid (fun W => AnyPu.internal_strconv_lower Tryz.laysPu19 95 W)
          have hb5 : bits .or .u8 95 32 = 127 := by decide
          rw [hu] at hcell
          clear hx HX HB hlow hlw hacc hn h0 h1 h2 hu HL cl
          go_wp2_with (go_at_call 142; refine (HL5.out _).mono ?_; rintro e w' ⟨rfl, rfl⟩; rw [hb5])
          go_ret2
          refine ⟨?_, hbw⟩
          rw [← HR.out, HN.out]; rfl
        · have hui : ¬ ((c.toNat : Int) = 95) := by omega
          clear hx HX HB hlw hacc hn hu
          rcases h0 with h0 | h0 <;> rcases h1 with h1 | h1
          all_goals
            go_wp2_with (go_at_call 142; refine (HL.out _).mono ?_; rintro e w' ⟨rfl, rfl⟩; rw [hlow])
            go_ret2
            refine ⟨?_, hbw⟩
            rw [← HR.out, HN.out]; rfl
    · obtain rfl : k = 2 := by omega
      have HA := Lib.hid hN.all
      clear b0 b1 hN
      subst hn
      go_wp2
      go_ret2
      refine ⟨?_, hbw⟩
      obtain ⟨h1, h2⟩ := HA.out
      rw [← HR.out, h1]
      simp [num2, Nat.mod_eq_of_lt h2]
end Go.Proofs.YtdkocjdhekomoaaGreatDoor
