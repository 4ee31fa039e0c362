/-
  flipped, walked.
-/
import Derived.Test.YtdiolhhfbllfeaaDoorDFlip
import Derived.Test.YtdiolhhfbllfeaaDoorDHexes
import Derived.Lib.ConvBytes
namespace Go.Proofs.YtdiolhhfbllfeaaDoor
open Go Go.RowKit Go.Shelf
/-- Bytes in block g, none of them frozen. -/
structure Cl (w : World) (g : Nat) (l : List UInt8) : Prop where
  cell : ∀ j, j < l.length → w.cell? ⟨g, j, none⟩ = some (.int .u8 ((l.getD j 0).toNat : Int))
  free : ∀ j, j < l.length → w.frozen? ⟨g, j, none⟩ = false
theorem Cl.drew {w : World} {g : Nat} {l : List UInt8} (h : Cl w g l) : Cl w.drew g l := ⟨h.cell, h.free⟩
theorem Cl.set {w : World} {g k : Nat} {l : List UInt8} (h : Cl w g l) (hk : k < l.length) (x : UInt8) : Cl (w.setCell ⟨g, k, none⟩ (.int .u8 (x.toNat : Int))) g (l.set k x) := by
  refine ⟨fun j hj => ?_, fun j hj => by rw [World.frozen?_setCell]; exact h.free j (by simpa using hj)⟩
  rw [List.length_set] at hj
  by_cases hjk : j = k
  · subst hjk
    rw [World.cell?_setCell_same _ _ _ (h.cell j hj)]
    simp [hk]
  · rw [World.cell?_setCell_other _ _ _ _ (by intro e; injection e with _ e2; exact hjk e2.symm), h.cell j hj]
    simp only [List.getD_eq_getElem?_getD]
    rw [List.getElem?_set_ne (fun e => hjk e.symm)]
theorem Cl.conv {w : World} {g n cap : Nat} {l : List UInt8} (h : Cl w g l) (hn : l.length = n) :
    (convert 31 9 (.slice (some ⟨g, 0, none⟩) n cap)).run Tryd.prog w = .ok (.string ⟨l.toArray⟩) w := by
  subst hn
  exact run_convert_bytes_back (P := Tryd.prog) w 31 9 5 ⟨g, 0, none⟩ cap l Tryd.underlying31 Tryd.underlying5 Tryd.underlying9 (fun j hj => by
    rw [add_plain0, h.cell j hj]
    simp [hj])
theorem bytes_of (s : ByteArray) (w : World) : ∃ (C : Nat) (W1 : World), (convert 9 31 (.string s)).run Tryd.prog w = .ok (.slice (some ⟨w.heap.size, 0, none⟩) s.size C) W1 ∧ Cl W1 w.heap.size s.data.toList ∧ Below w.heap.size w W1 := by
  refine ⟨_, _, Lib.run_convert_string_bytes (P := Tryd.prog) w 9 31 5 s Tryd.underlying9 Tryd.underlying31 Tryd.underlying5, ⟨fun j hj => Lib.bytesWorld_cell w _ s j (by rw [Lib.size_eq]; exact hj), fun j hj => ?_⟩, ?_⟩
  · have hj' : j < s.size := by rw [Lib.size_eq]; exact hj
    have hsz : (Lib.bytesCells w 5 s).size ≥ s.size := by
      have : s.size = s.data.size := rfl
      simp [Lib.bytesCells]
    simp [World.frozen?, Lib.bytesWorld_at_new]
    try omega
  · refine ⟨rfl, rfl, rfl, by rw [Lib.bytesWorld_size]; omega, fun k hk => Lib.bytesWorld_at_old w _ s k hk⟩
/-- The pattern's bit i, as the program reads it. -/
def pbit (p : Int) (i : Nat) : Bool := bits .and .i64 (p / 2 ^ i) 1 == 1
theorem xor8b (a b : UInt8) : bits .xor .u8 (a.toNat : Int) (b.toNat : Int) = ((a ^^^ b).toNat : Int) := by
  have h1 := UInt8.toNat_lt a
  have h2 := UInt8.toNat_lt b
  rw [u8_xor_nat _ _ (by omega) (by omega)]
  simp
set_option maxHeartbeats 4000000 in
set_option maxRecDepth 100000 in
theorem flipped_any (s : ByteArray) (bit : Nat) (p : Int) (_hp : -9223372036854775808 ≤ p ∧ p ≤ 9223372036854775807) (hs : s.size ≤ 2000) (hb : bit < 8 * s.size) (w : World) :
    Calls Tryd.prog 27 #[.string s, .int .i64 bit, .int .i64 p] w fun e w' => e = .returned (.string ⟨(Dg.flipN (pbit p) bit s.data.toList 32).toArray⟩) ∧ Below w.heap.size w w' := by
  obtain ⟨C, W1, hcv, hC, hB⟩ := bytes_of s w
  have hz := Lib.size_eq s
  obtain ⟨l, hl⟩ : ∃ l, s.data.toList = l := ⟨_, rfl⟩
  rw [hl] at hC hz ⊢
  have HC := Lib.hid hC
  have HB := Lib.hid hB
  have hzl := Lib.hid hz
  clear hl hC hB hz
  go_enter Tryd.func27, Tryd.ntmps27
  go_wp2_with fail
  go_loopw [8] (fun i wr => ∃ k : Nat, i = .int .i64 k ∧ k ≤ 32 ∧ Hid (Cl wr w.heap.size (Dg.flipN (pbit p) bit l k)) ∧ Hid (Below w.heap.size w wr)) (fun i _ => 32 - (intOf i).toNat)
  case atStart => exact ⟨0, rfl, by omega, HC.out, HB.out⟩
  case round =>
    clear HC HB
    obtain ⟨k, rfl, hk, hC, hB⟩ := hrel
    by_cases hlt : k < 32
    · have hN : Dg.flipN (pbit p) bit l (k + 1) = if pbit p k = true ∧ bit + k < 8 * l.length then Dg.flip1 (Dg.flipN (pbit p) bit l k) (bit + k) else Dg.flipN (pbit p) bit l k := rfl
      rw [← hzl.out] at hN
      have hml := Dg.flipN_length (pbit p) bit l k
      rw [← hzl.out] at hml
      obtain ⟨m, hm⟩ : ∃ m, Dg.flipN (pbit p) bit l k = m := ⟨_, rfl⟩
      rw [hm] at hN hC hml
      clear hm
      by_cases hpb : pbit p k = true
      · by_cases hin : bit + k < 8 * s.size
        · rw [if_pos ⟨hpb, hin⟩] at hN
          have hpq : (bits .and .i64 (p / 2 ^ k) 1 == 1) = true := hpb
          have HN := Lib.hid hN
          clear hN hpb
          obtain ⟨q, hq⟩ : ∃ q, (bit + k) / 8 = q := ⟨_, rfl⟩
          obtain ⟨r, hr⟩ : ∃ r, (bit + k) % 8 = r := ⟨_, rfl⟩
          have e1 : ((bit : Int) + (k : Int)) / 8 = (q : Int) := by omega
          have e2 : ((bit : Int) + (k : Int)) % 8 = (r : Int) := by omega
          have hqs : q < s.size := by omega
          have hr8 : r < 8 := by omega
          have c1 := hC.out.cell q (by omega)
          have f1 := hC.out.free q (by omega)
          obtain ⟨x, hx⟩ : ∃ x, m.getD q 0 = x := ⟨_, rfl⟩
          have hF : Dg.flip1 m (bit + k) = m.set q (x ^^^ UInt8.ofNat (2 ^ r)) := by
            unfold Dg.flip1
            rw [hq, hr, hx]
          rw [hx] at c1
          have hmask : (2 : Int) ^ r % (256 : Int) = ((UInt8.ofNat (2 ^ r)).toNat : Int) := by
            rw [UInt8.toNat_ofNat']
            simp
          have hxor := xor8b x (UInt8.ofNat (2 ^ r))
          obtain ⟨mk, hmk⟩ : ∃ mk, UInt8.ofNat (2 ^ r) = mk := ⟨_, rfl⟩
          rw [hmk] at hF hmask hxor
          obtain ⟨y, hy⟩ : ∃ y, x ^^^ mk = y := ⟨_, rfl⟩
          rw [hy] at hF hxor
          have HF := Lib.hid (show ∀ P : List UInt8 → Prop, P (m.set q y) → P (Dg.flipN (pbit p) bit l (k + 1)) from fun P h => by rw [HN.out, hF]; exact h)
          have HS1 := Lib.hid (hC.out.set (k := q) (by omega) y)
          clear hF hmk hy hx hq hr
          go_wp2_with fail
          go_region
          go_wp2
          go_roundw
          case rel => exact ⟨k + 1, by go_num, by omega, HF.out (fun t => Cl _ w.heap.size t) ⟨HS1.out.cell, HS1.out.free⟩, below_drew (Gr.below_set hB.out (Nat.le_refl _))⟩
          case measure => simp [intOf]; omega
        · rw [if_neg (fun h => hin h.2)] at hN
          have hpq : (bits .and .i64 (p / 2 ^ k) 1 == 1) = true := hpb
          have HN := Lib.hid (show ∀ P : List UInt8 → Prop, P m → P (Dg.flipN (pbit p) bit l (k + 1)) from fun P h => by rw [hN]; exact h)
          clear hN hpb
          go_wp2
          go_roundw
          case rel => exact ⟨k + 1, by go_num, by omega, HN.out (fun t => Cl wr w.heap.size t) hC.out, hB.out⟩
          case measure => simp [intOf]; omega
      · rw [if_neg (fun h => hpb h.1)] at hN
        have hpq : (bits .and .i64 (p / 2 ^ k) 1 == 1) = false := by
          cases hq : (bits .and .i64 (p / 2 ^ k) 1 == 1)
          · rfl
          · exact absurd hq hpb
        have HN := Lib.hid (show ∀ P : List UInt8 → Prop, P m → P (Dg.flipN (pbit p) bit l (k + 1)) from fun P h => by rw [hN]; exact h)
        clear hN hpb
        go_wp2
        go_roundw
        case rel => exact ⟨k + 1, by go_num, by omega, HN.out (fun t => Cl wr w.heap.size t) hC.out, hB.out⟩
        case measure => simp [intOf]; omega
    · obtain rfl : k = 32 := by omega
      have hcv2 := hC.out.conv (cap := C) (n := s.size) (by rw [Dg.flipN_length, ← hzl.out])
      go_wp2
      go_ret
      exact ⟨rfl, hB.out⟩
end Go.Proofs.YtdiolhhfbllfeaaDoor
