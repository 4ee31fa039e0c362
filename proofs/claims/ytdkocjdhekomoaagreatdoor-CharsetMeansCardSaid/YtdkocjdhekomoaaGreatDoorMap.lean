/-
  The contracts of text.lower, text.mapBytes and text.Lower.
-/
import Derived.Test.YtdkocjdhekomoaaGreatDoorLines
import Derived.RangeFuncRecord
import Derived.Laws.BytesArg
import Derived.Laws.IdiomStrings
namespace Go.Proofs.YtdkocjdhekomoaaGreatDoor
open Go Go.RowKit Go.Shelf
namespace Tx
theorem lowB_lo (c : UInt8) (h : 65 ≤ c.toNat ∧ c.toNat ≤ 90) : (lowB c).toNat = c.toNat + 32 := by
  unfold lowB
  rw [if_pos (by constructor <;> (rw [UInt8.le_iff_toNat_le]; simp; omega)), UInt8.toNat_add]
  simp; omega
theorem lowB_no (c : UInt8) (h : ¬ (65 ≤ c.toNat ∧ c.toNat ≤ 90)) : lowB c = c := by
  unfold lowB
  rw [if_neg]
  rintro ⟨h1, h2⟩
  rw [UInt8.le_iff_toNat_le] at h1 h2
  simp at h1 h2; omega
theorem upB_lo (c : UInt8) (h : 97 ≤ c.toNat ∧ c.toNat ≤ 122) : (upB c).toNat = c.toNat - 32 := by
  unfold upB
  rw [if_pos (by constructor <;> (rw [UInt8.le_iff_toNat_le]; simp; omega)), UInt8.toNat_sub]
  simp; omega
theorem upB_no (c : UInt8) (h : ¬ (97 ≤ c.toNat ∧ c.toNat ≤ 122)) : upB c = c := by
  unfold upB
  rw [if_neg]
  rintro ⟨h1, h2⟩
  rw [UInt8.le_iff_toNat_le] at h1 h2
  simp at h1 h2; omega
end Tx
theorem ret_byte {a b : Int} (h : a = b) : Ending.returned (.int .u8 a) = .returned (.int .u8 b) := by rw [h]

theorem lower_any (c : UInt8) (w : World) : Calls Tryz.prog 57 #[.int .u8 c.toNat] w fun e w' => e = .returned (.int .u8 (Tx.lowB c).toNat) ∧ w' = w := by
  have hc : c.toNat < 256 := UInt8.toNat_lt c
  by_cases h : 65 ≤ c.toNat ∧ c.toNat ≤ 90
  · have H := Lib.hid (Tx.lowB_lo c h)
    obtain ⟨h1, h2⟩ := h
    go_enter Tryz.func57, Tryz.ntmps57
    go_wp2
    go_ret
    exact ⟨ret_byte (by rw [H.out]; omega), rfl⟩
  · have H := Lib.hid (Tx.lowB_no c h)
    by_cases h1 : 65 ≤ c.toNat
    · have h2 : 90 < c.toNat := by omega
      clear h
      go_enter Tryz.func57, Tryz.ntmps57
      go_wp2
      go_ret
      exact ⟨ret_byte (by rw [H.out]), rfl⟩
    · clear h
      go_enter Tryz.func57, Tryz.ntmps57
      go_wp2
      go_ret
      exact ⟨ret_byte (by rw [H.out]), rfl⟩
namespace Tx
theorem get_of (s : ByteArray) (k : Nat) (h : k < s.size) : s.data.toList[k]? = some s[k] := Lib.data_getElem? s k h
end Tx
namespace Tx
/-- The bytes of a string in a block of their own, the first k of them mapped. -/
structure MapRow (g : UInt8 → UInt8) (s : ByteArray) (b k : Nat) (w : World) : Prop where
  cell : ∀ (j : Nat) (hj : j < s.size), w.cell? ⟨b, j, none⟩ = some (.int .u8 ((if j < k then g (s[j]'hj) else s[j]'hj).toNat : Int))
  free : ∀ (j : Nat), j < s.size → w.frozen? ⟨b, j, none⟩ = false
theorem MapRow.drews {g : UInt8 → UInt8} {s : ByteArray} {b k : Nat} {w : World} (h : MapRow g s b k w) (n : Nat) : MapRow g s b k (w.drewN n) := ⟨h.cell, h.free⟩
theorem MapRow.start (g : UInt8 → UInt8) (s : ByteArray) (w : World) (cap : Nat) : MapRow g s w.heap.size 0 (w.alloc (.cells (bytesRow s cap) 5 ((bytesRow s cap).size, (bytesRow s cap).size + 1))) := by
  have hh : (w.alloc (.cells (bytesRow s cap) 5 ((bytesRow s cap).size, (bytesRow s cap).size + 1))).heap[w.heap.size]? = some (.cells (bytesRow s cap) 5 ((bytesRow s cap).size, (bytesRow s cap).size + 1)) := World.alloc_heap_new w _
  refine ⟨fun j hj => ?_, fun j hj => ?_⟩
  · rw [if_neg (by omega)]
    have hj' : j < s.data.size := hj
    have := bytesRow_at s cap j hj'
    simp only [World.cell?, hh]
    rw [this]; rfl
  · have hj' : j < s.data.size := hj
    have h1 := (Array.getElem?_eq_some_iff.1 (bytesRow_at s cap j hj')).1
    simp only [World.frozen?, hh]
    simp
    omega
theorem MapRow.step {g : UInt8 → UInt8} {s : ByteArray} {b k : Nat} {w : World} (h : MapRow g s b k w) (hk : k < s.size) : MapRow g s b (k + 1) (w.setCell ⟨b, k, none⟩ (.int .u8 ((g (s[k]'hk)).toNat : Int))) := by
  refine ⟨fun j hj => ?_, fun j hj => by rw [World.frozen?_setCell]; exact h.free j hj⟩
  by_cases hjk : j = k
  · subst hjk
    rw [World.cell?_setCell_same _ _ _ (h.cell j hj), if_pos (by omega)]
  · rw [World.cell?_setCell_other _ _ _ _ (by intro e; injection e with _ e2; exact hjk e2.symm), h.cell j hj]
    by_cases h1 : j < k
    · rw [if_pos h1, if_pos (by omega)]
    · rw [if_neg h1, if_neg (by omega)]
def mapNums (g : UInt8 → UInt8) (s : ByteArray) : List Int := s.data.toList.map (fun c => ((g c).toNat : Int))
theorem strOf_map (g : UInt8 → UInt8) (s : ByteArray) : strOfNums (mapNums g s) = ⟨(s.data.toList.map g).toArray⟩ := by
  unfold strOfNums mapNums
  rw [List.map_map]
  congr 2
  apply List.map_congr_left
  intro c _
  simp
theorem mapNums_len (g : UInt8 → UInt8) (s : ByteArray) : (mapNums g s).length = s.size := by unfold mapNums; rw [List.length_map, ← Lib.size_eq]
theorem mapNums_at (g : UInt8 → UInt8) (s : ByteArray) (j : Nat) (hj : j < s.size) : (mapNums g s).getD j 0 = ((g (s[j]'hj)).toNat : Int) := by
  unfold mapNums
  rw [List.getD_eq_getElem?_getD, List.getElem?_map, get_of s j hj]; rfl
theorem MapRow.back {g : UInt8 → UInt8} {s : ByteArray} {b : Nat} {w : World} (h : MapRow g s b s.size w) (cap : Nat) :
    (convert 32 9 (.slice (some ⟨b, 0, none⟩) s.size cap)).run Tryz.prog w = .ok (.string ⟨(s.data.toList.map g).toArray⟩) w := by
  have := run_convert_bytes_arg (P := Tryz.prog) w 32 5 Tryz.underlying32 Tryz.underlying5 b 0 s.size cap (mapNums g s) (mapNums_len g s) (fun i hi => by
    rw [mapNums_at g s i hi, Nat.zero_add, h.cell i hi, if_pos hi]) 9 Tryz.underlying9
  rw [this, strOf_map]
end Tx

set_option maxHeartbeats 1000000 in
set_option maxRecDepth 100000 in
theorem map_lower (s : ByteArray) (w : World) (hs : s.size ≤ 9223372036854775807) :
    Calls Tryz.prog 55 #[.string s, .func (.func 57) #[] #[]] w fun e w' => e = .returned (.string ⟨(s.data.toList.map Tx.lowB).toArray⟩) ∧ Below w.heap.size w w' := by
  have hconv := run_bytes_of_string (P := Tryz.prog) w 9 32 5 s Tryz.underlying9 Tryz.underlying32 Tryz.underlying5
  have hst := Tx.MapRow.start Tx.lowB s w (grownCap w s.size 0 5)
  generalize grownCap w s.size 0 5 = cap at hconv hst
  generalize bytesRow s cap = C at hconv hst
  have HSt := Lib.hid hst
  clear hst
  go_enter Tryz.func55, Tryz.ntmps55
  go_wp2
  go_loopw [6, 7, 12] (fun _ _ i wr => ∃ k : Nat, i = .int .i64 k ∧ k ≤ s.size ∧ Hid (Tx.MapRow Tx.lowB s w.heap.size k wr) ∧ Below w.heap.size w wr) (fun _ _ i _ => s.size - (intOf i).toNat)
  case atStart => exact ⟨0, rfl, Nat.zero_le _, HSt.out.drews 1, below_drews ((Below.refl _ w).alloc (Nat.le_refl _) _) 1⟩
  case round =>
    obtain ⟨k, rfl, hk, hrow, hb⟩ := hrel
    by_cases hlt : k < s.size
    · have hc := hrow.out.cell k hlt
      rw [if_neg (by omega)] at hc
      have hf := hrow.out.free k hlt
      have HN := Lib.hid (hrow.out.step hlt)
      obtain ⟨c, hck⟩ : ∃ c, s[k] = c := ⟨_, rfl⟩
      rw [hck] at hc HN
      have HL := Lib.hid (lower_any c)
      clear hck
      go_wp2_with (go_at_call 57; refine (HL.out _).mono ?_; rintro e w' ⟨rfl, rfl⟩)
      go_roundw
      case rel => exact ⟨k + 1, by go_num, by omega, HN.out, hb.setCell (p := ⟨w.heap.size, k, none⟩) (Nat.le_refl _) _⟩
      case measure => simp [intOf]; omega
    · obtain rfl : k = s.size := by omega
      have hback := hrow.out.back cap
      go_wp2
      go_ret
      exact ⟨rfl, hb⟩

theorem lowerS_any (s : ByteArray) (w : World) (hs : s.size ≤ 9223372036854775807) :
    Calls Tryz.prog 27 #[.string s] w fun e w' => e = .returned (.string ⟨(Tx.lowL s.data.toList).toArray⟩) ∧ Below w.heap.size w w' := by
  have HM := Lib.hid (map_lower s w hs)
  go_enter Tryz.func27, Tryz.ntmps27
  go_wp2_with fail
  refine HM.out.mono ?_
  rintro e w1 ⟨rfl, hB⟩
  go_wp2
  go_ret
  exact ⟨rfl, hB⟩

end Go.Proofs.YtdkocjdhekomoaaGreatDoor
