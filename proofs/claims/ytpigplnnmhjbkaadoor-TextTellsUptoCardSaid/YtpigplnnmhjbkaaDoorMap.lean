/-
  The contracts of text.mapBytes, text.Lower and text.Upper.
-/
import Derived.Test.YtpigplnnmhjbkaaDoorSame
import Derived.Laws.BytesArg
import Derived.Laws.IdiomStrings
namespace Go.Proofs.YtpigplnnmhjbkaaDoor
open Go Go.RowKit Go.Shelf
namespace Tx
/-- The bytes of a string in a block of their own, the first k of them mapped. -/
structure MapRow (g : UInt8 → UInt8) (s : ByteArray) (b k : Nat) (w : World) : Prop where
  cell : ∀ (j : Nat) (hj : j < s.size), w.cell? ⟨b, j, none⟩ = some (.int .u8 ((if j < k then g (s[j]'hj) else s[j]'hj).toNat : Int))
  free : ∀ (j : Nat), j < s.size → w.frozen? ⟨b, j, none⟩ = false
theorem MapRow.drews {g : UInt8 → UInt8} {s : ByteArray} {b k : Nat} {w : World} (h : MapRow g s b k w) (n : Nat) : MapRow g s b k (w.drewN n) := ⟨h.cell, h.free⟩
theorem MapRow.start (g : UInt8 → UInt8) (s : ByteArray) (w : World) (cap : Nat) : MapRow g s w.heap.size 0 (w.alloc (.cells (bytesRow s cap) 5 ((bytesRow s cap).size, (bytesRow s cap).size + 1))) := by
  have hh : (w.alloc (.cells (bytesRow s cap) 5 ((bytesRow s cap).size, (bytesRow s cap).size + 1))).heap[w.heap.size]? = some (.cells (bytesRow s cap) 5 ((bytesRow s cap).size, (bytesRow s cap).size + 1)) := World.alloc_heap_new w _
  refine ⟨fun j hj => ?_, fun j hj => ?_⟩
  · rw [if_neg (by omega)]
    have hj' : j < s.data.size := hj
    have := bytesRow_at s cap j hj'
    simp only [World.cell?, hh]
    rw [this]; rfl
  · have hj' : j < s.data.size := hj
    have h1 := (Array.getElem?_eq_some_iff.1 (bytesRow_at s cap j hj')).1
    simp only [World.frozen?, hh]
    simp
    omega
theorem MapRow.step {g : UInt8 → UInt8} {s : ByteArray} {b k : Nat} {w : World} (h : MapRow g s b k w) (hk : k < s.size) : MapRow g s b (k + 1) (w.setCell ⟨b, k, none⟩ (.int .u8 ((g (s[k]'hk)).toNat : Int))) := by
  refine ⟨fun j hj => ?_, fun j hj => by rw [World.frozen?_setCell]; exact h.free j hj⟩
  by_cases hjk : j = k
  · subst hjk
    rw [World.cell?_setCell_same _ _ _ (h.cell j hj), if_pos (by omega)]
  · rw [World.cell?_setCell_other _ _ _ _ (by intro e; injection e with _ e2; exact hjk e2.symm), h.cell j hj]
    by_cases h1 : j < k
    · rw [if_pos h1, if_pos (by omega)]
    · rw [if_neg h1, if_neg (by omega)]
def mapNums (g : UInt8 → UInt8) (s : ByteArray) : List Int := s.data.toList.map (fun c => ((g c).toNat : Int))
theorem strOf_map (g : UInt8 → UInt8) (s : ByteArray) : strOfNums (mapNums g s) = ⟨(s.data.toList.map g).toArray⟩ := by
  unfold strOfNums mapNums
  rw [List.map_map]
  congr 2
  apply List.map_congr_left
  intro c _
  simp
theorem mapNums_len (g : UInt8 → UInt8) (s : ByteArray) : (mapNums g s).length = s.size := by unfold mapNums; rw [List.length_map, ← Lib.size_eq]
theorem mapNums_at (g : UInt8 → UInt8) (s : ByteArray) (j : Nat) (hj : j < s.size) : (mapNums g s).getD j 0 = ((g (s[j]'hj)).toNat : Int) := by
  unfold mapNums
  rw [List.getD_eq_getElem?_getD, List.getElem?_map, get_of s j hj]; rfl
theorem MapRow.back {g : UInt8 → UInt8} {s : ByteArray} {b : Nat} {w : World} (h : MapRow g s b s.size w) (cap : Nat) :
    (convert 38 9 (.slice (some ⟨b, 0, none⟩) s.size cap)).run Tryd.prog w = .ok (.string ⟨(s.data.toList.map g).toArray⟩) w := by
  have := run_convert_bytes_arg (P := Tryd.prog) w 38 5 Tryd.underlying38 Tryd.underlying5 b 0 s.size cap (mapNums g s) (mapNums_len g s) (fun i hi => by
    rw [mapNums_at g s i hi, Nat.zero_add, h.cell i hi, if_pos hi]) 9 Tryd.underlying9
  rw [this, strOf_map]
end Tx

set_option maxHeartbeats 1000000 in
set_option maxRecDepth 100000 in
theorem map_lower (s : ByteArray) (w : World) (hs : s.size ≤ 9223372036854775807) :
    Calls Tryd.prog 34 #[.string s, .func (.func 35) #[] #[]] w fun e w' => e = .returned (.string ⟨(s.data.toList.map Tx.lowB).toArray⟩) ∧ Below w.heap.size w w' := by
  have hconv := run_bytes_of_string (P := Tryd.prog) w 9 38 5 s Tryd.underlying9 Tryd.underlying38 Tryd.underlying5
  have hst := Tx.MapRow.start Tx.lowB s w (grownCap w s.size 0 5)
  generalize grownCap w s.size 0 5 = cap at hconv hst
  generalize bytesRow s cap = C at hconv hst
  have HSt := Lib.hid hst
  clear hst
  go_enter Tryd.func34, Tryd.ntmps34
  go_wp2
  go_loopw [6, 7, 12] (fun _ _ i wr => ∃ k : Nat, i = .int .i64 k ∧ k ≤ s.size ∧ Hid (Tx.MapRow Tx.lowB s w.heap.size k wr) ∧ Below w.heap.size w wr) (fun _ _ i _ => s.size - (intOf i).toNat)
  case atStart => exact ⟨0, rfl, Nat.zero_le _, HSt.out.drews 1, below_drews ((Below.refl _ w).alloc (Nat.le_refl _) _) 1⟩
  case round =>
    obtain ⟨k, rfl, hk, hrow, hb⟩ := hrel
    by_cases hlt : k < s.size
    · have hc := hrow.out.cell k hlt
      rw [if_neg (by omega)] at hc
      have hf := hrow.out.free k hlt
      have HN := Lib.hid (hrow.out.step hlt)
      obtain ⟨c, hck⟩ : ∃ c, s[k] = c := ⟨_, rfl⟩
      rw [hck] at hc HN
      have HL := Lib.hid (lower_any c)
      clear hck
      go_wp2_with (go_at_call 35; refine (HL.out _).mono ?_; rintro e w' ⟨rfl, rfl⟩)
      go_roundw
      case rel => exact ⟨k + 1, by go_num, by omega, HN.out, hb.setCell (p := ⟨w.heap.size, k, none⟩) (Nat.le_refl _) _⟩
      case measure => simp [intOf]; omega
    · obtain rfl : k = s.size := by omega
      have hback := hrow.out.back cap
      go_wp2
      go_ret
      exact ⟨rfl, hb⟩

set_option maxHeartbeats 1000000 in
set_option maxRecDepth 100000 in
theorem map_upper (s : ByteArray) (w : World) (hs : s.size ≤ 9223372036854775807) :
    Calls Tryd.prog 34 #[.string s, .func (.func 37) #[] #[]] w fun e w' => e = .returned (.string ⟨(s.data.toList.map Tx.upB).toArray⟩) ∧ Below w.heap.size w w' := by
  have hconv := run_bytes_of_string (P := Tryd.prog) w 9 38 5 s Tryd.underlying9 Tryd.underlying38 Tryd.underlying5
  have hst := Tx.MapRow.start Tx.upB s w (grownCap w s.size 0 5)
  generalize grownCap w s.size 0 5 = cap at hconv hst
  generalize bytesRow s cap = C at hconv hst
  have HSt := Lib.hid hst
  clear hst
  go_enter Tryd.func34, Tryd.ntmps34
  go_wp2
  go_loopw [6, 7, 12] (fun _ _ i wr => ∃ k : Nat, i = .int .i64 k ∧ k ≤ s.size ∧ Hid (Tx.MapRow Tx.upB s w.heap.size k wr) ∧ Below w.heap.size w wr) (fun _ _ i _ => s.size - (intOf i).toNat)
  case atStart => exact ⟨0, rfl, Nat.zero_le _, HSt.out.drews 1, below_drews ((Below.refl _ w).alloc (Nat.le_refl _) _) 1⟩
  case round =>
    obtain ⟨k, rfl, hk, hrow, hb⟩ := hrel
    by_cases hlt : k < s.size
    · have hc := hrow.out.cell k hlt
      rw [if_neg (by omega)] at hc
      have hf := hrow.out.free k hlt
      have HN := Lib.hid (hrow.out.step hlt)
      obtain ⟨c, hck⟩ : ∃ c, s[k] = c := ⟨_, rfl⟩
      rw [hck] at hc HN
      have HL := Lib.hid (upper_any c)
      clear hck
      go_wp2_with (go_at_call 37; refine (HL.out _).mono ?_; rintro e w' ⟨rfl, rfl⟩)
      go_roundw
      case rel => exact ⟨k + 1, by go_num, by omega, HN.out, hb.setCell (p := ⟨w.heap.size, k, none⟩) (Nat.le_refl _) _⟩
      case measure => simp [intOf]; omega
    · obtain rfl : k = s.size := by omega
      have hback := hrow.out.back cap
      go_wp2
      go_ret
      exact ⟨rfl, hb⟩

theorem lowerS_any (s : ByteArray) (w : World) (hs : s.size ≤ 9223372036854775807) :
    Calls Tryd.prog 12 #[.string s] w fun e w' => e = .returned (.string ⟨(Tx.lowL s.data.toList).toArray⟩) ∧ Below w.heap.size w w' := by
  have HM := Lib.hid (map_lower s w hs)
  go_enter Tryd.func12, Tryd.ntmps12
  go_wp2_with fail
  refine HM.out.mono ?_
  rintro e w1 ⟨rfl, hB⟩
  go_wp2
  go_ret
  exact ⟨rfl, hB⟩

theorem upperS_any (s : ByteArray) (w : World) (hs : s.size ≤ 9223372036854775807) :
    Calls Tryd.prog 14 #[.string s] w fun e w' => e = .returned (.string ⟨(Tx.upL s.data.toList).toArray⟩) ∧ Below w.heap.size w w' := by
  have HM := Lib.hid (map_upper s w hs)
  go_enter Tryd.func14, Tryd.ntmps14
  go_wp2_with fail
  refine HM.out.mono ?_
  rintro e w1 ⟨rfl, hB⟩
  go_wp2
  go_ret
  exact ⟨rfl, hB⟩
end Go.Proofs.YtpigplnnmhjbkaaDoor
