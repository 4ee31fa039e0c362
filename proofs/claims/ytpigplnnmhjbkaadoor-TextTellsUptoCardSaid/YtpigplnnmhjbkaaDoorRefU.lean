/-
  The reference's Upper.
-/
import Derived.Test.YtpigplnnmhjbkaaDoorMap
namespace Go.Proofs.YtpigplnnmhjbkaaDoor
open Go Go.RowKit Go.Shelf
theorem Tx.MapRow.skip {g : UInt8 → UInt8} {s : ByteArray} {b k : Nat} {w : World} (h : Tx.MapRow g s b k w) (hk : k < s.size) (hg : g (s[k]'hk) = s[k]'hk) : Tx.MapRow g s b (k + 1) w := by
  refine ⟨fun j hj => ?_, h.free⟩
  rw [h.cell j hj]
  by_cases hjk : j = k
  · subst hjk
    rw [if_neg (by omega), if_pos (by omega), hg]
  · by_cases h1 : j < k
    · rw [if_pos h1, if_pos (by omega)]
    · rw [if_neg h1, if_neg (by omega)]
set_option maxHeartbeats 1000000 in
set_option maxRecDepth 100000 in
theorem refUpper_any (s : ByteArray) (w : World) (hs : s.size ≤ 9223372036854775807) :
    Calls Tryd.prog 15 #[.string s] w fun e w' => e = .returned (.string ⟨(s.data.toList.map Tx.upB).toArray⟩) ∧ Below w.heap.size w w' := by
  have hconv := run_bytes_of_string (P := Tryd.prog) w 9 38 5 s Tryd.underlying9 Tryd.underlying38 Tryd.underlying5
  have hst := Tx.MapRow.start Tx.upB s w (grownCap w s.size 0 5)
  generalize grownCap w s.size 0 5 = cap at hconv hst
  generalize bytesRow s cap = C at hconv hst
  have HSt := Lib.hid hst
  clear hst
  go_enter Tryd.func15, Tryd.ntmps15
  go_wp2
  go_loopw [4] (fun i wr => ∃ k : Nat, i = .int .i64 k ∧ k ≤ s.size ∧ Hid (Tx.MapRow Tx.upB s w.heap.size k wr) ∧ Below w.heap.size w wr) (fun i _ => s.size - (intOf i).toNat)
  case atStart => exact ⟨0, rfl, Nat.zero_le _, HSt.out.drews 1, below_drews ((Below.refl _ w).alloc (Nat.le_refl _) _) 1⟩
  case round =>
    obtain ⟨k, rfl, hk, hrow, hb⟩ := hrel
    by_cases hlt : k < s.size
    · have hc := hrow.out.cell k hlt
      rw [if_neg (by omega)] at hc
      have hf := hrow.out.free k hlt
      have HN := Lib.hid (hrow.out.step hlt)
      obtain ⟨c, hck⟩ : ∃ c, s[k] = c := ⟨_, rfl⟩
      rw [hck] at hc HN
      have hc256 : c.toNat < 256 := UInt8.toNat_lt c
      by_cases h : 97 ≤ c.toNat ∧ c.toNat ≤ 122
      · have hu := Tx.upB_lo c h
        obtain ⟨h1, h2⟩ := h
        have hi : ((c.toNat : Int) - 32) = ((Tx.upB c).toNat : Int) := by omega
        have HU := Lib.hid hi
        clear hu hi
        go_wp2
        go_roundw
        case rel => exact ⟨k + 1, by go_num, by omega, by first | exact HN.out | (rw [← HU.out] at HN; exact HN.out), hb.setCell (p := ⟨w.heap.size, k, none⟩) (Nat.le_refl _) _⟩
        case measure => simp [intOf]; omega
      · have hu := Tx.upB_no c h
        have HQ := Lib.hid (hrow.out.skip hlt (by rw [hck]; exact hu))
        by_cases h1 : 97 ≤ c.toNat
        · have h2 : 122 < c.toNat := by omega
          clear h
          go_wp2
          go_roundw
          case rel => exact ⟨k + 1, by go_num, by omega, HQ.out, hb⟩
          case measure => simp [intOf]; omega
        · clear h
          go_wp2
          go_roundw
          case rel => exact ⟨k + 1, by go_num, by omega, HQ.out, hb⟩
          case measure => simp [intOf]; omega
    · obtain rfl : k = s.size := by omega
      have hback := hrow.out.back cap
      go_wp2
      go_ret
      exact ⟨rfl, hb⟩

end Go.Proofs.YtpigplnnmhjbkaaDoor
