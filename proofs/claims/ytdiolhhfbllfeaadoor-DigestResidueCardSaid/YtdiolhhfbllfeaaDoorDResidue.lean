/-
  DigestResidue's law.
-/
import Derived.Test.YtdiolhhfbllfeaaDoorDSmall
namespace Go.Proofs.YtdiolhhfbllfeaaDoor
open Go Go.RowKit Go.Shelf
theorem le32_cells (x : Dg.W32) : bv (Dg.le32 x) = [.int .u8 ((x.toNat : Int) % 256), .int .u8 ((x.toNat : Int) / 256 % 256), .int .u8 ((x.toNat : Int) / 65536 % 256), .int .u8 ((x.toNat : Int) / 16777216)] := by
  have := x.isLt
  unfold bv Dg.le32
  simp only [List.map_cons, List.map_nil, UInt8.toNat_ofNat']
  rw [show x.toNat / 16777216 % 2 ^ 8 = x.toNat / 16777216 from by omega]
  simp
theorem conv_le32 (x : Dg.W32) (w : World) : (convert 31 9 (.slice (some ⟨w.heap.size, 0, none⟩) 4 4)).run Tryd.prog (w.alloc (.cells #[.int .u8 ((x.toNat : Int) % 256), .int .u8 ((x.toNat : Int) / 256 % 256), .int .u8 ((x.toNat : Int) / 65536 % 256), .int .u8 ((x.toNat : Int) / 16777216)] 5)) =
    .ok (.string ⟨(Dg.le32 x).toArray⟩) (w.alloc (.cells #[.int .u8 ((x.toNat : Int) % 256), .int .u8 ((x.toNat : Int) / 256 % 256), .int .u8 ((x.toNat : Int) / 65536 % 256), .int .u8 ((x.toNat : Int) / 16777216)] 5)) := by
  refine conv_blk (t := 5) ?_ rfl
  rw [le32_cells]
  exact Blk.made w #[.int .u8 ((x.toNat : Int) % 256), .int .u8 ((x.toNat : Int) / 256 % 256), .int .u8 ((x.toNat : Int) / 65536 % 256), .int .u8 ((x.toNat : Int) / 16777216)] 5
set_option maxHeartbeats 4000000 in
set_option maxRecDepth 100000 in
theorem residue_law (s : ByteArray) (w : World) (hE : Env w) :
    Calls Tryd.prog 6 #[.string s] w fun e w' => e = .returned (.bool true) ∧ Below w.heap.size w w' := by
  have HE := Lib.hid hE
  have HS := Lib.hid (small_any w hE)
  clear hE
  by_cases h2 : 2000 < s.size
  · go_enter Tryd.func6, Tryd.ntmps6
    go_wp2_with fail
    refine HS.out.mono ?_
    rintro e w1 ⟨rfl, hb⟩
    go_wp2
    go_ret
    exact ⟨rfl, hb⟩
  · have HC := Lib.hid (fun (w1 : World) (h : Env w1) => crc_any s (by omega) w1 h)
    have hres := Dg.crc_residue s.data.toList
    obtain ⟨C, hC⟩ : ∃ C, Dg.crc s.data.toList = C := ⟨_, rfl⟩
    rw [hC] at HC hres
    clear hC
    have hcv := conv_le32 C
    obtain ⟨LB, hLB⟩ : ∃ B : ByteArray, (⟨(Dg.le32 C).toArray⟩ : ByteArray) = B := ⟨_, rfl⟩
    have lL : LB.data.toList = Dg.le32 C := by rw [← hLB]
    rw [hLB] at hcv
    have hz := Lib.size_eq s
    have hLs : LB.size = 4 := by rw [Lib.size_eq, lL]; rfl
    have hLs1 : LB.size ≤ 4 := by omega
    have hD := Lib.hid (fun (w1 : World) (h : Env w1) => crc_any (s ++ LB) (by rw [Lib.size_eq, bytes_append, List.length_append, ← hz, ← Lib.size_eq]; omega) w1 h)
    have hval : (Dg.crc (s ++ LB).data.toList).toNat = 558161692 := by
      rw [bytes_append, lL, hres]
      rfl
    obtain ⟨V, hV⟩ : ∃ V, (Dg.crc (s ++ LB).data.toList).toNat = V := ⟨_, rfl⟩
    have hD2 : Hid (∀ (w1 : World), Env w1 → Calls Tryd.prog 19 #[.string (s ++ LB)] w1 fun e w' => e = .returned (.int .i64 (558161692 : Int)) ∧ w1 = w') := fun w1 h => (hD.out w1 h).mono fun e w' ⟨he, hw⟩ => ⟨by rw [he, hval]; rfl, hw⟩
    have hCl := C.isLt
    clear hLB lL hz hLs hD hval hV hres
    go_enter Tryd.func6, Tryd.ntmps6
    go_wp2_with fail
    refine HS.out.mono ?_
    rintro e w1 ⟨rfl, hb⟩
    have HB := Lib.hid hb
    clear hb
    go_wp2_with fail
    refine (HC.out w1 (HE.out.new HB.out)).mono ?_
    rintro e w2 ⟨rfl, rfl⟩
    go_wp2_with fail
    refine (hD2.out _ ?_).mono ?_
    · exact HE.out.new (below_alloc HB.out (Nat.le_refl _) _)
    · rintro e w3 ⟨rfl, rfl⟩
      go_wp2
      go_ret
      exact ⟨rfl, below_alloc HB.out (Nat.le_refl _) _⟩
end Go.Proofs.YtdiolhhfbllfeaaDoor
