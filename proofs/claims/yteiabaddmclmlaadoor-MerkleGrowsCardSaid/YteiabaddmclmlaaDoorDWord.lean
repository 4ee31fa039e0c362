/-
  turn, word, putWord.
-/
import Derived.Test.YteiabaddmclmlaaDoorDMem
namespace Go.Proofs.YteiabaddmclmlaaDoor
open Go Go.RowKit Go.Shelf
set_option maxHeartbeats 1000000 in
set_option maxRecDepth 100000 in
theorem turn_any (x : Dg.W32) (n : Nat) (h1 : 1 ≤ n) (h2 : n ≤ 31) (w : World) :
    Calls Tryd.prog 73 #[.int .u32 x.toNat, .int .i64 n] w fun e w' => e = .returned (.int .u32 (Dg.ror x n).toNat) ∧ w = w' := by
  have HR := Lib.hid (rotl_any x n h1 h2 w)
  go_enter Tryd.func73, Tryd.ntmps73
  go_wp2_with fail
  refine HR.out.mono ?_
  rintro e w1 ⟨rfl, rfl⟩
  go_wp2
  go_ret
  exact ⟨rfl, rfl⟩

namespace Dg
theorem or_add (a b i : Nat) (h : b < 2 ^ i) : (2 ^ i * a) ||| b = 2 ^ i * a + b := (Nat.two_pow_add_eq_or_of_lt h a).symm
theorem word_said (a b c d : UInt8) :
    bits .or .u32 (bits .or .u32 (bits .or .u32 ((a.toNat : Int) * 16777216) ((b.toNat : Int) * 65536)) ((c.toNat : Int) * 256)) (d.toNat : Int) = ((word a b c d).toNat : Int) := by
  have ha := UInt8.toNat_lt a
  have hb := UInt8.toNat_lt b
  have hc := UInt8.toNat_lt c
  have hd := UInt8.toNat_lt d
  have e1 : (a.toNat * 16777216) ||| (b.toNat * 65536) = 65536 * (a.toNat * 256 + b.toNat) := by
    have := or_add a.toNat (b.toNat * 65536) 24 (by omega)
    rw [Nat.mul_comm a.toNat]; exact this.trans (by omega)
  have e2 : (65536 * (a.toNat * 256 + b.toNat)) ||| (c.toNat * 256) = 256 * ((a.toNat * 256 + b.toNat) * 256 + c.toNat) := by
    have := or_add (a.toNat * 256 + b.toNat) (c.toNat * 256) 16 (by omega)
    exact this.trans (by omega)
  have e3 : (256 * ((a.toNat * 256 + b.toNat) * 256 + c.toNat)) ||| d.toNat = ((a.toNat * 256 + b.toNat) * 256 + c.toNat) * 256 + d.toNat := by
    have := or_add ((a.toNat * 256 + b.toNat) * 256 + c.toNat) d.toNat 8 (by omega)
    exact this.trans (by omega)
  have f1 : (a.toNat : Int) * 16777216 = ((a.toNat * 16777216 : Nat) : Int) := by omega
  have f2 : (b.toNat : Int) * 65536 = ((b.toNat * 65536 : Nat) : Int) := by omega
  have f3 : (c.toNat : Int) * 256 = ((c.toNat * 256 : Nat) : Int) := by omega
  rw [f1, f2, f3, u32_or_nat _ _ (by omega) (by omega), e1, u32_or_nat _ _ (by omega) (by omega), e2, u32_or_nat _ _ (by omega) (by omega), e3]
  unfold word
  rw [BitVec.toNat_ofNat, Nat.mod_eq_of_lt (by omega)]
theorem be32_cells (x : W32) : bv (be32 x) = [.int .u8 ((x.toNat : Int) / 16777216), .int .u8 ((x.toNat : Int) / 65536 % 256), .int .u8 ((x.toNat : Int) / 256 % 256), .int .u8 ((x.toNat : Int) % 256)] := by
  have := x.isLt
  unfold bv be32
  simp only [List.map_cons, List.map_nil, UInt8.toNat_ofNat']
  congr 2
  omega
end Dg
set_option maxHeartbeats 1000000 in
set_option maxRecDepth 100000 in
theorem word_any (a b c d : UInt8) (g off n cap : Nat) (w : World) (hn : 4 ≤ n)
    (h0 : w.cell? ⟨g, off, none⟩ = some (.int .u8 a.toNat)) (h1 : w.cell? ⟨g, off + 1, none⟩ = some (.int .u8 b.toNat)) (h2 : w.cell? ⟨g, off + 2, none⟩ = some (.int .u8 c.toNat)) (h3 : w.cell? ⟨g, off + 3, none⟩ = some (.int .u8 d.toNat)) :
    Calls Tryd.prog 81 #[.slice (some ⟨g, off, none⟩) n cap] w fun e w' => e = .returned (.int .u32 (Dg.word a b c d).toNat) ∧ ∃ k, w' = w.drewN k := by
  have ha := UInt8.toNat_lt a
  have hb := UInt8.toNat_lt b
  have hc := UInt8.toNat_lt c
  have hd := UInt8.toNat_lt d
  go_enter Tryd.func81, Tryd.ntmps81
  have HW := Lib.hid (Dg.word_said a b c d)
  go_wp2
  go_region
  go_wp2
  go_ret
  exact ⟨ret_int HW.out, 1, rfl⟩
set_option maxHeartbeats 1000000 in
set_option maxRecDepth 100000 in
theorem putWord_any (x : Dg.W32) (g off n cap : Nat) (t : TypeId) (L : List Value) (w : World) (hn : 4 ≤ n) (hB : Blk w g t L) (hoff : off + 4 ≤ L.length) :
    Calls Tryd.prog 53 #[.slice (some ⟨g, off, none⟩) n cap, .int .u32 x.toNat] w fun e w' => e = .returned (.tuple #[]) ∧ Blk w' g t (splice L off (bv (Dg.be32 x))) ∧ Gr g w w' := by
  have c0 := hB.cell (List.getElem?_eq_getElem (show off < L.length by omega))
  have c1 := hB.cell (List.getElem?_eq_getElem (show off + 1 < L.length by omega))
  have c2 := hB.cell (List.getElem?_eq_getElem (show off + 2 < L.length by omega))
  have c3 := hB.cell (List.getElem?_eq_getElem (show off + 3 < L.length by omega))
  have f0 := hB.free off
  have f1 := hB.free (off + 1)
  have f2 := hB.free (off + 2)
  have f3 := hB.free (off + 3)
  have HB := Lib.hid hB
  have hx := x.isLt
  clear hB
  go_enter Tryd.func53, Tryd.ntmps53
  go_wp2
  refine bodyPost_end (results_none rfl _ _ _) rfl ?_
  refine ⟨rfl, ?_, (((Gr.set _ _ _).trans (Gr.set _ _ _)).trans (Gr.set _ _ _)).trans (Gr.set _ _ _)⟩
  rw [Dg.be32_cells, ← splice_four _ _ _ _ _ _ hoff]
  exact (((HB.out.set _ _).set _ _).set _ _).set _ _
end Go.Proofs.YteiabaddmclmlaaDoor
