/-
  The reference's White.
-/
import Derived.Test.YtehnjoggilomfaaDoorCBack
namespace Go.Proofs.YtehnjoggilomfaaDoor
open Go Go.RowKit Go.Shelf
namespace Tx
theorem byte_all {P : UInt8 → Prop} (h : ∀ n : Fin 256, P (UInt8.ofNat n.val)) (c : UInt8) : P c := by
  have := h ⟨c.toNat, UInt8.toNat_lt c⟩
  simpa using this
end Tx
set_option maxHeartbeats 1000000 in
set_option maxRecDepth 100000 in
theorem refWhite_to {c : UInt8} {g : Bool} (hg : Tx.isW c = g) (w : World) :
    Calls Tryd.prog 15 #[.int .u8 c.toNat] w fun e w' => e = .returned (.bool g) ∧ ∃ n, w' = w.drewN n := by
  have key : g = (((c.toNat : Int) == 9) || (((c.toNat : Int) == 10) || (((c.toNat : Int) == 13) || ((c.toNat : Int) == 32)))) := by
    rw [← hg]
    exact Tx.byte_all (P := fun c => Tx.isW c = (((c.toNat : Int) == 9) || (((c.toNat : Int) == 10) || (((c.toNat : Int) == 13) || ((c.toNat : Int) == 32))))) (by decide +kernel) c
  clear hg
  generalize (c.toNat : Int) = z at key ⊢
  cases h9 : z == 9 <;> cases h10 : z == 10 <;> cases h13 : z == 13 <;> cases h32 : z == 32 <;> rw [h9, h10, h13, h32] at key <;> subst key <;>
  · go_enter Tryd.func15, Tryd.ntmps15
    go_wp2
    go_ret
    exact ⟨rfl, 0, rfl⟩

end Go.Proofs.YtehnjoggilomfaaDoor
