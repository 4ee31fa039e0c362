/-
  The reference's Decimal: ten and more.
-/
import Derived.Test.YtpigplnnmhjbkaaDoorRefDec
import Derived.RegionTactic
import Derived.Deep.RegionWith
namespace Go.Proofs.YtpigplnnmhjbkaaDoor
open Go Go.RowKit Go.Shelf
/-- The digit's value as the walk spells it. -/
def DigV (u : Nat) : Int := IntKind.u8.wrap (IntKind.i64.wrap (48 + (u : Int) % 10))
theorem digV (u : Nat) : ((UInt8.ofNat (48 + u % 10)).toNat : Int) = IntKind.u8.wrap (IntKind.i64.wrap (48 + (u : Int) % 10)) := by
  rw [Tx.digit_nat (u % 10) (by omega)]
  have e : (48 : Int) + (u : Int) % 10 = ((48 + u % 10 : Nat) : Int) := by omega
  rw [e]
  have hlt : 48 + u % 10 < 58 := by omega
  generalize 48 + u % 10 = n at hlt
  have hall : ∀ n : Fin 58, ((n.val : Nat) : Int) = IntKind.u8.wrap (IntKind.i64.wrap ((n.val : Nat) : Int)) := by decide
  exact hall ⟨n, hlt⟩
theorem conv_at (u : Nat) (W : World) : (convert 38 9 (.slice (some ⟨W.heap.size, 0, none⟩) 1 1)).run Tryd.prog (W.alloc (.cells #[.int .u8 (IntKind.u8.wrap (IntKind.i64.wrap (48 + (u : Int) % 10)))] 5)) = .ok (.string ⟨#[UInt8.ofNat (48 + u % 10)]⟩) (W.alloc (.cells #[.int .u8 (IntKind.u8.wrap (IntKind.i64.wrap (48 + (u : Int) % 10)))] 5)) := by
  have := one_back W (UInt8.ofNat (48 + u % 10))
  rw [digV] at this
  exact this
theorem conv_after (u g : Nat) {W w' : World} (hg : g = W.heap.size) (h : Below (W.alloc (.cells #[.int .u8 (IntKind.u8.wrap (IntKind.i64.wrap (48 + (u : Int) % 10)))] 5)).drew.heap.size (W.alloc (.cells #[.int .u8 (IntKind.u8.wrap (IntKind.i64.wrap (48 + (u : Int) % 10)))] 5)).drew w') :
    (convert 38 9 (.slice (some ⟨g, 0, none⟩) 1 1)).run Tryd.prog w' = .ok (.string ⟨#[UInt8.ofNat (48 + u % 10)]⟩) w' := by
  subst hg
  exact run_convert_bytes_back (P := Tryd.prog) _ 38 9 5 ⟨W.heap.size, 0, none⟩ 1 [UInt8.ofNat (48 + u % 10)] Tryd.underlying38 Tryd.underlying5 Tryd.underlying9 (fun j hj => by
    obtain rfl : j = 0 := by simpa using hj
    rw [Lib.add_plain, h.cell (p := ⟨W.heap.size, 0 + 0, none⟩) (by show W.heap.size < (W.alloc _).heap.size; simp)]
    have := cell_one_new W (.int .u8 (IntKind.u8.wrap (IntKind.i64.wrap (48 + (u : Int) % 10)))) 5 0 _ rfl
    rw [Lib.add_plain] at this
    show (W.alloc _).cell? _ = _
    rw [this, ← digV]; rfl)

set_option maxRecDepth 100000 in
set_option maxHeartbeats 1000000 in
theorem refDec_more (u : Nat) (h10 : ¬ u < 10) (hu : u ≤ 9223372036854775807) (S : ByteArray) (hS : S.size ≤ 30)
    (ih : Hid (∀ (z : Int) (W : World), z = ((u / 10 : Nat) : Int) → Calls Tryd.prog 25 #[.int .i64 z] W fun e w' => e = .returned (.string S) ∧ Below W.heap.size W w')) (w : World) :
    Calls Tryd.prog 25 #[.int .i64 (u : Int)] w fun e w' => e = .returned (.string (S ++ ⟨#[UInt8.ofNat (48 + u % 10)]⟩)) ∧ Below w.heap.size w w' := by
  have e1 : ((u : Int) == -9223372036854775808) = false := by rw [beq_eq_false_iff_ne]; omega
  have e2 : decide ((u : Int) < 0) = false := decide_eq_false (by omega)
  have h10' : decide ((u : Int) < 10) = false := decide_eq_false (by omega)
  have hquo : Int.tdiv (u : Int) 10 = (u : Int) / 10 := Int.tdiv_eq_ediv_of_nonneg (by omega)
  have hrem : Int.tmod (u : Int) 10 = (u : Int) % 10 := Int.tmod_eq_emod_of_nonneg (by omega)
  have hcv := fun W => conv_at u W
  have hcv3 := conv_after u w.heap.size (W := w) rfl (Below.refl _ _)
  have hci : ∀ z : Int, z = IntKind.i64.wrap ((u : Int) / 10) → z = ((u / 10 : Nat) : Int) := fun z h => by
    rw [h]
    have e : (u : Int) / 10 = ((u / 10 : Nat) : Int) := by omega
    rw [e]
    show IntKind.wrap .i64 _ = _
    have hlt : u / 10 ≤ 922337203685477580 := by omega
    simp [IntKind.wrap, IntKind.signed, IntKind.bits]
    omega
  have HCI := Lib.hid hci
  have HC48 : Hid ((48 : UInt8) + UInt8.ofNat (u % 10) = UInt8.ofNat (48 + u % 10)) := by show _ = _; simp
  clear hci
  go_enter Tryd.func25, Tryd.ntmps25
  go_wp2_with fail
  go_region_with (go_at_call 25; refine (ih.out _ _ ?_).mono ?_; exact HCI.out _ rfl; rintro e w' ⟨rfl, hB⟩; first | have hcv2 := conv_after u w.heap.size (h := hB) (hg := by rfl) | skip)
  · have hb : Below w.heap.size w w' := (below_drews (Below.refl _ w) 1).trans hB
    go_wp2
    go_ret
    exact ⟨by show Ending.returned (Value.string (S ++ ⟨#[48 + UInt8.ofNat (u % 10)]⟩)) = _; rw [HC48.out], by first | exact hb.alloc hb.size _ | exact below_drews (hb.alloc hb.size _) _⟩
  · have hb : Below w.heap.size w w' := (below_drews ((Below.refl _ w).alloc (Nat.le_refl _) _) 1).trans (hB.mono (by simp))
    go_wp2
    go_ret
    exact ⟨by show Ending.returned (Value.string (S ++ ⟨#[48 + UInt8.ofNat (u % 10)]⟩)) = _; rw [HC48.out], by first | exact hb | exact below_drews hb _⟩
  · have hb : Below w.heap.size w w' := (below_drews ((Below.refl _ w).alloc (Nat.le_refl _) _) 1).trans (hB.mono (by simp))
    go_wp2
    go_ret
    exact ⟨by show Ending.returned (Value.string (S ++ ⟨#[48 + UInt8.ofNat (u % 10)]⟩)) = _; rw [HC48.out], by first | exact hb | exact below_drews hb _⟩
end Go.Proofs.YtpigplnnmhjbkaaDoor
