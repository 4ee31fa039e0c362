/-
  codec.hexByte, writeHex, endsLine, skipLineEnd, isUnreserved; what a Builder of bytes does.
-/
import Derived.Test.YtdkocjdhekomoaaGreatDoorCMaps
namespace Go.Proofs.YtdkocjdhekomoaaGreatDoor
open Go Go.RowKit Go.Shelf

theorem wpList_tab_yes (w : World) {ops : Array Oper} {rest : List Oper} {o : Oper} {a : Act} {Q : Exit → Act → World → Prop}
    (hg : o.guard = none) (m x : Operand) (hop : o.op = Op.lookup 89 m x true) (b n : Nat) (f : UInt8 → Option UInt8) (c v : UInt8) (hf : f c = some v)
    (hm : a.eval m = .map (some b)) (h : Tab b n f w) (ki : Int) (hx : a.eval x = .int .u8 ki) (hki : ki = c.toNat)
    (hK : wpList Tryz.prog ops Q rest (a.put o.dst (.tuple #[.int .u8 v.toNat, .bool true])) w) :
    wpList Tryz.prog ops Q (o :: rest) a w :=
  wpList_tab_ok w hg m x hop b n f c hm h ki hx hki (by rw [hf]; exact hK)
theorem wpList_tab_no (w : World) {ops : Array Oper} {rest : List Oper} {o : Oper} {a : Act} {Q : Exit → Act → World → Prop}
    (hg : o.guard = none) (m x : Operand) (hop : o.op = Op.lookup 89 m x true) (b n : Nat) (f : UInt8 → Option UInt8) (c : UInt8) (hf : f c = none)
    (hm : a.eval m = .map (some b)) (h : Tab b n f w) (ki : Int) (hx : a.eval x = .int .u8 ki) (hki : ki = c.toNat)
    (hK : wpList Tryz.prog ops Q rest (a.put o.dst (.tuple #[.int .u8 0, .bool false])) w) :
    wpList Tryz.prog ops Q (o :: rest) a w :=
  wpList_tab_ok w hg m x hop b n f c hm h ki hx hki (by rw [hf]; exact hK)
namespace Cd
theorem hexF_lt {c v : UInt8} (h : hexF c = some v) : v.toNat < 16 := by
  have H : ∀ k : Fin 256, (match hexF (UInt8.ofNat k.val) with | some v => decide (v.toNat < 16) | none => true) = true := by decide +kernel
  have := H ⟨c.toNat, UInt8.toNat_lt c⟩
  simp only [UInt8.ofNat_toNat] at this
  rw [h] at this
  simpa using this
theorem nib_or8 (x y : Nat) (hx : x < 16) (hy : y < 16) : bits .or .u8 ((x : Int) * 16) (y : Int) = ((UInt8.ofNat (x * 16 + y)).toNat : Int) := by
  have H : ∀ x y : Fin 16, bits .or .u8 ((x.val : Int) * 16) (y.val : Int) = ((UInt8.ofNat (x.val * 16 + y.val)).toNat : Int) := by decide +kernel
  exact H ⟨x, hx⟩ ⟨y, hy⟩
theorem hex2_at (s : ByteArray) (h : 2 ≤ s.size) : hex2 s.data.toList = match hexF (s[0]'(by omega)), hexF (s[1]'(by omega)) with
    | some x, some y => some (UInt8.ofNat (x.toNat * 16 + y.toNat))
    | _, _ => none := by
  have e : s.data.toList = s[0]'(by omega) :: s[1]'(by omega) :: s.data.toList.drop 2 := by
    have h1 := Lib.size_eq s
    rw [← List.drop_zero (l := s.data.toList)]
    rw [List.drop_eq_getElem_cons (by omega), List.drop_eq_getElem_cons (i := 1) (by omega)]
    rfl
  rw [e]; rfl
theorem hex2_short (s : ByteArray) (h : s.size < 2) : hex2 s.data.toList = none := by
  have h1 := Lib.size_eq s
  match hl : s.data.toList, h1 with
  | [], _ => rfl
  | [_], _ => rfl
  | a :: b :: r, h1 => simp at h1; omega
end Cd
theorem ret_hex {a b : Int} {x y : Bool} (h : a = b) (hx : x = y) : Ending.returned (.tuple #[.int .u8 a, .bool x]) = .returned (.tuple #[.int .u8 b, .bool y]) := by rw [h, hx]

end Go.Proofs.YtdkocjdhekomoaaGreatDoor
