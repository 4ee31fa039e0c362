/-
  Results of the digits, by name.
-/
import Derived.Test.YtdleaipcogomfaaDoorDSmall
namespace Go.Proofs.YtdleaipcogomfaaDoor
open Go Go.RowKit Go.Shelf
theorem str_back (h : ByteArray) : (⟨h.data.toList.toArray⟩ : ByteArray) = h := by
  apply ByteArray.ext
  simp
theorem hex_to (s : ByteArray) (hs : s.size ≤ 100000000) (X : ByteArray) (hX : Dg.hex s.data.toList = X.data.toList) (w : World) :
    Calls Tryd.prog 44 #[.string s] w fun e w' => e = .returned (.string X) ∧ Below w.heap.size w w' :=
  (hex_any s hs w).mono fun e w' ⟨h1, h2⟩ => ⟨by rw [h1, hX, str_back], h2⟩
theorem b32_to (s : ByteArray) (hs : s.size ≤ 10000000) (X : ByteArray) (hX : Dg.b32 s.data.toList = X.data.toList) (w : World) :
    Calls Tryd.prog 46 #[.string s] w fun e w' => e = .returned (.string X) ∧ Below w.heap.size w w' :=
  (b32_any s hs w).mono fun e w' ⟨h1, h2⟩ => ⟨by rw [h1, hX, str_back], h2⟩
theorem unhex_some (s : ByteArray) (hs : s.size ≤ 100000000) (X : ByteArray) (hX : Dg.unhex s.data.toList = some X.data.toList) (w : World) :
    Calls Tryd.prog 35 #[.string s] w fun e w' => e = .returned (.tuple #[.string X, .bool true]) ∧ Below w.heap.size w w' :=
  (unhex_any s hs w).mono fun e w' ⟨h1, h2⟩ => ⟨by rw [h1, hX]; show Ending.returned (Value.tuple #[.string ⟨X.data.toList.toArray⟩, .bool true]) = _; rw [str_back], h2⟩
theorem unhex_none (s : ByteArray) (hs : s.size ≤ 100000000) (hX : Dg.unhex s.data.toList = none) (w : World) :
    Calls Tryd.prog 35 #[.string s] w fun e w' => e = .returned (.tuple #[.string ⟨#[]⟩, .bool false]) ∧ Below w.heap.size w w' :=
  (unhex_any s hs w).mono fun e w' ⟨h1, h2⟩ => ⟨by rw [h1, hX]; rfl, h2⟩
theorem unb32_some (s : ByteArray) (hs : s.size ≤ 10000000) (X : ByteArray) (hX : Dg.unb32 s.data.toList = some X.data.toList) (w : World) :
    Calls Tryd.prog 37 #[.string s] w fun e w' => e = .returned (.tuple #[.string X, .bool true]) ∧ Below w.heap.size w w' :=
  (unb32_any s hs w).mono fun e w' ⟨h1, h2⟩ => ⟨by rw [h1, hX]; show Ending.returned (Value.tuple #[.string ⟨X.data.toList.toArray⟩, .bool true]) = _; rw [str_back], h2⟩
theorem unb32_none (s : ByteArray) (hs : s.size ≤ 10000000) (hX : Dg.unb32 s.data.toList = none) (w : World) :
    Calls Tryd.prog 37 #[.string s] w fun e w' => e = .returned (.tuple #[.string ⟨#[]⟩, .bool false]) ∧ Below w.heap.size w w' :=
  (unb32_any s hs w).mono fun e w' ⟨h1, h2⟩ => ⟨by rw [h1, hX]; rfl, h2⟩
theorem unhex_len (h : List UInt8) (l : List UInt8) (e : Dg.unhex h = some l) : h.length = 2 * l.length := by
  rw [← Dg.hex_unhex h l e, Dg.hex_length]
theorem unb32_len (h : List UInt8) (l : List UInt8) (e : Dg.unb32 h = some l) : h.length = (8 * l.length + 4) / 5 := by
  rw [← Dg.b32_unb32 h l e, Dg.b32_length]
end Go.Proofs.YtdleaipcogomfaaDoor
