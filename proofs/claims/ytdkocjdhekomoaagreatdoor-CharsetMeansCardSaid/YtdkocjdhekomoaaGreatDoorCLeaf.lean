/-
  codec.writeHex, endsLine, skipLineEnd, isUnreserved; what a Builder of bytes does.
-/
import Derived.Test.YtdkocjdhekomoaaGreatDoorCHex
namespace Go.Proofs.YtdkocjdhekomoaaGreatDoor
open Go Go.RowKit Go.Shelf

/-- Block b is a Builder that holds these bytes. -/
def Bld (B b : Nat) (l : List UInt8) (w : World) : Prop := Lib.IsBuilderF 40 5 B b (Lib.byteCells l) w
theorem wb_any (B b : Nat) (l : List UInt8) (c : UInt8) (w : World) (h : Bld B b l w) (hlen : l.length + 1 ≤ 140737488355328) (hBw : B ≤ w.heap.size) :
    Calls Tryz.prog 103 #[.pointer (some ⟨b, 0, none⟩), .int .u8 c.toNat] w fun e w' => e = .returned .nilIface ∧ Bld B b (l ++ [c]) w' ∧ Below B w w' ∧ KeepsOthers w w' := by
  refine (writeByte_calls B b _ (c.toNat : Int) w h (by rw [Lib.byteCells_length]; exact hlen) hBw).mono ?_
  rintro e w' ⟨h1, h2, h3, h4⟩
  refine ⟨h1, ?_, h3, h4⟩
  unfold Bld
  rw [Lib.byteCells_append]
  exact h2
theorem ws_any (B b : Nat) (l : List UInt8) (s : ByteArray) (w : World) (h : Bld B b l w) (hlen : l.length + s.size ≤ 140737488355328) (hBw : B ≤ w.heap.size) :
    Calls Tryz.prog 41 #[.pointer (some ⟨b, 0, none⟩), .string s] w fun e w' => e = .returned (.tuple #[.int .i64 s.size, .nilIface]) ∧ Bld B b (l ++ s.data.toList) w' ∧ Below B w w' ∧ KeepsOthers w w' := by
  refine (writeString_calls B b _ s w h (by rw [Lib.byteCells_length]; exact hlen) hBw).mono ?_
  rintro e w' ⟨h1, h2, h3, h4⟩
  refine ⟨h1, ?_, h3, h4⟩
  unfold Bld
  rw [Lib.byteCells_append]
  exact h2
theorem str_any (B b : Nat) (l : List UInt8) (w : World) (h : Bld B b l w) (hBw : B ≤ w.heap.size) :
    Calls Tryz.prog 39 #[.pointer (some ⟨b, 0, none⟩)] w fun e w' => e = .returned (.string ⟨l.toArray⟩) ∧ Below B w w' ∧ KeepsOthers w w' := string_calls B b l w h hBw
theorem Bld.fresh (w : World) : Bld w.heap.size w.heap.size [] (w.alloc (.cells #[.pointer none, .slice none 0 0] 40)) := Lib.IsBuilderF.of (Lib.fresh_isBuilder 40 5 w)

/-- A digit is looked up. -/
theorem wpList_hexD (w : World) {ops : Array Oper} {rest : List Oper} {o : Oper} {a : Act} {Q : Exit → Act → World → Prop}
    (hg : o.guard = none) (m x : Operand) (hop : o.op = Op.lookup 89 m x false) (b n : Nat) (q : Nat) (d : UInt8) (hd : Cd.hexD q = d) (hq : q < 256)
    (hm : a.eval m = .map (some b)) (h : Tab b n (Cd.digF Cd.hexs 16) w) (ki : Int) (hx : a.eval x = .int .u8 ki) (hki : ki = q)
    (hK : wpList Tryz.prog ops Q rest (a.put o.dst (.int .u8 d.toNat)) w) :
    wpList Tryz.prog ops Q (o :: rest) a w :=
  wpList_tab w hg m x hop b n _ (UInt8.ofNat q) hm h ki hx (by rw [hki]; simp; omega) (by subst hd; exact hK)
theorem and15 (c : UInt8) : bits .and .u8 (c.toNat : Int) 15 = ((c.toNat % 16 : Nat) : Int) := by
  have H : ∀ k : Fin 256, bits .and .u8 (k.val : Int) 15 = ((k.val % 16 : Nat) : Int) := by decide +kernel
  exact H ⟨c.toNat, UInt8.toNat_lt c⟩

theorem drop_next (s : ByteArray) (k : Nat) (h : k < s.size) : s.data.toList.drop k = s[k]'h :: s.data.toList.drop (k + 1) := by
  rw [List.drop_eq_getElem_cons (by rw [← Lib.size_eq]; exact h)]; rfl
theorem extract_eq (s : ByteArray) (f u : Nat) : (s.extract f u).data.toList = (s.data.toList.take u).drop f := by simp [List.drop_take]
theorem extract_end (s : ByteArray) (f : Nat) : (s.extract f s.size).data.toList = s.data.toList.drop f := by
  rw [extract_eq, List.take_of_length_le (by rw [Lib.size_eq]; exact Nat.le_refl _)]
theorem ret_sb {l m : List UInt8} {x y : Bool} (h : l = m) (hx : x = y) : Ending.returned (.tuple #[.string ⟨l.toArray⟩, .bool x]) = .returned (.tuple #[.string ⟨m.toArray⟩, .bool y]) := by rw [h, hx]
end Go.Proofs.YtdkocjdhekomoaaGreatDoor
