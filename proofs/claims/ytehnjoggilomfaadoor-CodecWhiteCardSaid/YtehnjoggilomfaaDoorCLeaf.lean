/-
  codec.writeHex, endsLine, skipLineEnd, isUnreserved; what a Builder of bytes does.
-/
import Derived.Test.YtehnjoggilomfaaDoorCHex
namespace Go.Proofs.YtehnjoggilomfaaDoor
open Go Go.RowKit Go.Shelf

/-- Block b is a Builder that holds these bytes. -/
def Bld (B b : Nat) (l : List UInt8) (w : World) : Prop := Lib.IsBuilderF 40 5 B b (Lib.byteCells l) w
theorem wb_any (B b : Nat) (l : List UInt8) (c : UInt8) (w : World) (h : Bld B b l w) (hlen : l.length + 1 ≤ 140737488355328) (hBw : B ≤ w.heap.size) :
    Calls Tryd.prog 23 #[.pointer (some ⟨b, 0, none⟩), .int .u8 c.toNat] w fun e w' => e = .returned .nilIface ∧ Bld B b (l ++ [c]) w' ∧ Below B w w' ∧ KeepsOthers w w' := by
  refine (writeByte_calls B b _ (c.toNat : Int) w h (by rw [Lib.byteCells_length]; exact hlen) hBw).mono ?_
  rintro e w' ⟨h1, h2, h3, h4⟩
  refine ⟨h1, ?_, h3, h4⟩
  unfold Bld
  rw [Lib.byteCells_append]
  exact h2
theorem ws_any (B b : Nat) (l : List UInt8) (s : ByteArray) (w : World) (h : Bld B b l w) (hlen : l.length + s.size ≤ 140737488355328) (hBw : B ≤ w.heap.size) :
    Calls Tryd.prog 34 #[.pointer (some ⟨b, 0, none⟩), .string s] w fun e w' => e = .returned (.tuple #[.int .i64 s.size, .nilIface]) ∧ Bld B b (l ++ s.data.toList) w' ∧ Below B w w' ∧ KeepsOthers w w' := by
  refine (writeString_calls B b _ s w h (by rw [Lib.byteCells_length]; exact hlen) hBw).mono ?_
  rintro e w' ⟨h1, h2, h3, h4⟩
  refine ⟨h1, ?_, h3, h4⟩
  unfold Bld
  rw [Lib.byteCells_append]
  exact h2
theorem str_any (B b : Nat) (l : List UInt8) (w : World) (h : Bld B b l w) (hBw : B ≤ w.heap.size) :
    Calls Tryd.prog 24 #[.pointer (some ⟨b, 0, none⟩)] w fun e w' => e = .returned (.string ⟨l.toArray⟩) ∧ Below B w w' ∧ KeepsOthers w w' := string_calls B b l w h hBw
theorem Bld.fresh (w : World) : Bld w.heap.size w.heap.size [] (w.alloc (.cells #[.pointer none, .slice none 0 0] 40)) := Lib.IsBuilderF.of (Lib.fresh_isBuilder 40 5 w)

/-- A digit is looked up. -/
theorem wpList_hexD (w : World) {ops : Array Oper} {rest : List Oper} {o : Oper} {a : Act} {Q : Exit → Act → World → Prop}
    (hg : o.guard = none) (m x : Operand) (hop : o.op = Op.lookup 35 m x false) (b n : Nat) (q : Nat) (d : UInt8) (hd : Cd.hexD q = d) (hq : q < 256)
    (hm : a.eval m = .map (some b)) (h : Tab b n (Cd.digF Cd.hexs 16) w) (ki : Int) (hx : a.eval x = .int .u8 ki) (hki : ki = q)
    (hK : wpList Tryd.prog ops Q rest (a.put o.dst (.int .u8 d.toNat)) w) :
    wpList Tryd.prog ops Q (o :: rest) a w :=
  wpList_tab w hg m x hop b n _ (UInt8.ofNat q) hm h ki hx (by rw [hki]; simp; omega) (by subst hd; exact hK)
theorem and15 (c : UInt8) : bits .and .u8 (c.toNat : Int) 15 = ((c.toNat % 16 : Nat) : Int) := by
  have H : ∀ k : Fin 256, bits .and .u8 (k.val : Int) 15 = ((k.val % 16 : Nat) : Int) := by decide +kernel
  exact H ⟨c.toNat, UInt8.toNat_lt c⟩

set_option maxHeartbeats 1000000 in
set_option maxRecDepth 100000 in
theorem writeHex_any (B b : Nat) (l : List UInt8) (m c : UInt8) (t n : Nat) (w : World) (h : Bld B b l w) (hT : Tab t n (Cd.digF Cd.hexs 16) w) (htB : t < B) (hlen : l.length ≤ 1000000000) (hBw : B ≤ w.heap.size) :
    Calls Tryd.prog 35 #[.pointer (some ⟨b, 0, none⟩), .int .u8 m.toNat, .int .u8 c.toNat, .map (some t)] w fun e w' =>
      e = .returned (.tuple #[]) ∧ Bld B b (l ++ [m, Cd.hexD (c.toNat / 16), Cd.hexD (c.toNat % 16)]) w' ∧ Below B w w' ∧ KeepsOthers w w' := by
  have cl := UInt8.toNat_lt c
  have ha := and15 c
  obtain ⟨d1, hd1⟩ : ∃ d, Cd.hexD (c.toNat / 16) = d := ⟨_, rfl⟩
  obtain ⟨d2, hd2⟩ : ∃ d, Cd.hexD (c.toNat % 16) = d := ⟨_, rfl⟩
  rw [hd1, hd2]
  have H1 := Lib.hid hd1
  have H2 := Lib.hid hd2
  have g1 : ((c.toNat : Int) / 16) = ((c.toNat / 16 : Nat) : Int) := by omega
  have G1 := Lib.hid g1
  obtain ⟨r, hr⟩ : ∃ r : Nat, c.toNat % 16 = r := ⟨_, rfl⟩
  rw [hr] at ha H2
  have rl : r < 16 := by omega
  clear hd1 hd2 g1 hr
  go_enter Tryd.func35, Tryd.ntmps35
  go_wp2_with fail
  refine (wb_any B b l m w h (by omega) hBw).mono ?_
  rintro e w1 ⟨rfl, h1, hB1, hk1⟩
  have hT1 := hT.below hB1 htB
  have hs1 := Nat.le_trans hBw hB1.size
  go_wp2_with (first
    | (at_lookup; refine wpList_hexD _ rfl _ _ rfl t n _ d1 H1.out (by omega) rfl hT1 _ rfl G1.out ?_))
  refine (wb_any B b _ d1 w1 h1 (by simp; omega) hs1).mono ?_
  rintro e w2 ⟨rfl, h2, hB2, hk2⟩
  have hT2 := hT1.below hB2 htB
  have hs2 := Nat.le_trans hs1 hB2.size
  go_wp2_with (first
    | (at_lookup; refine wpList_hexD _ rfl _ _ rfl t n r d2 H2.out (by omega) rfl hT2 _ rfl rfl ?_))
  refine (wb_any B b _ d2 w2 h2 (by simp; omega) hs2).mono ?_
  rintro e w3 ⟨rfl, h3, hB3, hk3⟩
  go_wp2
  go_end0
  exact ⟨rfl, by simpa using h3, (hB1.trans hB2).trans hB3, (hk1.trans hk2).trans hk3⟩
end Go.Proofs.YtehnjoggilomfaaDoor
