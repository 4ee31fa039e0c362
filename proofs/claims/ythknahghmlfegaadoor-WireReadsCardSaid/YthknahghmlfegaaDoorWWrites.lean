/-
  Writing lists.
-/
import Derived.Test.YthknahghmlfegaaDoorWWrite
import Derived.Test.YthknahghmlfegaaDoorWList
namespace Go.Proofs.YthknahghmlfegaaDoor
open Go Go.RowKit Go.Shelf

/-- A value's cells lie from an address on. -/
structure RowV (W : World) (xa : Option Addr) (b off : Nat) (vs : List Value) : Prop where
  at_ : 0 < vs.length → xa = some ⟨b, off, none⟩
  cell : ∀ (j : Nat) (x : Value), vs[j]? = some x → W.cell? ⟨b, off + j, none⟩ = some x
  lt : 0 < vs.length → b < W.heap.size
theorem RowV.keep {W W' : World} {xa : Option Addr} {b off : Nat} {vs : List Value} (h : RowV W xa b off vs) (hb : 0 < vs.length → b < W.heap.size → W'.heap[b]? = W.heap[b]?) (hs : W.heap.size ≤ W'.heap.size) : RowV W' xa b off vs :=
  ⟨h.at_, fun j x hj => by
    have hp : 0 < vs.length := by have := (List.getElem?_eq_some_iff.1 hj).1; omega
    exact (World.cell?_of_block (a := ⟨b, off + j, none⟩) (hb hp (h.lt hp))).trans (h.cell j x hj), fun hp => Nat.lt_of_lt_of_le (h.lt hp) hs⟩
theorem RowV.below {W W' : World} {xa : Option Addr} {b off : Nat} {vs : List Value} (h : RowV W xa b off vs) (hb : Below W.heap.size W W') : RowV W' xa b off vs :=
  h.keep (fun _ hl => hb.block b hl) hb.size
theorem rowV_own {W : World} {base : Nat} {e : TypeId} {v : Value} {n : Nat} {vs : List Value} (h : W.ownsRow base e 1 v n vs) : ∃ xa b cap, v = .slice xa n cap ∧ RowV W xa b 0 vs ∧ (0 < vs.length → base ≤ b) := by
  have hx := h.1
  rcases h.2 with ⟨rfl, rfl⟩ | ⟨g, cap, cur, rfl, hb, hg, _, _, _, ht⟩
  · have : vs = [] := List.eq_nil_of_length_eq_zero (by omega)
    subst this
    exact ⟨none, 0, 0, rfl, ⟨fun h => absurd h (by simp), fun j x hj => by simp at hj, fun h => absurd h (by simp)⟩, fun h => absurd h (by simp)⟩
  · refine ⟨_, g, cap, rfl, ⟨fun _ => rfl, fun j x hj => ?_, fun _ => (Array.getElem?_eq_some_iff.1 hg).1⟩, fun _ => hb⟩
    have hjl : j < vs.length := (List.getElem?_eq_some_iff.1 hj).1
    have : cur[j]? = some x := by
      rw [← ht, List.getElem?_take_of_lt (by omega)] at hj
      simpa using hj
    rw [Nat.zero_add]
    simp [World.cell?, hg, this]

/-- A builder abides what makes blocks of its own. -/
theorem builder_kept {T e : TypeId} {B b : Nat} {bs : List Value} {W W' : World} (h : Lib.IsBuilderF T e B b bs W) (hg : Below W.heap.size W W') : Lib.IsBuilderF T e B b bs W' := by
  have keep : ∀ (k : Nat) (c : Array Value) (t : TypeId) (fz : Nat × Nat), W.heap[k]? = some (.cells c t fz) → W'.heap[k]? = some (.cells c t fz) := by
    intro k c t fz hk
    exact (hg.block k (Array.getElem?_eq_some_iff.1 hk).1).trans hk
  have step : ∀ p, Lib.BuilderAtF T e B b p bs W → Lib.BuilderAtF T e B b p bs W' := by
    rintro p ⟨hB, v, hv, ⟨hl, hrow⟩, hne⟩
    refine ⟨hB, v, keep _ _ _ _ hv, ⟨hl, ?_⟩, hne⟩
    rcases hrow with h | ⟨g, cap, cur, fz, h1, h2, h3, h4⟩
    · exact .inl h
    · exact .inr ⟨g, cap, cur, fz, h1, h2, keep _ _ _ _ h3, h4⟩
  exact h.elim (fun h => .inl (step _ h)) (fun h => .inr (step _ h))
theorem writeByte_calls (B b : Nat) (bs : List Value) (c : Int) (w : World) (h : Lib.IsBuilderF 67 5 B b bs w) (hlen : bs.length + 1 ≤ 140737488355328) (hBw : B ≤ w.heap.size) :
    Calls Tryd.prog 59 #[.pointer (some ⟨b, 0, none⟩), .int .u8 c] w fun e w' => e = .returned .nilIface ∧ Lib.IsBuilderF 67 5 B b (bs ++ [.int .u8 c]) w' ∧ Below B w w' :=
  (Any.Builder_WriteByte_k Tryd.lays167 Tryd.Builder_Extra_167 B b bs c w h hlen hBw).mono fun _ _ ⟨h1, h2, h3, _⟩ => ⟨h1, .inr h2, h3⟩
theorem writeString_calls (B b : Nat) (bs : List Value) (s : ByteArray) (w : World) (h : Lib.IsBuilderF 67 5 B b bs w) (hlen : bs.length + s.size ≤ 140737488355328) (hBw : B ≤ w.heap.size) :
    Calls Tryd.prog 58 #[.pointer (some ⟨b, 0, none⟩), .string s] w fun e w' => e = .returned (.tuple #[.int .i64 s.size, .nilIface]) ∧ Lib.IsBuilderF 67 5 B b (bs ++ Lib.byteCells s.data.toList) w' ∧ Below B w w' :=
  (Any.Builder_WriteString_k Tryd.lays166 Tryd.Builder_Extra_166 B b bs s w h hlen hBw).mono fun _ _ ⟨h1, h2, h3, _⟩ => ⟨h1, .inr h2, h3⟩
theorem string_calls (B b : Nat) (l : List UInt8) (w : World) (h : Lib.IsBuilderF 67 5 B b (Lib.byteCells l) w) (hBw : B ≤ w.heap.size) :
    Calls Tryd.prog 60 #[.pointer (some ⟨b, 0, none⟩)] w fun e w' => e = .returned (.string ⟨l.toArray⟩) ∧ Below B w w' :=
  (Any.Builder_String_any_k Tryd.lays169 Tryd.Builder_X72_169 B b l w h hBw).mono fun _ _ ⟨h1, _, h3, _⟩ => ⟨h1, h3⟩

namespace Wr
/-- What is written ahead of the elements; what is written when k of them are. -/
def listHead (n : Nat) : List UInt8 := Lib.itoa n ++ [91]
def part {α : Type} (enc : α → List UInt8) (X : List α) (k : Nat) : List UInt8 := listHead X.length ++ ((X.take k).map enc).flatten
theorem part_zero {α : Type} (enc : α → List UInt8) (X : List α) : part enc X 0 = listHead X.length := by simp [part]
theorem part_succ {α : Type} (enc : α → List UInt8) (X : List α) (k : Nat) (h : k < X.length) : part enc X (k + 1) = part enc X k ++ enc X[k] := by
  unfold part; rw [List.take_succ_eq_append_getElem h, List.map_append, List.flatten_append]; simp only [List.map_cons, List.map_nil, List.flatten_cons, List.flatten_nil, List.append_nil, List.append_assoc]
theorem part_end {α : Type} (enc : α → List UInt8) (X : List α) : part enc X X.length ++ [93] = encList enc X := by
  unfold part listHead encList; rw [List.take_length]; simp
theorem flat_take {α : Type} (enc : α → List UInt8) (X : List α) (k : Nat) : ((X.take k).map enc).flatten.length ≤ (X.map enc).flatten.length := by
  have h : (X.map enc).flatten = ((X.take k).map enc).flatten ++ ((X.drop k).map enc).flatten := by rw [← List.flatten_append, ← List.map_append, List.take_append_drop]
  rw [h, List.length_append]; omega
theorem part_len {α : Type} (enc : α → List UInt8) (X : List α) (k : Nat) (hX : X.length ≤ 1000000) (ht : (X.map enc).flatten.length ≤ 100000000) : (part enc X k).length ≤ 100000021 := by
  unfold part listHead
  have h1 := flat_take enc X k
  have h2 := itoa_len (i64_nat (show X.length ≤ 9223372036854775807 by omega))
  simp only [List.length_append, List.length_cons, List.length_nil]
  omega
theorem ints_len : ∀ X : List Int, (∀ x ∈ X, i64 x) → (X.map encInt).flatten.length ≤ 21 * X.length
  | [], _ => by simp
  | x :: r, h => by
    have h1 := ints_len r (fun y hy => h y (by simp [hy]))
    have h2 := itoa_len (h x (by simp))
    simp only [List.map_cons, List.flatten_cons, List.length_append, List.length_cons, encInt, List.length_nil] at h1 ⊢
    omega
end Wr

/-- Between two rounds: what the builder holds. -/
def WrI (w : World) (cur : List UInt8) (W : World) : Prop := Lib.IsBuilderF 67 5 w.heap.size w.heap.size (Lib.byteCells cur) W ∧ Below w.heap.size w W

set_option maxRecDepth 100000 in
set_option maxHeartbeats 4000000 in
theorem writeInts_any (xa : Option Addr) (b off cap : Nat) (X : List Int) (w : World) (hr : RowV w xa b off (X.map (Value.int .i64))) (hl : X.length ≤ 1000000) (ht : (X.map Wr.encInt).flatten.length ≤ 100000000) (hX : ∀ x ∈ X, Wr.i64 x) (hE : Env w) :
    Calls Tryd.prog 44 #[.slice xa X.length cap, .func (.func 13) #[] #[]] w fun e w' => e = .returned (.string ⟨(Wr.encList Wr.encInt X).toArray⟩) ∧ Below w.heap.size w w' := by
  have hfr : WrI w [] (w.alloc (.cells #[.pointer none, .slice none 0 0] 67)) := ⟨Lib.IsBuilderF.of (Lib.fresh_isBuilder 67 5 w), (Below.refl _ w).alloc (Nat.le_refl _) _⟩
  have HI0 := Lib.hid (fun W hE => itoa_calls (X.length : Int) (Wr.i64_nat (by omega)) W hE)
  have hil := Wr.itoa_len (Wr.i64_nat (show X.length ≤ 9223372036854775807 by omega))
  obtain ⟨D, hD⟩ : ∃ D : ByteArray, (⟨(Lib.itoa (X.length : Int)).toArray⟩ : ByteArray) = D := ⟨_, rfl⟩
  have hDl : D.data.toList = Lib.itoa (X.length : Int) := by rw [← hD]
  rw [hD] at HI0
  rw [← hDl, ← Lib.size_eq] at hil
  have HD := Lib.hid hDl
  have HR := Lib.hid hr
  have HT := Lib.hid ht
  have HF := Lib.hid hfr
  have HE := Lib.hid hE
  have HX := Lib.hid hX
  clear hr ht hfr hD hDl hE hX
  go_enter Tryd.func44, Tryd.ntmps44
  go_wp2_with fail
  refine (HI0.out _ (HE.out.new HF.out.2)).mono ?_
  rintro x w1 ⟨rfl, hB1⟩
  obtain ⟨hI, hB⟩ := id HF.out
  have hI1 := builder_kept hI hB1
  have hB01 : Below w.heap.size w w1 := hB.trans (hB1.mono hB.size)
  have hs1 := hB01.size
  have HI1 := Lib.hid hI1
  have HB1 := Lib.hid hB01
  clear hI hB hI1 hB1 hB01
  go_wp2_with fail
  refine (writeString_calls w.heap.size w.heap.size _ _ _ HI1.out (by show (Lib.byteCells []).length + _ ≤ _; rw [Lib.byteCells_length, List.length_nil]; omega) hs1).mono ?_
  rintro x w2 ⟨rfl, hI2, hB2⟩
  have hs2 := Nat.le_trans hs1 hB2.size
  have HI2 := Lib.hid hI2
  have HB2 := Lib.hid (HB1.out.trans hB2)
  clear hI2 hB2
  go_wp2_with fail
  refine (writeByte_calls w.heap.size w.heap.size _ _ _ HI2.out (by rw [List.length_append, Lib.byteCells_length, Lib.byteCells_length, ← Lib.size_eq, List.length_nil]; omega) hs2).mono ?_
  rintro x w3 ⟨rfl, hI3, hB3⟩
  have H3 : Hid (WrI w (Wr.part Wr.encInt X 0) w3) := by
    refine ⟨?_, HB2.out.trans hB3⟩
    rw [Wr.part_zero]
    unfold Wr.listHead
    rw [Lib.byteCells_append, ← HD.out]
    exact hI3
  clear hI3 hB3
  go_wp2_with fail
  go_loopw [15] (fun i wr => ∃ k : Nat, i = .int .i64 k ∧ k ≤ X.length ∧ Hid (WrI w (Wr.part Wr.encInt X k) wr)) (fun i _ => X.length - (intOf i).toNat)
  case atStart => exact ⟨0, rfl, Nat.zero_le _, H3.out⟩
  case round =>
    obtain ⟨k, rfl, hk, hun⟩ := hrel
    have hpl := Wr.part_len Wr.encInt X k hl HT.out
    obtain ⟨hI, hB⟩ := id hun.out
    have hsW := hB.size
    obtain ⟨bs, hbs⟩ : ∃ bs, Lib.byteCells (Wr.part Wr.encInt X k) = bs := ⟨_, rfl⟩
    have hbl : bs.length ≤ 100000021 := by rw [← hbs, Lib.byteCells_length]; exact hpl
    by_cases hlt : k < X.length
    · obtain rfl := HR.out.at_ (by rw [List.length_map]; omega)
      have HP := Lib.hid (Wr.part_succ Wr.encInt X k hlt)
      have hel := Wr.part_len Wr.encInt X (k + 1) hl HT.out
      rw [Wr.part_succ Wr.encInt X k hlt, List.length_append] at hel
      have hcell := HR.out.cell k ((Value.int .i64) X[k]) (by rw [List.getElem?_map, List.getElem?_eq_getElem hlt]; rfl)
      have hxi := HX.out _ (List.getElem_mem hlt)
      obtain ⟨y, hy⟩ : ∃ y, X[k] = y := ⟨_, rfl⟩
      rw [hy] at hcell HP hel hxi
      have HXI := Lib.hid hxi
      clear hxi hy
      have c0 : wr.cell? ⟨b, off + k, none⟩ = some (.int .i64 y) := by
        rw [← hcell]
        exact hB.cell (p := ⟨b, off + k, none⟩) (HR.out.lt (by rw [List.length_map]; omega))
      have HEr := Lib.hid (HE.out.new hB)
      rw [hbs] at hI
      have HI := Lib.hid hI
      have HB := Lib.hid hB
      have HBS := Lib.hid hbs
      clear hI hB hbs hun hcell hpl
      go_wp2_with fail
      refine (wint_any y HXI.out _ HEr.out).mono ?_
      rintro x w4 ⟨rfl, hB4⟩
      have hI4 := builder_kept HI.out hB4
      have hB04 : Below w.heap.size w w4 := HB.out.trans (hB4.mono hsW)
      have hs4 := hB04.size
      have HI4 := Lib.hid hI4
      have HB4 := Lib.hid hB04
      clear hI4 hB4 hB04
      go_wp2_with fail
      refine (writeString_calls w.heap.size w.heap.size _ _ _ HI4.out (by rw [Wr.bs_len]; omega) hs4).mono ?_
      rintro x w5 ⟨rfl, hI5, hB5⟩
      have HN : Hid (WrI w (Wr.part Wr.encInt X (k + 1)) w5) := by
        refine ⟨?_, HB4.out.trans hB5⟩
        rw [HP.out, Lib.byteCells_append, HBS.out]
        exact hI5
      clear hI5 hB5
      go_wp2
      go_roundw
      case rel => exact ⟨k + 1, by go_num, by omega, HN.out⟩
      case measure => simp [intOf]; omega
    · obtain rfl : k = X.length := by omega
      rw [hbs] at hI
      have HI := Lib.hid hI
      have HB := Lib.hid hB
      have HBS := Lib.hid hbs
      clear hI hB hbs hun hpl
      go_wp2_with fail
      refine (writeByte_calls w.heap.size w.heap.size _ _ _ HI.out (by omega) hsW).mono ?_
      rintro x w4 ⟨rfl, hI4, hB4⟩
      have hs4 := Nat.le_trans hsW hB4.size
      have HI4 : Hid (Lib.IsBuilderF 67 5 w.heap.size w.heap.size (Lib.byteCells (Wr.encList Wr.encInt X)) w4) := by
        show Lib.IsBuilderF _ _ _ _ _ _
        rw [← Wr.part_end, Lib.byteCells_append, HBS.out]
        exact hI4
      have HB4 := Lib.hid (HB.out.trans hB4)
      clear hI4 hB4
      go_wp2_with fail
      refine (string_calls w.heap.size w.heap.size _ _ HI4.out hs4).mono ?_
      rintro x w5 ⟨rfl, hB5⟩
      go_wp2
      go_ret
      exact ⟨rfl, HB4.out.trans hB5⟩

set_option maxHeartbeats 1000000 in
set_option maxRecDepth 100000 in
theorem wnums_any (xa : Option Addr) (b off cap : Nat) (X : List Int) (w : World) (hr : RowV w xa b off (X.map (Value.int .i64))) (hl : X.length ≤ 1000000) (ht : (X.map Wr.encInt).flatten.length ≤ 100000000) (hX : ∀ x ∈ X, Wr.i64 x) (hE : Env w) :
    Calls Tryd.prog 17 #[.slice xa X.length cap] w fun e w' => e = .returned (.string ⟨(Wr.encList Wr.encInt X).toArray⟩) ∧ Below w.heap.size w w' := by
  have H := Lib.hid (writeInts_any xa b off cap X w hr hl ht hX hE)
  clear hr hl ht hE hX
  go_enter Tryd.func17, Tryd.ntmps17
  go_wp2_with fail
  refine H.out.mono ?_
  rintro x w1 ⟨rfl, hB⟩
  go_wp2
  go_ret
  exact ⟨rfl, hB⟩

set_option maxRecDepth 100000 in
set_option maxHeartbeats 4000000 in
theorem writeTexts_any (xa : Option Addr) (b off cap : Nat) (X : List (List UInt8)) (w : World) (hr : RowV w xa b off (X.map encStr)) (hl : X.length ≤ 1000000) (ht : (X.map Wr.encText).flatten.length ≤ 100000000) (hE : Env w) :
    Calls Tryd.prog 45 #[.slice xa X.length cap, .func (.func 15) #[] #[]] w fun e w' => e = .returned (.string ⟨(Wr.encList Wr.encText X).toArray⟩) ∧ Below w.heap.size w w' := by
  have hfr : WrI w [] (w.alloc (.cells #[.pointer none, .slice none 0 0] 67)) := ⟨Lib.IsBuilderF.of (Lib.fresh_isBuilder 67 5 w), (Below.refl _ w).alloc (Nat.le_refl _) _⟩
  have HI0 := Lib.hid (fun W hE => itoa_calls (X.length : Int) (Wr.i64_nat (by omega)) W hE)
  have hil := Wr.itoa_len (Wr.i64_nat (show X.length ≤ 9223372036854775807 by omega))
  obtain ⟨D, hD⟩ : ∃ D : ByteArray, (⟨(Lib.itoa (X.length : Int)).toArray⟩ : ByteArray) = D := ⟨_, rfl⟩
  have hDl : D.data.toList = Lib.itoa (X.length : Int) := by rw [← hD]
  rw [hD] at HI0
  rw [← hDl, ← Lib.size_eq] at hil
  have HD := Lib.hid hDl
  have HR := Lib.hid hr
  have HT := Lib.hid ht
  have HF := Lib.hid hfr
  have HE := Lib.hid hE
  clear hr ht hfr hD hDl hE
  go_enter Tryd.func45, Tryd.ntmps45
  go_wp2_with fail
  refine (HI0.out _ (HE.out.new HF.out.2)).mono ?_
  rintro x w1 ⟨rfl, hB1⟩
  obtain ⟨hI, hB⟩ := id HF.out
  have hI1 := builder_kept hI hB1
  have hB01 : Below w.heap.size w w1 := hB.trans (hB1.mono hB.size)
  have hs1 := hB01.size
  have HI1 := Lib.hid hI1
  have HB1 := Lib.hid hB01
  clear hI hB hI1 hB1 hB01
  go_wp2_with fail
  refine (writeString_calls w.heap.size w.heap.size _ _ _ HI1.out (by show (Lib.byteCells []).length + _ ≤ _; rw [Lib.byteCells_length, List.length_nil]; omega) hs1).mono ?_
  rintro x w2 ⟨rfl, hI2, hB2⟩
  have hs2 := Nat.le_trans hs1 hB2.size
  have HI2 := Lib.hid hI2
  have HB2 := Lib.hid (HB1.out.trans hB2)
  clear hI2 hB2
  go_wp2_with fail
  refine (writeByte_calls w.heap.size w.heap.size _ _ _ HI2.out (by rw [List.length_append, Lib.byteCells_length, Lib.byteCells_length, ← Lib.size_eq, List.length_nil]; omega) hs2).mono ?_
  rintro x w3 ⟨rfl, hI3, hB3⟩
  have H3 : Hid (WrI w (Wr.part Wr.encText X 0) w3) := by
    refine ⟨?_, HB2.out.trans hB3⟩
    rw [Wr.part_zero]
    unfold Wr.listHead
    rw [Lib.byteCells_append, ← HD.out]
    exact hI3
  clear hI3 hB3
  go_wp2_with fail
  go_loopw [15] (fun i wr => ∃ k : Nat, i = .int .i64 k ∧ k ≤ X.length ∧ Hid (WrI w (Wr.part Wr.encText X k) wr)) (fun i _ => X.length - (intOf i).toNat)
  case atStart => exact ⟨0, rfl, Nat.zero_le _, H3.out⟩
  case round =>
    obtain ⟨k, rfl, hk, hun⟩ := hrel
    have hpl := Wr.part_len Wr.encText X k hl HT.out
    obtain ⟨hI, hB⟩ := id hun.out
    have hsW := hB.size
    obtain ⟨bs, hbs⟩ : ∃ bs, Lib.byteCells (Wr.part Wr.encText X k) = bs := ⟨_, rfl⟩
    have hbl : bs.length ≤ 100000021 := by rw [← hbs, Lib.byteCells_length]; exact hpl
    by_cases hlt : k < X.length
    · obtain rfl := HR.out.at_ (by rw [List.length_map]; omega)
      have HP := Lib.hid (Wr.part_succ Wr.encText X k hlt)
      have hel := Wr.part_len Wr.encText X (k + 1) hl HT.out
      rw [Wr.part_succ Wr.encText X k hlt, List.length_append] at hel
      have hcell := HR.out.cell k (encStr X[k]) (by rw [List.getElem?_map, List.getElem?_eq_getElem hlt]; rfl)
      obtain ⟨y, hy⟩ : ∃ y : ByteArray, encStr X[k] = .string y := ⟨_, rfl⟩
      have hyl : y.data.toList = X[k] := by
        have : (⟨X[k].toArray⟩ : ByteArray) = y := by injection hy
        rw [← this]
      rw [hy] at hcell
      rw [← hyl] at HP hel
      have hys : y.size ≤ 100000000 := by
        rw [Lib.size_eq]
        have h1 := Wr.flat_take Wr.encText X (k + 1)
        have h2 := HT.out
        rw [List.take_succ_eq_append_getElem hlt, List.map_append, List.flatten_append, List.length_append, List.map_cons, List.map_nil, List.flatten_cons, List.flatten_nil, List.append_nil, ← hyl] at h1
        have h3 : y.data.toList.length ≤ (Wr.encText y.data.toList).length := by unfold Wr.encText; simp only [List.length_append, List.length_cons, List.length_nil]; omega
        omega
      clear hy hyl
      have c0 : wr.cell? ⟨b, off + k, none⟩ = some (.string y) := by
        rw [← hcell]
        exact hB.cell (p := ⟨b, off + k, none⟩) (HR.out.lt (by rw [List.length_map]; omega))
      have HEr := Lib.hid (HE.out.new hB)
      rw [hbs] at hI
      have HI := Lib.hid hI
      have HB := Lib.hid hB
      have HBS := Lib.hid hbs
      clear hI hB hbs hun hcell hpl
      go_wp2_with fail
      refine (wtext_any y hys _ HEr.out).mono ?_
      rintro x w4 ⟨rfl, hB4⟩
      have hI4 := builder_kept HI.out hB4
      have hB04 : Below w.heap.size w w4 := HB.out.trans (hB4.mono hsW)
      have hs4 := hB04.size
      have HI4 := Lib.hid hI4
      have HB4 := Lib.hid hB04
      clear hI4 hB4 hB04
      go_wp2_with fail
      refine (writeString_calls w.heap.size w.heap.size _ _ _ HI4.out (by rw [Wr.bs_len]; omega) hs4).mono ?_
      rintro x w5 ⟨rfl, hI5, hB5⟩
      have HN : Hid (WrI w (Wr.part Wr.encText X (k + 1)) w5) := by
        refine ⟨?_, HB4.out.trans hB5⟩
        rw [HP.out, Lib.byteCells_append, HBS.out]
        exact hI5
      clear hI5 hB5
      go_wp2
      go_roundw
      case rel => exact ⟨k + 1, by go_num, by omega, HN.out⟩
      case measure => simp [intOf]; omega
    · obtain rfl : k = X.length := by omega
      rw [hbs] at hI
      have HI := Lib.hid hI
      have HB := Lib.hid hB
      have HBS := Lib.hid hbs
      clear hI hB hbs hun hpl
      go_wp2_with fail
      refine (writeByte_calls w.heap.size w.heap.size _ _ _ HI.out (by omega) hsW).mono ?_
      rintro x w4 ⟨rfl, hI4, hB4⟩
      have hs4 := Nat.le_trans hsW hB4.size
      have HI4 : Hid (Lib.IsBuilderF 67 5 w.heap.size w.heap.size (Lib.byteCells (Wr.encList Wr.encText X)) w4) := by
        show Lib.IsBuilderF _ _ _ _ _ _
        rw [← Wr.part_end, Lib.byteCells_append, HBS.out]
        exact hI4
      have HB4 := Lib.hid (HB.out.trans hB4)
      clear hI4 hB4
      go_wp2_with fail
      refine (string_calls w.heap.size w.heap.size _ _ HI4.out hs4).mono ?_
      rintro x w5 ⟨rfl, hB5⟩
      go_wp2
      go_ret
      exact ⟨rfl, HB4.out.trans hB5⟩

set_option maxHeartbeats 1000000 in
set_option maxRecDepth 100000 in
theorem wtexts_any (xa : Option Addr) (b off cap : Nat) (X : List (List UInt8)) (w : World) (hr : RowV w xa b off (X.map encStr)) (hl : X.length ≤ 1000000) (ht : (X.map Wr.encText).flatten.length ≤ 100000000) (hE : Env w) :
    Calls Tryd.prog 19 #[.slice xa X.length cap] w fun e w' => e = .returned (.string ⟨(Wr.encList Wr.encText X).toArray⟩) ∧ Below w.heap.size w w' := by
  have H := Lib.hid (writeTexts_any xa b off cap X w hr hl ht hE)
  clear hr hl ht hE
  go_enter Tryd.func19, Tryd.ntmps19
  go_wp2_with fail
  refine H.out.mono ?_
  rintro x w1 ⟨rfl, hB⟩
  go_wp2
  go_ret
  exact ⟨rfl, hB⟩
end Go.Proofs.YthknahghmlfegaaDoor
