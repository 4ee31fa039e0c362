/-
  The base of the walks: bytes of strings, builders, the library's variable MaxLen; strings.Cut, TrimSuffix, CutPrefix, IndexByte, ReplaceAll, Trim; text.Lower and text.Same.
-/
import Derived.Test.YtliadekcbkedmaaDoorLib
import Derived.Test.YtliadekcbkedmaaDoorFPw
import Derived.WalkKit
import Derived.WalkSpells
import Derived.WalkLawsBesides
import Derived.Outline
import Derived.Lib.Hide
import Derived.Lib.DecodeN
import Derived.Lib.OthersKept
import Derived.Deep.QuietTactic
import Derived.BigQuiet
import Derived.WalkMore
import Derived.Deep.WholeRow
import Derived.Sort.EncStr
import Derived.LoopTactic
import Derived.Deep.DeepMust
import Derived.RangeFuncRecord
import Derived.RangeFuncNested
import Derived.RangeFuncBound
import Derived.RangeFuncCalls
import Derived.RangeFuncLeaves
import Derived.RangeFuncStops
import Derived.RangeFuncKeeps
import Derived.Shelf.Abstract
import Derived.Shelf.RegionOpen
import Derived.OwnWalkIn
import Derived.TacticsInMore
import Derived.LoopNIn
import Derived.LoopIn
import Derived.Laws.BytesArg
import Derived.Laws.IdiomStrings
import Derived.Laws.OwnMore
import Derived.OwnWalk
import Derived.BigFrame
import Derived.BigCall
import Derived.Lib.AppendStr
import Derived.Lib.FrozenHead2
namespace Go.Proofs.YtliadekcbkedmaaDoor
open Go Go.RowKit Go.Shelf
theorem str_back (R : ByteArray) : (⟨R.data.toList.toArray⟩ : ByteArray) = R := by cases R; simp
theorem add_plain0 (g j : Nat) : (⟨g, 0, none⟩ : Addr).add j = ⟨g, j, none⟩ := by unfold Addr.add; split <;> simp_all
theorem cells_new (w : World) (l : List Value) (t : TypeId) : ∀ (j : Nat) (u : Value), l[j]? = some u → (w.alloc (.cells l.toArray t)).cell? (Addr.add ⟨w.heap.size, 0, none⟩ j) = some u := fun j u hj => by
  rw [add_plain0]
  unfold World.cell?
  rw [World.alloc_heap_new]
  simpa using hj
theorem alloc_size (w : World) (o : Obj) : (w.alloc o).heap.size = w.heap.size + 1 := by
  show (w.heap.push o).size = _
  simp
theorem mk_len (l : List UInt8) : (⟨l.toArray⟩ : ByteArray).size = l.length := by show l.toArray.size = _; simp
theorem extract_eq (s : ByteArray) (f u : Nat) : (s.extract f u).data.toList = (s.data.toList.take u).drop f := by simp [List.drop_take]
theorem drop_next (s : ByteArray) (k : Nat) (h : k < s.size) : s.data.toList.drop k = s[k]'h :: s.data.toList.drop (k + 1) := by
  rw [List.drop_eq_getElem_cons (by rw [← Lib.size_eq]; exact h)]; rfl
theorem extract_end (s : ByteArray) (f : Nat) : (s.extract f s.size).data.toList = s.data.toList.drop f := by
  rw [extract_eq, List.take_of_length_le (by rw [Lib.size_eq]; exact Nat.le_refl _)]
theorem drop_mk (s : ByteArray) (k : Nat) : s.extract k s.size = ⟨(s.data.toList.drop k).toArray⟩ := by
  rw [← extract_end, Lib.mk_data]
theorem span_mk (s : ByteArray) (f u : Nat) : s.extract f u = ⟨((s.data.toList.take u).drop f).toArray⟩ := by
  rw [← extract_eq, Lib.mk_data]
theorem retS {l m : List UInt8} (h : l = m) : Ending.returned (.string ⟨l.toArray⟩) = .returned (.string ⟨m.toArray⟩) := by rw [h]
theorem below_drews {B : Nat} {a w : World} (h : Below B a w) (n : Nat) : Below B a (w.drewN n) := ⟨h.os, h.tape, h.output, h.size, h.block⟩
theorem byte_ne {c : UInt8} {n : Nat} (hn : n < 256) (h : c ≠ UInt8.ofNat n) : ((c.toNat : Int) == (n : Int)) = false := by
  rw [beq_eq_false_iff_ne]
  intro e
  apply h
  apply UInt8.toNat_inj.1
  have : c.toNat = n := by omega
  rw [this]; simp; omega
theorem byte_neI {c : UInt8} {n : Nat} (hn : n < 256) (h : c ≠ UInt8.ofNat n) : ¬ ((c.toNat : Int) = (n : Int)) := by
  have := byte_ne hn h
  rw [beq_eq_false_iff_ne] at this
  exact this
theorem drews_more {w wr : World} (h : ∃ n, wr = w.drewN n) (k : Nat) : ∃ n, wr.drewN k = w.drewN n := by
  obtain ⟨n, rfl⟩ := h
  exact ⟨n + k, World.drewN_drewN _ _ _⟩
theorem grown_below {a w : World} (h : Below a.heap.size a w) (row : Option Nat) : a.grownBy w row := ⟨h.os, h.tape, h.output, h.size, fun i hi _ => h.block i hi⟩
theorem abides_below {β : Type} {B : Nat} {J : β → World → Prop} (hJ : AbidesFrom B J) {x : β} {W W' : World} (h : J x W) (hb : Below W.heap.size W W') : J x W' :=
  hJ x W W' none h (grown_below hb none) (fun r e => by cases e)
theorem info60 : (Tryd.prog.info? 93).map (fun i => (i.zero, i.size)) = some (some (.agg (Array.replicate 256 (.bool false))), 256) := by kernel_rfl
/-- The library's variable internal/bytealg.MaxLen holds some int. -/
def MaxAt (w : World) : Prop := ∃ m : Int, w.cell? ⟨0, 0, none⟩ = some (.int .i64 m)
theorem MaxAt.pos {w : World} (h : MaxAt w) : 0 < w.heap.size := by
  obtain ⟨m, h⟩ := h
  by_cases hz : 0 < w.heap.size
  · exact hz
  · have : w.heap[0]? = none := Array.getElem?_eq_none (by omega)
    simp [World.cell?, this] at h
theorem MaxAt.below {B : Nat} {w w' : World} (h : MaxAt w) (hB : Below B w w') (h0 : 0 < B) : MaxAt w' := by
  obtain ⟨m, h⟩ := h
  exact ⟨m, (hB.cell (p := ⟨0, 0, none⟩) h0).trans h⟩
/-- A builder abides the turn of a block that holds no cells. -/
theorem builder_kept {T e : TypeId} {B b : Nat} {bs : List Value} {W W' : World} {row : Option Nat} (h : Lib.IsBuilderF T e B b bs W) (hg : W.grownBy W' row)
    (hr : ∀ r, row = some r → ∃ o : Obj, W.heap[r]? = some o ∧ o.isCells = false) : Lib.IsBuilderF T e B b bs W' := by
  have keep : ∀ (k : Nat) (c : Array Value) (t : TypeId) (fz : Nat × Nat), W.heap[k]? = some (.cells c t fz) → W'.heap[k]? = some (.cells c t fz) := by
    intro k c t fz hk
    refine (hg.block k (Array.getElem?_eq_some_iff.1 hk).1 ?_).trans hk
    intro e'
    obtain ⟨o, ho, hc⟩ := hr k e'.symm
    rw [hk] at ho
    cases ho; cases hc
  have step : ∀ p, Lib.BuilderAtF T e B b p bs W → Lib.BuilderAtF T e B b p bs W' := by
    rintro p ⟨hB, v, hv, ⟨hl, hrow⟩, hne⟩
    refine ⟨hB, v, keep _ _ _ _ hv, ⟨hl, ?_⟩, hne⟩
    rcases hrow with h | ⟨g, cap, cur, fz, h1, h2, h3, h4⟩
    · exact .inl h
    · exact .inr ⟨g, cap, cur, fz, h1, h2, keep _ _ _ _ h3, h4⟩
  exact h.elim (fun h => .inl (step _ h)) (fun h => .inr (step _ h))
theorem builder_block {T e : TypeId} {B b : Nat} {bs : List Value} {W : World} (h : Lib.IsBuilderF T e B b bs W) : ∃ c : Array Value, W.heap[b]? = some (.cells c T (0, 0)) := by
  rcases h with ⟨_, v, hv, _⟩ | ⟨_, v, hv, _⟩
  · exact ⟨_, hv⟩
  · exact ⟨_, hv⟩
theorem others_keepsOthers {T e : TypeId} {b : Nat} {c : Array Value} {fz : Nat × Nat} {W W' : World} (hb : W.heap[b]? = some (.cells c T fz)) (h : Lib.OthersKept e (some b) W W') (hs : W.heap.size ≤ W'.heap.size) : KeepsOthers W W' :=
  ⟨hs, fun k o ho hc => h k o ho (by rintro e'; cases e'; rw [hb] at ho; cases ho; cases hc) (by rintro c' fz' rfl; cases hc)⟩
theorem keeps_walks {W W' : World} (h : KeepsOthers W W') : KeepsWalks W W' :=
  ⟨h.size, fun k o ho hw => h.same k o ho (by cases o <;> simp_all [Obj.isWalk, Obj.isCells])⟩
theorem writeByte_calls (B b : Nat) (bs : List Value) (c : Int) (w : World) (h : Lib.IsBuilderF 61 5 B b bs w) (hlen : bs.length + 1 ≤ 140737488355328) (hBw : B ≤ w.heap.size) :
    Calls Tryd.prog 86 #[.pointer (some ⟨b, 0, none⟩), .int .u8 c] w fun e w' => e = .returned .nilIface ∧ Lib.IsBuilderF 61 5 B b (bs ++ [.int .u8 c]) w' ∧ Below B w w' ∧ KeepsOthers w w' := by
  obtain ⟨cc, hb⟩ := builder_block h
  exact (Any.Builder_WriteByte_k Tryd.lays167 Tryd.Builder_X167 B b bs c w h hlen hBw).mono fun _ _ ⟨h1, h2, h3, h4⟩ => ⟨h1, .inr h2, h3, others_keepsOthers hb h4 h3.size⟩
theorem writeString_calls (B b : Nat) (bs : List Value) (s : ByteArray) (w : World) (h : Lib.IsBuilderF 61 5 B b bs w) (hlen : bs.length + s.size ≤ 140737488355328) (hBw : B ≤ w.heap.size) :
    Calls Tryd.prog 41 #[.pointer (some ⟨b, 0, none⟩), .string s] w fun e w' => e = .returned (.tuple #[.int .i64 s.size, .nilIface]) ∧ Lib.IsBuilderF 61 5 B b (bs ++ Lib.byteCells s.data.toList) w' ∧ Below B w w' ∧ KeepsOthers w w' := by
  obtain ⟨cc, hb⟩ := builder_block h
  exact (Any.Builder_WriteString_k Tryd.lays166 Tryd.Builder_X166 B b bs s w h hlen hBw).mono fun _ _ ⟨h1, h2, h3, h4⟩ => ⟨h1, .inr h2, h3, others_keepsOthers hb h4 h3.size⟩
theorem string_calls (B b : Nat) (l : List UInt8) (w : World) (h : Lib.IsBuilderF 61 5 B b (Lib.byteCells l) w) (hBw : B ≤ w.heap.size) :
    Calls Tryd.prog 44 #[.pointer (some ⟨b, 0, none⟩)] w fun e w' => e = .returned (.string ⟨l.toArray⟩) ∧ Below B w w' ∧ KeepsOthers w w' := by
  obtain ⟨cc, hb⟩ := builder_block h
  exact (Any.Builder_String_any_k Tryd.lays169 Tryd.Builder_X169 B b l w h hBw).mono fun _ _ ⟨h1, _, h3, h4⟩ => ⟨h1, h3, others_keepsOthers hb h4 h3.size⟩
/-- Block b is a Builder that holds these bytes. -/
def Bld (B b : Nat) (l : List UInt8) (w : World) : Prop := Lib.IsBuilderF 61 5 B b (Lib.byteCells l) w
theorem wb_any (B b : Nat) (l : List UInt8) (c : UInt8) (w : World) (h : Bld B b l w) (hlen : l.length + 1 ≤ 140737488355328) (hBw : B ≤ w.heap.size) :
    Calls Tryd.prog 86 #[.pointer (some ⟨b, 0, none⟩), .int .u8 c.toNat] w fun e w' => e = .returned .nilIface ∧ Bld B b (l ++ [c]) w' ∧ Below B w w' ∧ KeepsOthers w w' := by
  refine (writeByte_calls B b _ (c.toNat : Int) w h (by rw [Lib.byteCells_length]; exact hlen) hBw).mono ?_
  rintro e w' ⟨h1, h2, h3, h4⟩
  refine ⟨h1, ?_, h3, h4⟩
  unfold Bld
  rw [Lib.byteCells_append]
  exact h2
theorem ws_any (B b : Nat) (l : List UInt8) (s : ByteArray) (w : World) (h : Bld B b l w) (hlen : l.length + s.size ≤ 140737488355328) (hBw : B ≤ w.heap.size) :
    Calls Tryd.prog 41 #[.pointer (some ⟨b, 0, none⟩), .string s] w fun e w' => e = .returned (.tuple #[.int .i64 s.size, .nilIface]) ∧ Bld B b (l ++ s.data.toList) w' ∧ Below B w w' ∧ KeepsOthers w w' := by
  refine (writeString_calls B b _ s w h (by rw [Lib.byteCells_length]; exact hlen) hBw).mono ?_
  rintro e w' ⟨h1, h2, h3, h4⟩
  refine ⟨h1, ?_, h3, h4⟩
  unfold Bld
  rw [Lib.byteCells_append]
  exact h2
theorem str_any (B b : Nat) (l : List UInt8) (w : World) (h : Bld B b l w) (hBw : B ≤ w.heap.size) :
    Calls Tryd.prog 44 #[.pointer (some ⟨b, 0, none⟩)] w fun e w' => e = .returned (.string ⟨l.toArray⟩) ∧ Below B w w' ∧ KeepsOthers w w' := string_calls B b l w h hBw
theorem Bld.fresh (w : World) : Bld w.heap.size w.heap.size [] (w.alloc (.cells #[.pointer none, .slice none 0 0] 61)) := Lib.IsBuilderF.of (Lib.fresh_isBuilder 61 5 w)
theorem bld_below {B b : Nat} {l : List UInt8} {W W' : World} (h : Bld B b l W) (hb : Below W.heap.size W W') : Bld B b l W' := builder_kept h (grown_below hb none) (fun _ h => by cases h)
namespace Tx
theorem lowB_lo (c : UInt8) (h : 65 ≤ c.toNat ∧ c.toNat ≤ 90) : (lowB c).toNat = c.toNat + 32 := by
  unfold lowB
  rw [if_pos (by constructor <;> (rw [UInt8.le_iff_toNat_le]; simp; omega)), UInt8.toNat_add]
  simp; omega
theorem lowB_no (c : UInt8) (h : ¬ (65 ≤ c.toNat ∧ c.toNat ≤ 90)) : lowB c = c := by
  unfold lowB
  rw [if_neg]
  rintro ⟨h1, h2⟩
  rw [UInt8.le_iff_toNat_le] at h1 h2
  simp at h1 h2; omega
theorem upB_lo (c : UInt8) (h : 97 ≤ c.toNat ∧ c.toNat ≤ 122) : (upB c).toNat = c.toNat - 32 := by
  unfold upB
  rw [if_pos (by constructor <;> (rw [UInt8.le_iff_toNat_le]; simp; omega)), UInt8.toNat_sub]
  simp; omega
theorem upB_no (c : UInt8) (h : ¬ (97 ≤ c.toNat ∧ c.toNat ≤ 122)) : upB c = c := by
  unfold upB
  rw [if_neg]
  rintro ⟨h1, h2⟩
  rw [UInt8.le_iff_toNat_le] at h1 h2
  simp at h1 h2; omega
end Tx
theorem ret_byte {a b : Int} (h : a = b) : Ending.returned (.int .u8 a) = .returned (.int .u8 b) := by rw [h]

theorem lower_any (c : UInt8) (w : World) : Calls Tryd.prog 40 #[.int .u8 c.toNat] w fun e w' => e = .returned (.int .u8 (Tx.lowB c).toNat) ∧ w' = w := by
  have hc : c.toNat < 256 := UInt8.toNat_lt c
  by_cases h : 65 ≤ c.toNat ∧ c.toNat ≤ 90
  · have H := Lib.hid (Tx.lowB_lo c h)
    obtain ⟨h1, h2⟩ := h
    go_enter Tryd.func40, Tryd.ntmps40
    go_wp2
    go_ret
    exact ⟨ret_byte (by rw [H.out]; omega), rfl⟩
  · have H := Lib.hid (Tx.lowB_no c h)
    by_cases h1 : 65 ≤ c.toNat
    · have h2 : 90 < c.toNat := by omega
      clear h
      go_enter Tryd.func40, Tryd.ntmps40
      go_wp2
      go_ret
      exact ⟨ret_byte (by rw [H.out]), rfl⟩
    · clear h
      go_enter Tryd.func40, Tryd.ntmps40
      go_wp2
      go_ret
      exact ⟨ret_byte (by rw [H.out]), rfl⟩
namespace Tx
theorem get_of (s : ByteArray) (k : Nat) (h : k < s.size) : s.data.toList[k]? = some s[k] := Lib.data_getElem? s k h
end Tx
namespace Tx
/-- The bytes of a string in a block of their own, the first k of them mapped. -/
structure MapRow (g : UInt8 → UInt8) (s : ByteArray) (b k : Nat) (w : World) : Prop where
  cell : ∀ (j : Nat) (hj : j < s.size), w.cell? ⟨b, j, none⟩ = some (.int .u8 ((if j < k then g (s[j]'hj) else s[j]'hj).toNat : Int))
  free : ∀ (j : Nat), j < s.size → w.frozen? ⟨b, j, none⟩ = false
theorem MapRow.drews {g : UInt8 → UInt8} {s : ByteArray} {b k : Nat} {w : World} (h : MapRow g s b k w) (n : Nat) : MapRow g s b k (w.drewN n) := ⟨h.cell, h.free⟩
theorem MapRow.start (g : UInt8 → UInt8) (s : ByteArray) (w : World) (cap : Nat) : MapRow g s w.heap.size 0 (w.alloc (.cells (bytesRow s cap) 5 ((bytesRow s cap).size, (bytesRow s cap).size + 1))) := by
  have hh : (w.alloc (.cells (bytesRow s cap) 5 ((bytesRow s cap).size, (bytesRow s cap).size + 1))).heap[w.heap.size]? = some (.cells (bytesRow s cap) 5 ((bytesRow s cap).size, (bytesRow s cap).size + 1)) := World.alloc_heap_new w _
  refine ⟨fun j hj => ?_, fun j hj => ?_⟩
  · rw [if_neg (by omega)]
    have hj' : j < s.data.size := hj
    have := bytesRow_at s cap j hj'
    simp only [World.cell?, hh]
    rw [this]; rfl
  · have hj' : j < s.data.size := hj
    have h1 := (Array.getElem?_eq_some_iff.1 (bytesRow_at s cap j hj')).1
    simp only [World.frozen?, hh]
    simp
    omega
theorem MapRow.step {g : UInt8 → UInt8} {s : ByteArray} {b k : Nat} {w : World} (h : MapRow g s b k w) (hk : k < s.size) : MapRow g s b (k + 1) (w.setCell ⟨b, k, none⟩ (.int .u8 ((g (s[k]'hk)).toNat : Int))) := by
  refine ⟨fun j hj => ?_, fun j hj => by rw [World.frozen?_setCell]; exact h.free j hj⟩
  by_cases hjk : j = k
  · subst hjk
    rw [World.cell?_setCell_same _ _ _ (h.cell j hj), if_pos (by omega)]
  · rw [World.cell?_setCell_other _ _ _ _ (by intro e; injection e with _ e2; exact hjk e2.symm), h.cell j hj]
    by_cases h1 : j < k
    · rw [if_pos h1, if_pos (by omega)]
    · rw [if_neg h1, if_neg (by omega)]
def mapNums (g : UInt8 → UInt8) (s : ByteArray) : List Int := s.data.toList.map (fun c => ((g c).toNat : Int))
theorem strOf_map (g : UInt8 → UInt8) (s : ByteArray) : strOfNums (mapNums g s) = ⟨(s.data.toList.map g).toArray⟩ := by
  unfold strOfNums mapNums
  rw [List.map_map]
  congr 2
  apply List.map_congr_left
  intro c _
  simp
theorem mapNums_len (g : UInt8 → UInt8) (s : ByteArray) : (mapNums g s).length = s.size := by unfold mapNums; rw [List.length_map, ← Lib.size_eq]
theorem mapNums_at (g : UInt8 → UInt8) (s : ByteArray) (j : Nat) (hj : j < s.size) : (mapNums g s).getD j 0 = ((g (s[j]'hj)).toNat : Int) := by
  unfold mapNums
  rw [List.getD_eq_getElem?_getD, List.getElem?_map, get_of s j hj]; rfl
theorem MapRow.back {g : UInt8 → UInt8} {s : ByteArray} {b : Nat} {w : World} (h : MapRow g s b s.size w) (cap : Nat) :
    (convert 44 9 (.slice (some ⟨b, 0, none⟩) s.size cap)).run Tryd.prog w = .ok (.string ⟨(s.data.toList.map g).toArray⟩) w := by
  have := run_convert_bytes_arg (P := Tryd.prog) w 44 5 Tryd.underlying44 Tryd.underlying5 b 0 s.size cap (mapNums g s) (mapNums_len g s) (fun i hi => by
    rw [mapNums_at g s i hi, Nat.zero_add, h.cell i hi, if_pos hi]) 9 Tryd.underlying9
  rw [this, strOf_map]
end Tx

set_option maxHeartbeats 1000000 in
set_option maxRecDepth 100000 in
theorem map_lower (s : ByteArray) (w : World) (hs : s.size ≤ 9223372036854775807) :
    Calls Tryd.prog 39 #[.string s, .func (.func 40) #[] #[]] w fun e w' => e = .returned (.string ⟨(s.data.toList.map Tx.lowB).toArray⟩) ∧ Below w.heap.size w w' := by
  have hconv := run_bytes_of_string (P := Tryd.prog) w 9 44 5 s Tryd.underlying9 Tryd.underlying44 Tryd.underlying5
  have hst := Tx.MapRow.start Tx.lowB s w (grownCap w s.size 0 5)
  generalize grownCap w s.size 0 5 = cap at hconv hst
  generalize bytesRow s cap = C at hconv hst
  have HSt := Lib.hid hst
  clear hst
  go_enter Tryd.func39, Tryd.ntmps39
  go_wp2
  go_loopw [6, 7, 12] (fun _ _ i wr => ∃ k : Nat, i = .int .i64 k ∧ k ≤ s.size ∧ Hid (Tx.MapRow Tx.lowB s w.heap.size k wr) ∧ Below w.heap.size w wr) (fun _ _ i _ => s.size - (intOf i).toNat)
  case atStart => exact ⟨0, rfl, Nat.zero_le _, HSt.out.drews 1, below_drews ((Below.refl _ w).alloc (Nat.le_refl _) _) 1⟩
  case round =>
    obtain ⟨k, rfl, hk, hrow, hb⟩ := hrel
    by_cases hlt : k < s.size
    · have hc := hrow.out.cell k hlt
      rw [if_neg (by omega)] at hc
      have hf := hrow.out.free k hlt
      have HN := Lib.hid (hrow.out.step hlt)
      obtain ⟨c, hck⟩ : ∃ c, s[k] = c := ⟨_, rfl⟩
      rw [hck] at hc HN
      have HL := Lib.hid (lower_any c)
      clear hck
      go_wp2_with (go_at_call 40; refine (HL.out _).mono ?_; rintro e w' ⟨rfl, rfl⟩)
      go_roundw
      case rel => exact ⟨k + 1, by go_num, by omega, HN.out, hb.setCell (p := ⟨w.heap.size, k, none⟩) (Nat.le_refl _) _⟩
      case measure => simp [intOf]; omega
    · obtain rfl : k = s.size := by omega
      have hback := hrow.out.back cap
      go_wp2
      go_ret
      exact ⟨rfl, hb⟩

theorem lowerS_any (s : ByteArray) (w : World) (hs : s.size ≤ 9223372036854775807) :
    Calls Tryd.prog 13 #[.string s] w fun e w' => e = .returned (.string ⟨(Tx.lowL s.data.toList).toArray⟩) ∧ Below w.heap.size w w' := by
  have HM := Lib.hid (map_lower s w hs)
  go_enter Tryd.func13, Tryd.ntmps13
  go_wp2_with fail
  refine HM.out.mono ?_
  rintro e w1 ⟨rfl, hB⟩
  go_wp2
  go_ret
  exact ⟨rfl, hB⟩

namespace Tx
/-- Equal but for the case of letters. -/
def same (a b : List UInt8) : Bool := lowL a == lowL b
theorem same_len (a b : List UInt8) (h : a.length ≠ b.length) : same a b = false := by
  unfold same lowL
  rw [beq_eq_false_iff_ne]
  intro e
  apply h
  have := congrArg List.length e
  simpa using this
/-- The first k bytes are equal but for the case of letters. -/
def sameTo (a b : List UInt8) (k : Nat) : Prop := ∀ (j : Nat) (x y : UInt8), j < k → a[j]? = some x → b[j]? = some y → lowB x = lowB y
theorem sameTo.zero (a b : List UInt8) : sameTo a b 0 := fun _ _ _ h => absurd h (Nat.not_lt_zero _)
theorem sameTo.succ {a b : List UInt8} {k : Nat} {x y : UInt8} (h : sameTo a b k) (hx : a[k]? = some x) (hy : b[k]? = some y) (he : lowB x = lowB y) : sameTo a b (k + 1) := by
  intro j x' y' hj h1 h2
  by_cases hjk : j = k
  · subst hjk
    rw [hx] at h1; rw [hy] at h2
    cases h1; cases h2; exact he
  · exact h j x' y' (by omega) h1 h2
theorem sameTo.all {a b : List UInt8} (hl : a.length = b.length) (h : sameTo a b a.length) : same a b = true := by
  unfold same lowL
  rw [beq_iff_eq]
  apply List.ext_getElem?
  intro j
  rw [List.getElem?_map, List.getElem?_map]
  by_cases hj : j < a.length
  · have h1 : a[j]? = some a[j] := List.getElem?_eq_getElem hj
    have h2 : b[j]? = some (b[j]'(by omega)) := List.getElem?_eq_getElem (by omega)
    rw [h1, h2, Option.map_some, Option.map_some, h j _ _ hj h1 h2]
  · rw [List.getElem?_eq_none (by omega), List.getElem?_eq_none (by omega)]
theorem same_no {a b : List UInt8} {k : Nat} {x y : UInt8} (hx : a[k]? = some x) (hy : b[k]? = some y) (he : lowB x ≠ lowB y) : same a b = false := by
  unfold same lowL
  rw [beq_eq_false_iff_ne]
  intro e
  have := congrArg (fun l => l[k]?) e
  simp only [List.getElem?_map, hx, hy, Option.map_some, Option.some.injEq] at this
  exact he this
end Tx

set_option maxHeartbeats 1000000 in
set_option maxRecDepth 100000 in
theorem same_any (a b : ByteArray) (w : World) (ha : a.size ≤ 9223372036854775807) :
    Calls Tryd.prog 59 #[.string a, .string b] w fun e w' => e = .returned (.bool (Tx.same a.data.toList b.data.toList)) ∧ ∃ n, w' = w.drewN n := by
  have hal := Lib.size_eq a
  have hbl := Lib.size_eq b
  by_cases hne : a.size = b.size
  · have hd : ((a.size : Int) != (b.size : Int)) = false := by rw [hne]; simp
    have HL := Lib.hid hne
    have HA := Lib.hid hal
    have HB := Lib.hid hbl
    clear hne hal hbl
    go_enter Tryd.func59, Tryd.ntmps59
    go_wp2
    go_loopw [13] (fun i wr => ∃ k : Nat, i = .int .i64 k ∧ k ≤ a.size ∧ Hid (Tx.sameTo a.data.toList b.data.toList k) ∧ Hid (∃ n, wr = w.drewN n)) (fun i _ => a.size - (intOf i).toNat)
    case atStart => exact ⟨0, rfl, Nat.zero_le _, Tx.sameTo.zero _ _, ⟨0, rfl⟩⟩
    case round =>
      obtain ⟨k, rfl, hk, hto, hwr⟩ := hrel
      by_cases hlt : k < a.size
      · have hltb : k < b.size := by rw [← HL.out]; exact hlt
        have gA := Tx.get_of a k hlt
        have gB := Tx.get_of b k hltb
        obtain ⟨x, hx⟩ : ∃ x, a[k] = x := ⟨_, rfl⟩
        obtain ⟨y, hy⟩ : ∃ y, b[k] = y := ⟨_, rfl⟩
        rw [hx] at gA
        rw [hy] at gB
        by_cases he : Tx.lowB x = Tx.lowB y
        · have hq : (((Tx.lowB x).toNat : Int) != ((Tx.lowB y).toNat : Int)) = false := by rw [he]; simp
          have HN := Lib.hid (hto.out.succ gA gB he)
          clear gA gB he
          go_wp2
          go_quiet ((go_at_call 40; exact Calls.quiet_of_same (lower_any _ _)))
          go_wp2
          go_roundw
          case rel => exact ⟨k + 1, by go_num, by omega, HN.out, drews_more hwr.out _⟩
          case measure => simp [intOf]; omega
        · have hq : (((Tx.lowB x).toNat : Int) != ((Tx.lowB y).toNat : Int)) = true := by
            rw [bne_iff_ne]; intro e; exact he (by rw [← UInt8.toNat_inj]; omega)
          have HN := Lib.hid (Tx.same_no gA gB he)
          clear gA gB he
          go_wp2
          go_quiet ((go_at_call 40; exact Calls.quiet_of_same (lower_any _ _)))
          go_wp2
          go_ret
          exact ⟨by rw [HN.out]; rfl, drews_more hwr.out _⟩
      · have hN : Tx.same a.data.toList b.data.toList = true := by
          obtain rfl : k = a.size := by omega
          refine Tx.sameTo.all (by rw [← HA.out, ← HB.out]; exact HL.out) ?_
          rw [← HA.out]; exact hto.out
        have HN := Lib.hid hN
        clear hN
        go_wp2
        go_ret
        exact ⟨by rw [HN.out]; rfl, hwr.out⟩
  · have hd : ((a.size : Int) != (b.size : Int)) = true := by rw [bne_iff_ne]; omega
    have HN := Lib.hid (Tx.same_len a.data.toList b.data.toList (by rw [← hal, ← hbl]; exact hne))
    clear hne hal hbl
    go_enter Tryd.func59, Tryd.ntmps59
    go_wp2
    go_ret
    exact ⟨by rw [HN.out]; rfl, 0, rfl⟩

theorem trim_any (s : ByteArray) (w : World) (hs : s.size ≤ 9223372036854775807) :
    Calls Tryd.prog 60 #[.string s, .string ⟨#[9, 10, 13, 32]⟩] w fun e w' => e = .returned (.string ⟨(Lib.trimS s.data.toList [9, 10, 13, 32]).toArray⟩) ∧ Below w.heap.size w w' :=
  Any.strings_Trim_laid Tryd.lays160 info60 s ⟨#[9, 10, 13, 32]⟩ w hs (by decide) (ascii_of_all (by decide))
set_option maxHeartbeats 1000000 in
set_option maxRecDepth 100000 in
theorem trimT_any (s : ByteArray) (hs : s.size ≤ 9223372036854775807) (w : World) :
    Calls Tryd.prog 30 #[.string s] w fun e w' => e = .returned (.string ⟨(Tx.trim s.data.toList).toArray⟩) ∧ Below w.heap.size w w' := by
  have H := Lib.hid (trim_any s w hs)
  go_enter Tryd.func30, Tryd.ntmps30
  go_wp2_with fail
  refine H.out.mono ?_
  rintro e w1 ⟨rfl, hB⟩
  go_wp2
  go_ret
  exact ⟨rfl, hB⟩

/-- The places of what a call did not change: it only drew. -/
def Drew (w w' : World) : Prop := ∃ n, w' = w.drewN n
theorem Drew.below {w w' : World} (h : Drew w w') : Below w.heap.size w w' := by
  obtain ⟨n, rfl⟩ := h
  exact below_drews (Below.refl _ w) n
theorem cut_any (d : UInt8) (s : ByteArray) (w : World) (hs : s.size ≤ 1000000) (hm : MaxAt w) :
    Calls Tryd.prog 51 #[.string s, .string ⟨#[d]⟩] w fun e w' => e = .returned (.tuple #[.string ⟨(Lib.cut s.data.toList [d]).1.toArray⟩, .string ⟨(Lib.cut s.data.toList [d]).2.1.toArray⟩, .bool (Lib.cut s.data.toList [d]).2.2]) ∧ ∃ n, w' = w.drewN n := by
  obtain ⟨m, hm⟩ := hm
  exact Any.strings_Cut Tryd.lays145 s ⟨#[d]⟩ m w (by omega) hm
theorem trimSuffix_any (s : ByteArray) (w : World) (hs : s.size ≤ 1000000) :
    Calls Tryd.prog 52 #[.string s, .string ⟨#[13]⟩] w fun e w' => e = .returned (.string ⟨(Tx.chop s.data.toList).toArray⟩) ∧ w = w' :=
  (Any.strings_TrimSuffix Tryd.lays102 s ⟨#[13]⟩ w (by omega)).mono fun _ _ ⟨h1, h2⟩ => ⟨h1, h2.symm⟩
theorem indexByte_any (s : ByteArray) (c : UInt8) (w : World) :
    Calls Tryd.prog 88 #[.string s, .int .u8 c.toNat] w fun e w' => e = .returned (.int .i64 (Lib.indexByte s.data.toList c)) ∧ w' = w :=
  (Any.strings_IndexByte Tryd.lays137 s c.toNat w).mono fun e w' ⟨h1, h2⟩ => ⟨by rw [h1]; simp, h2⟩
theorem replace_any (d : UInt8) (new : ByteArray) (s : ByteArray) (w : World) (hs : s.size ≤ 1000000) (hn : new.size ≤ 2) (hne : ([d] : List UInt8) ≠ new.data.toList) (hm : MaxAt w) :
    Calls Tryd.prog 67 #[.string s, .string ⟨#[d]⟩, .string new] w fun e w' => e = .returned (.string ⟨(Hd.repl d new.data.toList s.data.toList).toArray⟩) ∧ Below w.heap.size w w' := by
  obtain ⟨m, hm⟩ := hm
  have hc : Lib.countB s ⟨#[d]⟩ ≤ s.size := by
    unfold Lib.countB
    show Lib.count s.data.toList [d] ≤ _
    rw [Lib.count_one, Lib.size_eq]
    exact List.count_le_length
  have h2 : Lib.countB s ⟨#[d]⟩ * new.size ≤ s.size * 2 := Nat.mul_le_mul hc hn
  have := Any.strings_ReplaceAll Tryd.lays155 Tryd.Builder_X155 s ⟨#[d]⟩ new m w (by omega) hm (by show 1 ≤ 1; omega) (by omega)
  rw [show (⟨#[d]⟩ : ByteArray).data.toList = [d] from rfl, Hd.replaceAll_one d _ _ hne] at this
  exact this
end Go.Proofs.YtliadekcbkedmaaDoor
