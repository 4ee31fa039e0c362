/-
  A Builder whose buffer lies behind other rows of bytes: WriteByte, String, and what they leave alone.
-/
import Derived.Test.YtdkocjdhekomoaaGreatDoorCLeaf
import Derived.Lib.FrozenHead2
namespace Go.Proofs.YtdkocjdhekomoaaGreatDoor
open Go Go.RowKit Go.Shelf

/-- Block b is a Builder that holds these bytes; its buffer lies in block B or behind. -/
def BldX (B b : Nat) (l : List UInt8) (w : World) : Prop := ∃ p v, (p = .pointer none ∨ p = .pointer (some ⟨b, 0, none⟩)) ∧ w.heap[b]? = some (.cells #[p, v] 40 (0, 0)) ∧ w.ownsRowF B 5 1 v (Lib.byteCells l).length (Lib.byteCells l) ∧ b < B
/-- All below B but block b stands as it stood, and all that is no row of bytes. -/
structure Fr (B b : Nat) (w w' : World) : Prop where
  os : w'.os = w.os
  tape : w'.tape = w.tape
  output : w'.output = w.output
  size : w.heap.size ≤ w'.heap.size
  low : ∀ k, k < B → k ≠ b → w'.heap[k]? = w.heap[k]?
  oth : Lib.OthersKept 5 (some b) w w'
theorem Fr.refl (B b : Nat) (w : World) : Fr B b w w := ⟨rfl, rfl, rfl, Nat.le_refl _, fun _ _ _ => rfl, Lib.OthersKept.refl _ _ _⟩
theorem Fr.trans {B b : Nat} {w w1 w2 : World} (h : Fr B b w w1) (k : Fr B b w1 w2) : Fr B b w w2 :=
  ⟨k.os.trans h.os, k.tape.trans h.tape, k.output.trans h.output, Nat.le_trans h.size k.size, fun i hi hb => (k.low i hi hb).trans (h.low i hi hb), h.oth.trans k.oth⟩
theorem Fr.below {B b C : Nat} {w w' : World} (h : Fr B b w w') (hC : C ≤ b) (hb : b < B) : Below C w w' :=
  ⟨h.os, h.tape, h.output, h.size, fun i hi => h.low i (by omega) (by omega)⟩
theorem Fr.alloc {B b : Nat} {w w1 : World} (h : Fr B b w w1) (o : Obj) (hB : B ≤ w1.heap.size) : Fr B b w (w1.alloc o) :=
  ⟨h.os, h.tape, h.output, Nat.le_trans h.size (by simp), fun i hi hb => (Lib.alloc_old w1 o i (by omega)).trans (h.low i hi hb), h.oth.alloc o⟩
theorem Fr.keeps {B b : Nat} {w w' : World} (h : Fr B b w w') {p : Value} {v : Value} (hb : w.heap[b]? = some (.cells #[p, v] 40 (0, 0))) : KeepsOthers w w' := others_keepsOthers hb h.oth h.size
theorem BldX.lt {B b : Nat} {l : List UInt8} {w : World} (h : BldX B b l w) : b < w.heap.size := by
  obtain ⟨p, v, _, h2, _⟩ := h
  exact (Array.getElem?_eq_some_iff.1 h2).1
theorem BldX.at_ {B b : Nat} {l : List UInt8} {w : World} (h : BldX B b l w) : ∃ p v, w.heap[b]? = some (.cells #[p, v] 40 (0, 0)) := let ⟨p, v, _, h2, _⟩ := h; ⟨p, v, h2⟩
theorem BldX.fresh {B b : Nat} {w : World} (h : w.heap[b]? = some (.cells #[.pointer none, .slice none 0 0] 40 (0, 0))) (hB : b < B) : BldX B b [] w :=
  ⟨_, _, .inl rfl, h, World.ownsRowF_nil _ _ _ _, hB⟩
/-- Read as a Builder of its own. -/
theorem BldX.bld {B b : Nat} {l : List UInt8} {w : World} (h : BldX B b l w) : Bld b b l w := by
  obtain ⟨p, v, hp, h2, h3, hb⟩ := h
  have hne : v.ownBlock ≠ some b := fun e => by have := (h3.lt _ e).1; omega
  have h4 : w.ownsRowF b 5 1 v (Lib.byteCells l).length (Lib.byteCells l) := by
    refine ⟨h3.1, ?_⟩
    rcases h3.2 with h | ⟨g, cap, cur, fz, a1, a2, a3⟩
    · exact .inl h
    · exact .inr ⟨g, cap, cur, fz, a1, by omega, a3⟩
  rcases hp with rfl | rfl
  · exact .inl ⟨Nat.le_refl _, v, h2, h4, hne⟩
  · exact .inr ⟨Nat.le_refl _, v, h2, h4, hne⟩
theorem BldX.own {β : Type} (B b : Nat) (f : β → List UInt8) : Own (fun (s : β) W => BldX B b (f s) W) := by
  rintro s W W' row ⟨p, v, hp, h2, h3, hb⟩ hg hr
  refine ⟨p, v, hp, ?_, ?_, hb⟩
  · refine (hg.block b (Array.getElem?_eq_some_iff.1 h2).1 ?_).trans h2
    intro e
    obtain ⟨o, ho, hc⟩ := hr b e.symm
    rw [h2] at ho; cases ho; cases hc
  · refine h3.kept hg ?_
    by_cases hv : v.ownBlock = none
    · exact .inl hv
    · right
      intro e
      obtain ⟨g, hgv⟩ := Option.ne_none_iff_exists'.1 hv
      obtain ⟨o, ho, hc⟩ := hr g (by rw [← e, hgv])
      obtain ⟨c, fz, hcc⟩ := Lib.ownsRowF_kind h3 g hgv
      rw [hcc] at ho; cases ho; cases hc

theorem copyCheckX (B b : Nat) (l : List UInt8) (w : World) (h : BldX B b l w) :
    Calls Tryz.prog 63 #[.pointer (some ⟨b, 0, none⟩)] w fun e w' => e = .returned (.tuple #[]) ∧ ∃ v, w'.heap[b]? = some (.cells #[.pointer (some ⟨b, 0, none⟩), v] 40 (0, 0)) ∧ w'.ownsRowF B 5 1 v (Lib.byteCells l).length (Lib.byteCells l) ∧ Fr B b w w' := by
  obtain ⟨p, v, hp, h2, h3, hb⟩ := h
  have hc0 : w.cell? ⟨b, 0, none⟩ = some p := by simp [World.cell?, h2]
  rcases hp with rfl | rfl
  · refine (Any.Builder_copyCheck_fresh { Tryz.lays167 with } Tryz.Builder_X167.toX72 b w hc0 (by simp [World.shape?, h2]; rfl) (by simp [World.frozen?, h2])).mono ?_
    rintro e w' ⟨rfl, rfl⟩
    have hne : v.ownBlock ≠ some b := fun e => by have := (h3.lt _ e).1; omega
    refine ⟨rfl, v, by simp [World.setCell, Array.getElem?_modify, h2], ?_, ?_⟩
    · exact h3.kept (row := some b) ⟨rfl, rfl, rfl, by simp [World.setCell], fun k _ hk => Below.heap_setCell _ _ _ _ (fun e => hk (by simp [e]))⟩ (.inr hne)
    · exact ⟨rfl, rfl, rfl, by simp [World.setCell], fun k _ hk => Below.heap_setCell _ _ _ _ (fun e => hk (by simp [e])), (Lib.OthersKept.refl _ _ w).setCell ⟨b, 0, none⟩ rfl _⟩
  · refine (Any.Builder_copyCheck_used { Tryz.lays167 with } Tryz.Builder_X167.toX72 b w hc0).mono ?_
    rintro e w' ⟨rfl, rfl⟩
    exact ⟨rfl, v, h2, h3, Fr.refl _ _ _⟩

theorem infoU : (Tryz.prog.info? 5).map (fun i => (i.zero, i.size, i.bytes)) = some (some (.int .u8 0), 1, 1) := by kernel_rfl

set_option maxHeartbeats 2000000 in
set_option maxRecDepth 100000 in
theorem wbx_any (B b : Nat) (l : List UInt8) (c : UInt8) (w : World) (h : BldX B b l w) (hlen : l.length ≤ 1000000000) (hBw : B ≤ w.heap.size) :
    Calls Tryz.prog 103 #[.pointer (some ⟨b, 0, none⟩), .int .u8 c.toNat] w fun e w' => e = .returned .nilIface ∧ BldX B b (l ++ [c]) w' ∧ Fr B b w w' := by
  obtain ⟨i0, hi, hz0, hz1, hz2⟩ := info_parts infoU
  have hb : b < B := let ⟨_, _, _, _, _, hb⟩ := h; hb
  have HC := Lib.hid (copyCheckX B b l w h)
  clear h
  go_enter Tryz.func103, Tryz.ntmps103
  go_wp2_with fail
  refine HC.out.mono ?_
  rintro e w1 ⟨rfl, v, hbk, hown, hf1⟩
  have c0 : w1.cell? ⟨b, 0, none⟩ = some (.pointer (some ⟨b, 0, none⟩)) := by simp [World.cell?, hbk]
  have c1 : w1.cell? ⟨b, 1, none⟩ = some v := by simp [World.cell?, hbk]
  have hs1 := hf1.size
  have hbl : (Lib.byteCells l).length ≤ 1000000000 := by rw [Lib.byteCells_length]; exact hlen
  have HO := Lib.hid hown
  clear hown
  go_wp2_with (at_builtin; refine wpList_append_ownF _ rfl _ _ 32 rfl B 5 i0 (.int .u8 0) 1 1 Tryz.underlying32 hi hz0 hz1 hz2 rfl (by decide) _ _ _ rfl (HO.out.alloc _) ⟨w1.heap.size, 0, none⟩ 1 1 [.int .u8 (c.toNat : Int)] rfl rfl ?c1 ?c2 ?c3 ?c4 ?c5 ?_)
  case c1 =>
    intro j u hj
    match j, hj with
    | 0, hj => simp at hj; subst hj; simp [Addr.add]
  case c2 => intro u hu; simp at hu; subst hu; rfl
  case c3 => unfold maxLen; omega
  case c4 => omega
  case c5 => simp; omega
  intro v' w2 hown' hgrow _
  have hlt : b < w1.heap.size := (Array.getElem?_eq_some_iff.1 hbk).1
  have hne : v.ownBlock ≠ some b := fun e => by have := (HO.out.lt _ e).1; omega
  have hb2 : w2.heap[b]? = some (.cells #[.pointer (some ⟨b, 0, none⟩), v] 40 (0, 0)) := by
    rw [hgrow.block b (by simp; omega) (fun e => hne e.symm), Lib.alloc_old w1 _ b hlt]
    exact hbk
  have d0 : w2.cell? ⟨b, 0, none⟩ = some (.pointer (some ⟨b, 0, none⟩)) := by simp [World.cell?, hb2]
  have d1 : w2.cell? ⟨b, 1, none⟩ = some v := by simp [World.cell?, hb2]
  have f1 : w2.frozen? ⟨b, 1, none⟩ = false := by simp [World.frozen?, hb2]
  obtain ⟨g, cap, rfl⟩ : ∃ g cap, v' = .slice (some ⟨g, 0, none⟩) ((Lib.byteCells l).length + 1) cap := by
    rcases hown'.2 with ⟨_, h0⟩ | ⟨g, cap, cur, fz, hv, _⟩
    · omega
    · exact ⟨g, cap, hv⟩
  go_wp2
  go_ret
  have hF2 : Fr B b w1 w2 := by
    have hA := (Fr.refl B b w1).alloc (.cells #[.int .u8 (c.toNat : Int)] 5) (by omega)
    refine ⟨hgrow.os.trans hA.os, hgrow.tape.trans hA.tape, hgrow.output.trans hA.output, Nat.le_trans hA.size hgrow.size, fun k hk hkb => ?_, (hA.oth.grown hgrow (Lib.ownsRowF_kind (HO.out.alloc _)))⟩
    rw [hgrow.block k (by simp; omega) (fun e => by have := (HO.out.lt _ e.symm).1; omega)]
    exact hA.low k hk hkb
  refine ⟨rfl, ?_, ?_⟩
  · refine ⟨.pointer (some ⟨b, 0, none⟩), .slice (some ⟨g, 0, none⟩) ((Lib.byteCells l).length + 1) cap, .inr rfl, by simp [World.setCell, Array.getElem?_modify, hb2], ?_, hb⟩
    have hne2 : (Value.slice (some ⟨g, 0, none⟩) ((Lib.byteCells l).length + 1) cap).ownBlock ≠ some b := fun e => by have := (hown'.lt _ e).1; omega
    rw [Lib.byteCells_append, List.length_append]
    exact hown'.kept (row := some b) ⟨rfl, rfl, rfl, by simp [World.setCell], fun k _ hk => Below.heap_setCell _ _ _ _ (fun e => hk (by simp [e]))⟩ (.inr hne2)
  · refine (hf1.trans hF2).trans ?_
    exact ⟨rfl, rfl, rfl, by simp [World.setCell], fun k _ hk => Below.heap_setCell _ _ _ _ (fun e => hk (by simp [e])), (Lib.OthersKept.refl _ _ w2).setCell ⟨b, 1, none⟩ rfl _⟩
end Go.Proofs.YtdkocjdhekomoaaGreatDoor
