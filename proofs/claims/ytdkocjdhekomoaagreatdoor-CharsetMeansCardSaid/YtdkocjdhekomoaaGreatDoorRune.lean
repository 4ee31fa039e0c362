/-
  strings.IndexRune of the four white bytes at a rune that is not ASCII: -1. strings.IndexAny at the four white bytes, for every string.
-/
import Derived.Test.YtdkocjdhekomoaaGreatDoorLib
import Derived.Test.YtdkocjdhekomoaaGreatDoorPlain
import Derived.WalkKit
import Derived.WalkSpells
import Derived.WalkLawsBesides
import Derived.Outline
import Derived.Lib.Hide
import Derived.Lib.DecodeN
import Derived.Lib.OthersKept
import Derived.Deep.QuietTactic
import Derived.BigQuiet
import Derived.WalkMore
namespace Go.Proofs.YtdkocjdhekomoaaGreatDoor
open Go Go.RowKit Go.Shelf
namespace Tx

def HighB (rs : ByteArray) : Prop :=
  (∃ a b : UInt8, rs = ⟨#[a, b]⟩ ∧ 128 ≤ a.toNat ∧ 128 ≤ b.toNat) ∨ (∃ a b c : UInt8, rs = ⟨#[a, b, c]⟩ ∧ 128 ≤ a.toNat ∧ 128 ≤ b.toNat ∧ 128 ≤ c.toNat) ∨
  (∃ a b c d : UInt8, rs = ⟨#[a, b, c, d]⟩ ∧ 128 ≤ a.toNat ∧ 128 ≤ b.toNat ∧ 128 ≤ c.toNat ∧ 128 ≤ d.toNat)
/-- The encoding of a rune that is not ASCII has 2 to 4 bytes, none of them ASCII. -/
theorem encode_high (r : Int) (h : 128 ≤ r) : HighB (Utf8.encode r) := by
  have hc : 128 ≤ (if Utf8.valid r then r.toNat else Utf8.runeError) := by
    split
    · omega
    · decide
  have hle : (if Utf8.valid r then r.toNat else Utf8.runeError) ≤ 1114111 := by
    split
    · rename_i hv
      simp [Utf8.valid] at hv
      omega
    · decide
  unfold Utf8.encode
  simp only
  generalize (if Utf8.valid r then r.toNat else Utf8.runeError) = c at hc hle
  rw [if_neg (by omega)]
  by_cases h1 : c < 2048
  · rw [if_pos h1]
    refine .inl ⟨_, _, rfl, (by simp [UInt8.toNat_ofNat']; omega), (by simp [UInt8.toNat_ofNat']; omega)⟩
  · rw [if_neg h1]
    by_cases h2 : c < 65536
    · rw [if_pos h2]
      refine .inr (.inl ⟨_, _, _, rfl, (by simp [UInt8.toNat_ofNat']; omega), (by simp [UInt8.toNat_ofNat']; omega), (by simp [UInt8.toNat_ofNat']; omega)⟩)
    · rw [if_neg h2]
      refine .inr (.inr ⟨_, _, _, _, rfl, (by simp [UInt8.toNat_ofNat']; omega), (by simp [UInt8.toNat_ofNat']; omega), (by simp [UInt8.toNat_ofNat']; omega), (by simp [UInt8.toNat_ofNat']; omega)⟩)
end Tx

set_option maxHeartbeats 1000000 in
set_option maxRecDepth 100000 in
theorem indexRune_error (w : World) :
    Calls Tryz.prog 105 #[.string ⟨#[9, 10, 13, 32]⟩, .int .i32 65533] w fun e w' => e = .returned (.int .i64 (-1)) ∧ Below w.heap.size w w' := by
  obtain ⟨s, hs⟩ : ∃ s : ByteArray, (⟨#[9, 10, 13, 32]⟩ : ByteArray) = s := ⟨_, rfl⟩
  have hs4 : s.size = 4 := by rw [← hs]; rfl
  have hb : ∀ (p : Nat) (hp : p < s.size), (s[p]'hp).toNat < 128 := by
    subst hs
    intro p hp
    match p, hp with
    | 0, _ => decide +revert
    | 1, _ => decide +revert
    | 2, _ => decide +revert
    | 3, _ => decide +revert
  rw [hs]
  have HB := Lib.hid hb
  have HS := Lib.hid hs4
  clear hs hb hs4
  go_enter Tryz.func105, Tryz.ntmps105
  go_wp2
  go_loopw [5, 6] (fun _ _ wr => ∃ pos : Nat, wr.heap[w.heap.size]? = some (.stringIter s pos) ∧ Below w.heap.size w wr) (fun _ _ wr => s.size - wr.iterPos w.heap.size)
  case atStart => exact ⟨0, World.iter_heap w s 0, (Below.refl _ w).alloc (Nat.le_refl _) _⟩
  case round =>
    obtain ⟨pos, hit, hbw⟩ := hrel
    by_cases hp : pos < s.size
    · have hx := HB.out pos hp
      obtain ⟨x, hxe⟩ : ∃ x : Nat, (s[pos]'hp).toNat = x := ⟨_, rfl⟩
      have hnx : ∀ ty, (Instr.next (.pointer (some ⟨w.heap.size, 0, none⟩)) true ty).run Tryz.prog wr = _ := fun ty => Lib.run_next_ascii_at wr w.heap.size s pos ty hit hp hx
      rw [hxe] at hnx hx
      clear hxe
      have hne : ((x : Int) == 65533) = false := beq_eq_false_iff_ne.2 (by omega)
      have hit2 := Lib.iterAt_heap wr w.heap.size s pos (pos + 1) hit
      have hbw2 := Lib.below_iterAt hbw (k := w.heap.size) (Nat.le_refl _) s (pos + 1)
      go_wp2
      go_roundw
      case rel => exact ⟨pos + 1, hit2, hbw2⟩
      case measure => simp only [World.iterPos, hit2, hit]; omega
    · have hnx : ∀ ty, (Instr.next (.pointer (some ⟨w.heap.size, 0, none⟩)) true ty).run Tryz.prog wr = _ := fun ty => Lib.run_next_end_at wr w.heap.size s pos ty hit hp
      go_wp2
      go_ret
      exact ⟨rfl, hbw⟩

theorem validRune_yes (r : Int) (w : World) (h0 : 0 ≤ r) (h : r < 55296 ∨ (57344 ≤ r ∧ r ≤ 1114111)) :
    Calls Tryz.prog 122 #[.int .i32 r] w fun e w' => e = .returned (.bool true) ∧ w = w' := by
  rcases h with h | ⟨h1, h2⟩
  · go_enter Tryz.func122, Tryz.ntmps122
    go_wp2
    go_ret
    exact ⟨rfl, rfl⟩
  · have h3 : 57343 < r := by omega
    go_enter Tryz.func122, Tryz.ntmps122
    go_wp2
    go_ret
    exact ⟨rfl, rfl⟩
theorem validRune_no (r : Int) (w : World) (h1 : 55296 ≤ r) (h2 : r ≤ 57343) :
    Calls Tryz.prog 122 #[.int .i32 r] w fun e w' => e = .returned (.bool false) ∧ w = w' := by
  go_enter Tryz.func122, Tryz.ntmps122
  go_wp2
  go_ret
  exact ⟨rfl, rfl⟩

theorem indexByte_white (l : List UInt8) (c : UInt8) (hl : ∀ x ∈ l, x.toNat < 128) (hc : 128 ≤ c.toNat) : Lib.indexByte l c = -1 := by
  induction l with
  | nil => rfl
  | cons x r ih =>
    have hx := hl x (by simp)
    have hne : x ≠ c := fun e => by subst e; omega
    simp [Lib.indexByte, hne, ih (fun y hy => hl y (by simp [hy]))]

theorem indexByte_calls (s : ByteArray) (c : UInt8) (w : World) (hl : ∀ x ∈ s.data.toList, x.toNat < 128) (hc : 128 ≤ c.toNat) :
    Calls Tryz.prog 121 #[.string s, .int .u8 c.toNat] w fun e w' => e = .returned (.int .i64 (-1)) ∧ w' = w :=
  (Any.strings_IndexByte { Tryz.lays152 with } s c.toNat w).mono fun e w' ⟨h1, h2⟩ => ⟨by rw [h1, indexByte_white _ _ hl (by simpa using hc)], h2⟩

/-- A call that leaves the world alone, in a quiet region that stands behind another one: the draws are added up. -/
theorem quiet_more {P : Program} {f : FuncId} {args : Array Value} {w : World} {a n : Nat} {v : Value} (h : ∀ W : World, Calls P f args W fun e w' => e = .returned v ∧ w' = W) :
    Calls P f args (w.drewN (a + n)) fun e w' => e = .returned v ∧ ∃ m, w' = w.drewN (a + m) :=
  (h _).mono fun _ _ h => ⟨h.1, n, h.2⟩
theorem below_drews {B : Nat} {a w : World} (h : Below B a w) (n : Nat) : Below B a (w.drewN n) := ⟨h.os, h.tape, h.output, h.size, h.block⟩

set_option maxHeartbeats 1000000 in
set_option maxRecDepth 100000 in
theorem indexRune_high2 (r : Int) (a b : UInt8) (w : World) (h : 128 ≤ r) (hne : (r == 65533) = false) (h2 : r < 55296 ∨ (57344 ≤ r ∧ r ≤ 1114111)) (hrs : Utf8.encode r = ⟨#[a, b]⟩) (hb : 128 ≤ b.toNat) :
    Calls Tryz.prog 105 #[.string ⟨#[9, 10, 13, 32]⟩, .int .i32 r] w fun e w' => e = .returned (.int .i64 (-1)) ∧ Below w.heap.size w w' := by
  have H2 := Lib.hid h2
  clear h2
  have hx : ((((⟨#[9, 10, 13, 32]⟩ : ByteArray)[1]'(by decide)).toNat : Int) != (((⟨#[a, b]⟩ : ByteArray)[1]'(show 1 < 2 by decide)).toNat : Int)) = true := by
    rw [bne_iff_ne]
    show (10 : Int) ≠ (b.toNat : Int)
    omega
  have HI := Lib.hid (fun w => indexByte_calls ⟨#[13, 32]⟩ b w (by decide) hb)
  go_enter Tryz.func105, Tryz.ntmps105
  go_wp2_with (go_at_call 122; refine (validRune_yes _ _ (by omega) H2.out).mono ?_; rintro e w' ⟨rfl, rfl⟩)
  go_step3
  go_wp2
  refine wp_loop_rounds 1 ?_; rw [rounds_succ]
  go_wp2
  go_step3
  go_wp2
  go_quiet (fail)
  go_wp2
  go_quiet ((go_at_call 121; exact quiet_more HI.out))
  go_wp2
  rw [Exit.noGoto_ret]
  go_wp2
  rw [Exit.noGoto_ret]
  go_ret
  exact ⟨rfl, below_drews (Below.refl _ _) _⟩

set_option maxHeartbeats 1000000 in
set_option maxRecDepth 100000 in
theorem indexRune_high3 (r : Int) (a b c : UInt8) (w : World) (h : 128 ≤ r) (hne : (r == 65533) = false) (h2 : r < 55296 ∨ (57344 ≤ r ∧ r ≤ 1114111)) (hrs : Utf8.encode r = ⟨#[a, b, c]⟩) (hb : 128 ≤ c.toNat) :
    Calls Tryz.prog 105 #[.string ⟨#[9, 10, 13, 32]⟩, .int .i32 r] w fun e w' => e = .returned (.int .i64 (-1)) ∧ Below w.heap.size w w' := by
  have H2 := Lib.hid h2
  clear h2
  have hx : ((((⟨#[9, 10, 13, 32]⟩ : ByteArray)[2]'(by decide)).toNat : Int) != (((⟨#[a, b, c]⟩ : ByteArray)[2]'(show 2 < 3 by decide)).toNat : Int)) = true := by
    rw [bne_iff_ne]
    show (13 : Int) ≠ (c.toNat : Int)
    omega
  have HI := Lib.hid (fun w => indexByte_calls ⟨#[32]⟩ c w (by decide) hb)
  go_enter Tryz.func105, Tryz.ntmps105
  go_wp2_with (go_at_call 122; refine (validRune_yes _ _ (by omega) H2.out).mono ?_; rintro e w' ⟨rfl, rfl⟩)
  go_step3
  go_wp2
  refine wp_loop_rounds 1 ?_; rw [rounds_succ]
  go_wp2
  go_step3
  go_wp2
  go_quiet (fail)
  go_wp2
  go_quiet ((go_at_call 121; exact quiet_more HI.out))
  go_wp2
  rw [Exit.noGoto_ret]
  go_wp2
  rw [Exit.noGoto_ret]
  go_ret
  exact ⟨rfl, below_drews (Below.refl _ _) _⟩

set_option maxHeartbeats 1000000 in
set_option maxRecDepth 100000 in
theorem indexRune_high4 (r : Int) (a b c d : UInt8) (w : World) (h : 128 ≤ r) (hne : (r == 65533) = false) (h2 : r < 55296 ∨ (57344 ≤ r ∧ r ≤ 1114111)) (hrs : Utf8.encode r = ⟨#[a, b, c, d]⟩) (hb : 128 ≤ d.toNat) :
    Calls Tryz.prog 105 #[.string ⟨#[9, 10, 13, 32]⟩, .int .i32 r] w fun e w' => e = .returned (.int .i64 (-1)) ∧ Below w.heap.size w w' := by
  have H2 := Lib.hid h2
  clear h2
  have hx : ((((⟨#[9, 10, 13, 32]⟩ : ByteArray)[3]'(by decide)).toNat : Int) != (((⟨#[a, b, c, d]⟩ : ByteArray)[3]'(show 3 < 4 by decide)).toNat : Int)) = true := by
    rw [bne_iff_ne]
    show (32 : Int) ≠ (d.toNat : Int)
    omega
  have HI := Lib.hid (fun w => indexByte_calls ⟨#[]⟩ d w (by decide) hb)
  go_enter Tryz.func105, Tryz.ntmps105
  go_wp2_with (go_at_call 122; refine (validRune_yes _ _ (by omega) H2.out).mono ?_; rintro e w' ⟨rfl, rfl⟩)
  go_step3
  go_wp2
  refine wp_loop_rounds 1 ?_; rw [rounds_succ]
  go_wp2
  go_step3
  go_wp2
  go_quiet (fail)
  go_wp2
  go_quiet ((go_at_call 121; exact quiet_more HI.out))
  go_wp2
  rw [Exit.noGoto_ret]
  go_wp2
  rw [Exit.noGoto_ret]
  go_ret
  exact ⟨rfl, below_drews (Below.refl _ _) _⟩

set_option maxHeartbeats 1000000 in
set_option maxRecDepth 100000 in
theorem indexRune_not (r : Int) (w : World) (h : 55296 ≤ r) (h2 : r ≤ 57343) :
    Calls Tryz.prog 105 #[.string ⟨#[9, 10, 13, 32]⟩, .int .i32 r] w fun e w' => e = .returned (.int .i64 (-1)) ∧ Below w.heap.size w w' := by
  have hne : (r == 65533) = false := beq_eq_false_iff_ne.2 (by omega)
  go_enter Tryz.func105, Tryz.ntmps105
  go_wp2_with (go_at_call 122; refine (validRune_no _ _ h h2).mono ?_; rintro e w' ⟨rfl, rfl⟩)
  go_ret
  exact ⟨rfl, Below.refl _ _⟩

/-- strings.IndexRune of the four white bytes, at a rune that is not ASCII. -/
theorem indexRune_any (r : Int) (w : World) (h : 128 ≤ r) (h2 : r ≤ 1114111) :
    Calls Tryz.prog 105 #[.string ⟨#[9, 10, 13, 32]⟩, .int .i32 r] w fun e w' => e = .returned (.int .i64 (-1)) ∧ Below w.heap.size w w' := by
  by_cases h3 : r = 65533
  · subst h3; exact indexRune_error w
  have hne : (r == 65533) = false := beq_eq_false_iff_ne.2 h3
  by_cases h4 : 55296 ≤ r ∧ r ≤ 57343
  · exact indexRune_not r w h4.1 h4.2
  have h5 : r < 55296 ∨ (57344 ≤ r ∧ r ≤ 1114111) := by omega
  rcases Tx.encode_high r h with ⟨a, b, hrs, _, hb⟩ | ⟨a, b, c, hrs, _, _, hb⟩ | ⟨a, b, c, d, hrs, _, _, _, hb⟩
  · exact indexRune_high2 r a b w h hne h5 hrs hb
  · exact indexRune_high3 r a b c w h hne h5 hrs hb
  · exact indexRune_high4 r a b c d w h hne h5 hrs hb

end Go.Proofs.YtdkocjdhekomoaaGreatDoor
