/-
  Lines and groups, plainly; what a range over pieces keeps.
-/
import Derived.Test.YtdkocjdhekomoaaGreatDoorCGrp
namespace Go.Proofs.YtdkocjdhekomoaaGreatDoor
open Go Go.RowKit Go.Shelf
namespace Cd
theorem part_len (L : List UInt8) (x : Nat × Nat) (h : x.1 + x.2 ≤ L.length) : (part L x).length = x.2 := by
  unfold part; rw [List.length_take, List.length_drop]; omega
theorem part_part (L : List UInt8) (x y : Nat × Nat) (h1 : x.1 ≤ y.1) (h2 : y.1 + y.2 ≤ x.1 + x.2) : part (part L x) (y.1 - x.1, y.2) = part L y := by
  unfold part
  simp only
  rw [List.drop_take, List.drop_drop, List.take_take, Nat.min_eq_left (by omega), show x.1 + (y.1 - x.1) = y.1 by omega]
/-- The groups that have come; the lines that have come. -/
def grps (L : List UInt8) (ys : List (Nat × Nat)) : List UInt8 := (ys.map fun y => grp (part L y)).flatten
def lins (L : List UInt8) (xs : List (Nat × Nat)) : List UInt8 := (xs.map fun x => b64line (part L x) ++ [10]).flatten
theorem grps_snoc (L : List UInt8) (ys : List (Nat × Nat)) (y : Nat × Nat) : grps L (ys ++ [y]) = grps L ys ++ grp (part L y) := by simp [grps]
theorem lins_snoc (L : List UInt8) (xs : List (Nat × Nat)) (x : Nat × Nat) : lins L (xs ++ [x]) = lins L xs ++ (b64line (part L x) ++ [10]) := by simp [lins]
theorem grps_len (L : List UInt8) : ∀ ys : List (Nat × Nat), (grps L ys).length = 4 * ys.length
  | [] => rfl
  | y :: ys => by
    have e : grps L (y :: ys) = grp (part L y) ++ grps L ys := by simp [grps]
    rw [e, List.length_append, grps_len L ys, List.length_cons]
    show 4 + _ = _; omega
theorem parts_len (n len : Nat) : (parts n len).length = cnt n len := by simp [parts, cnt]
theorem b64line_len (l : List UInt8) : (b64line l).length = 4 * cnt 3 l.length := by
  have e : b64line l = grps l (parts 3 l.length) := rfl
  rw [e, grps_len, parts_len]
theorem lins_le (L : List UInt8) : ∀ xs : List (Nat × Nat), (∀ x ∈ xs, x.2 ≤ 57) → (lins L xs).length ≤ 77 * xs.length
  | [], _ => Nat.le_refl _
  | x :: xs, h => by
    have e : lins L (x :: xs) = (b64line (part L x) ++ [10]) ++ lins L xs := by simp [lins]
    have h1 := lins_le L xs (fun y hy => h y (by simp [hy]))
    have h2 := h x (by simp)
    have h3 : (part L x).length ≤ 57 := by unfold part; rw [List.length_take]; omega
    have h4 : cnt 3 (part L x).length ≤ 19 := by unfold cnt; omega
    rw [e, List.length_append, List.length_append, b64line_len, List.length_cons]
    simp only [List.length_cons, List.length_nil]
    omega
theorem line_eq (L : List UInt8) (x : Nat × Nat) (hx : x.1 + x.2 ≤ L.length) (ys : List (Nat × Nat)) (hy : ∀ y ∈ ys, x.1 ≤ y.1 ∧ y.1 + y.2 ≤ x.1 + x.2) (h : ys.map (fun y => (y.1 - x.1, y.2)) = parts 3 x.2) : grps L ys = b64line (part L x) := by
  unfold b64line
  rw [part_len L x hx, ← h, List.map_map]
  unfold grps
  refine congrArg List.flatten (List.map_congr_left fun y hm => ?_)
  obtain ⟨a, b⟩ := hy y hm
  exact congrArg grp (part_part L x y a b).symm
theorem base_eq (L : List UInt8) (xs : List (Nat × Nat)) (h : xs = parts 57 L.length) : lins L xs = base64 L := by rw [h]; rfl
theorem cnt_le (n len : Nat) (hn : 0 < n) : cnt n len ≤ len := by
  by_cases h : cnt n len ≤ len
  · exact h
  · have := (lt_cnt (n := n) (len := len) (k := len) hn).1 (by omega)
    have := Nat.le_mul_of_pos_right len hn
    omega
end Cd
theorem fr_own {β : Type} {B b B' : Nat} {w0 : World} (hB : w0.heap.size ≤ B') (hw : B ≤ w0.heap.size) : OwnFrom B' (fun (_ : β) W => Fr B b w0 W) := by
  intro _ W W' row hs hg hr
  have key : ∀ k, k < w0.heap.size → W'.heap[k]? = W.heap[k]? := fun k hk => hg.block k (Nat.lt_of_lt_of_le hk hs.size) (fun e => by have := (hr k e.symm).1; omega)
  refine ⟨hg.os.trans hs.os, hg.tape.trans hs.tape, hg.output.trans hs.output, Nat.le_trans hs.size hg.size, fun k hk hb => (key k (by omega)).trans (hs.low k hk hb), ?_⟩
  intro k o hk hb ho
  rw [key k (Array.getElem?_eq_some_iff.1 hk).1]
  exact hs.oth k o hk hb ho
theorem cells_own {β : Type} (g : Nat) (C : Array Value) (T : TypeId) (fz : Nat × Nat) : Own (fun (_ : β) W => W.heap[g]? = some (.cells C T fz)) := by
  intro _ W W' row hs hg hr
  refine (hg.block g (Array.getElem?_eq_some_iff.1 hs).1 ?_).trans hs
  intro e
  obtain ⟨o, ho, hc⟩ := hr g e.symm
  rw [hs] at ho; cases ho; cases hc
theorem Fr.kp {B b p q : Nat} {W W' : World} (h : Fr B b W W') (hp : p < B) (hq : q < B) (hpb : p ≠ b) (hqb : q ≠ b) : KpC p q W W' := by
  rintro k c T fz (rfl | rfl) hk
  · exact (h.low _ hp hpb).trans hk
  · exact (h.low _ hq hqb).trans hk
theorem Fr.kp2 {B b p q : Nat} {W W' : World} {c d : Array Value} (h : Fr B b W W') (hpb : p ≠ b) (hqb : q ≠ b) (hp : W.heap[p]? = some (.cells c 32 (0, 0))) (hq : W.heap[q]? = some (.cells d 3 (0, 0))) : KpC p q W W' := by
  rintro k c' T fz (rfl | rfl) hk
  · refine h.oth _ _ hk (fun e => hpb (Option.some.inj e)) (fun c2 f2 e => ?_)
    rw [hp] at hk; cases hk; cases e
  · refine h.oth _ _ hk (fun e => hqb (Option.some.inj e)) (fun c2 f2 e => ?_)
    rw [hq] at hk; cases hk; cases e
theorem conv_bytes (s : ByteArray) (w : World) (hs : s.size ≤ 1000000) : ∃ (cap : Nat) (C : Array Value), s.size ≤ cap ∧ cap ≤ 9223372036854775807 ∧
    (convert 9 32 (.string s)).run Tryz.prog w = .ok (.slice (some ⟨w.heap.size, 0, none⟩) s.size cap) (w.drew.alloc (.cells C 5 (C.size, C.size + 1))) ∧
    ∀ (j : Nat) (c : UInt8), s.data.toList[j]? = some c → C[j]? = some (.int .u8 c.toNat) := by
  have h := run_bytes_of_string (P := Tryz.prog) w 9 32 5 s Tryz.underlying9 Tryz.underlying32 Tryz.underlying5
  refine ⟨_, _, grownCap_ge w s.size 0 5, ?_, h, ?_⟩
  · have := grownCap_le_maxLen w s.size 0 5 (by unfold maxLen; omega)
    unfold maxLen at this
    omega
  · intro j c hj
    have hl : j < s.data.size := by
      have := (List.getElem?_eq_some_iff.1 hj).1
      simpa using this
    rw [bytesRow_at s _ j hl]
    have e : s.data[j] = c := by
      have := (List.getElem?_eq_some_iff.1 hj).2
      simpa using this
    rw [e]
end Go.Proofs.YtdkocjdhekomoaaGreatDoor
