/-
  put of the program: a string into a row of bytes.
-/
import Derived.Test.YtbpodclodflgfaaKApp
namespace Go.Proofs.Ytbpodclodflgfaa
open Go Go.RowKit
namespace Dk
/-- What copy and append of put leave. -/
def laid (l : B) (at_ : Nat) (t : B) : B := splice l at_ (t.take (min t.length (l.length - at_))) ++ t.drop (min t.length (l.length - at_))
theorem laid_put (l : B) (at_ : Nat) (t : B) (h : at_ ≤ l.length) : laid l at_ t = put l at_ t := by
  refine List.ext_getElem? fun i => ?_
  rw [put_at]
  unfold laid splice
  obtain ⟨m, hm⟩ : ∃ m, min t.length (l.length - at_) = m := ⟨_, rfl⟩
  rw [hm]
  have h1 : (t.take m).length = m := by rw [List.length_take]; omega
  rw [h1]
  have ha : (l.take at_).length = at_ := by rw [List.length_take]; omega
  by_cases c1 : i < at_
  · rw [if_neg (by omega), if_pos (by omega), List.append_assoc, List.getElem?_append_left (by omega), List.getElem?_take_of_lt c1]
  · by_cases c2 : i < at_ + m
    · rw [if_pos (by omega), List.append_assoc, List.getElem?_append_right (by omega), ha, List.append_assoc, List.getElem?_append_left (by omega), List.getElem?_take_of_lt (by omega)]
    · by_cases c3 : i < l.length
      · rw [List.append_assoc, List.getElem?_append_right (by omega), ha, List.append_assoc, List.getElem?_append_right (by omega), h1, List.getElem?_append_left (by rw [List.length_drop]; omega), List.getElem?_drop]
        rw [if_neg (by omega), if_pos c3]
        congr 1; omega
      · rw [List.append_assoc, List.getElem?_append_right (by omega), ha, List.append_assoc, List.getElem?_append_right (by omega), h1, List.getElem?_append_right (by rw [List.length_drop]; omega), List.length_drop, List.getElem?_drop]
        by_cases c4 : i < at_ + t.length
        · rw [if_pos (by omega)]
          congr 1; omega
        · rw [if_neg (by omega), if_neg c3, if_neg c4]
          rw [List.getElem?_eq_none (by omega)]
theorem put_pad (l : B) (at_ : Nat) (t : B) (h : l.length ≤ at_) : put (l ++ List.replicate (at_ - l.length) 0) at_ t = put l at_ t := by
  refine List.ext_getElem? fun i => ?_
  rw [put_at, put_at, List.length_append, List.length_replicate]
  by_cases c1 : at_ ≤ i ∧ i < at_ + t.length
  · rw [if_pos c1, if_pos c1]
  · rw [if_neg c1, if_neg c1]
    by_cases c2 : i < l.length
    · rw [if_pos (by omega), if_pos c2, List.getElem?_append_left c2]
    · rw [if_neg c2]
      by_cases c3 : i < at_
      · rw [if_pos (by omega), if_pos (by omega), List.getElem?_append_right (by omega), List.getElem?_replicate, if_pos (by omega)]
      · rw [if_neg (by omega)]
end Dk
theorem copy_into (w : World) {base g cap : Nat} {l : List UInt8} (ty : TypeId) (hown : w.ownsRow base 5 1 (.slice (some ⟨g, 0, none⟩) l.length cap) l.length (bv l)) (at_ c n : Nat) (s : ByteArray) (hn : n = l.length - at_) (dp : Option Addr)
    (hdp : 0 < n → dp = some ⟨g, at_, none⟩) (hat : at_ ≤ l.length) :
    ∃ w', (Builtin.copy_ #[46, 9] ty #[.slice dp n c, .string s]).run Try.prog w = .ok (goInt (Nat.min s.size n)) w' ∧
      w'.ownsRow base 5 1 (.slice (some ⟨g, 0, none⟩) l.length cap) l.length (bv (splice l at_ (s.data.toList.take (min s.data.toList.length (l.length - at_))))) ∧ w.grownBy w' (some g) ∧ w'.heap.size = w.heap.size := by
  obtain ⟨i, hi, hz, hsize, hby⟩ := info_parts infoU
  have hsz := Lib.size_eq s
  obtain ⟨m, hm⟩ : ∃ m, Nat.min s.size n = m := ⟨_, rfl⟩
  have hm1 : m ≤ n := by rw [← hm]; exact Nat.min_le_right _ _
  have hm2 : m ≤ s.size := by rw [← hm]; exact Nat.min_le_left _ _
  have hmm : min s.data.toList.length (l.length - at_) = m := by rw [← hsz, ← hn, ← hm]; try rfl
  rw [hmm, hm]
  have htk : List.take m (List.map (fun b : UInt8 => Value.int IntKind.u8 (b.toNat : Int)) s.data.toList) = bv (s.data.toList.take m) := by
    rw [← List.map_take]; rfl
  have hlen : (bv (s.data.toList.take m)).length = m := by rw [bv_length, List.length_take]; omega
  rcases hown.2 with ⟨h0, _⟩ | ⟨g', cap', cur, hv, hbg, hg, hnc, hcm, hcs, htake⟩
  · cases h0
  injection hv with hv1 _ hv2
  injection hv1 with hv1
  injection hv1 with hv1
  subst hv1
  subst hv2
  by_cases h0 : m = 0
  · refine ⟨w, ?_, ?_, ⟨rfl, rfl, rfl, Nat.le_refl _, fun _ _ _ => rfl⟩, rfl⟩
    · rw [h0] at htk
      cases dp <;> simp [Builtin.copy_, run_underlying (P := Try.prog) Try.underlying46, Builtin.lenOf, Builtin.firstCells, sizeOf, typeInfo, hi, hm, h0, storeCells]
    · rw [h0]
      simpa [splice] using hown
  · obtain rfl := hdp (by omega)
    have hcs' : cur.size = cap := by simpa using hcs
    have hst := run_storeCells_at Try.prog g at_ 5 (bv (s.data.toList.take m)) 0 cur w hg (by rw [hlen]; omega) (bv_cells _)
    rw [hlen] at hst
    simp only [Nat.add_zero] at hst
    obtain ⟨C, hC⟩ : ∃ C, cur.toList.take at_ ++ bv (s.data.toList.take m) ++ cur.toList.drop (at_ + m) = C := ⟨_, rfl⟩
    rw [hC] at hst
    refine ⟨w.setRow g C.toArray, ?_, ⟨?_, .inr ⟨g, cap, C.toArray, rfl, hbg, setRow_heap w g cur C.toArray 5 _ hg, hnc, hcm, ?_, ?_⟩⟩, ⟨rfl, rfl, rfl, by simp, fun k _ hk => setRow_other w g k _ (fun e => hk (by rw [e]))⟩, by simp⟩
    · simp [Builtin.copy_, run_underlying (P := Try.prog) Try.underlying46, Builtin.lenOf, Builtin.firstCells, sizeOf, typeInfo, hi, hm]
      rw [htk, hst]
      simp [Result.andThen]
    · rw [bv_length, length_splice _ _ _ (by rw [List.length_take]; omega)]; try omega
    · rw [← hC]
      simp only [List.size_toArray, List.length_append, List.length_take, List.length_drop, Array.length_toList, hlen]
      omega
    · have ht' : cur.toList.take l.length = bv l := by simpa using htake
      have e1 : cur.toList = bv l ++ cur.toList.drop l.length := by rw [← ht', List.take_append_drop]
      have e2 : bv (splice l at_ (s.data.toList.take m)) = splice (bv l) at_ (bv (s.data.toList.take m)) := by
        unfold splice
        rw [bv_append, bv_append, bv_length]
        simp [bv]
      rw [e2, Nat.mul_one, ← hC]
      unfold splice
      rw [hlen]
      show ((cur.toList.take at_ ++ bv (s.data.toList.take m)) ++ cur.toList.drop (at_ + m)).take l.length = _
      rw [e1, List.take_append_of_le_length (l₁ := bv l) (by rw [bv_length]; omega), List.drop_append_of_le_length (l₁ := bv l) (by rw [bv_length]; omega), ← List.append_assoc, List.take_left' (by simp only [List.length_append, List.length_take, List.length_drop, bv_length, hlen]; omega), List.append_assoc]
theorem wpList_copy_into {w : World} {ops : Array Oper} {o : Oper} {a : Act} {Q : Exit → Act → World → Prop} {rest : List Oper} (hgd : o.guard = none) (d x : Operand)
    (ho : o.op = .call { callee := .builtin .copy, args := #[d, x], argTypes := #[46, 9] }) {base g cap : Nat} {l : List UInt8}
    (hown : w.ownsRow base 5 1 (.slice (some ⟨g, 0, none⟩) l.length cap) l.length (bv l)) (at_ c n : Nat) (s : ByteArray) (dp : Option Addr) (hd : a.eval d = .slice dp n c) (hs : a.eval x = .string s) (hn : n = l.length - at_)
    (hdp : 0 < n → dp = some ⟨g, at_, none⟩) (hat : at_ ≤ l.length) (m : Nat) (hm : Nat.min s.size n = m)
    (h : ∀ w', Hid (w'.ownsRow base 5 1 (.slice (some ⟨g, 0, none⟩) l.length cap) (splice l at_ (s.data.toList.take (min s.data.toList.length (l.length - at_)))).length (bv (splice l at_ (s.data.toList.take (min s.data.toList.length (l.length - at_)))))) → Hid (w.grownBy w' (some g)) → Hid (w'.heap.size = w.heap.size) → wpList Try.prog ops Q rest (a.put o.dst (goInt m)) w') : wpList Try.prog ops Q (o :: rest) a w := by
  subst hm
  refine wpList_plain hgd fun K hK => ?_
  obtain ⟨w', hr, h2, h3, h4⟩ := copy_into w o.type hown at_ c n s hn dp hdp hat
  unfold Oper.wp execOp
  simp only [ho, resolve, invoke, builtin, Sem.run_bind, Sem.run_pure, Result.andThen_ok, List.map_toArray, List.map_cons, List.map_nil, hd, hs, hr]
  exact hK _ _ (h w' (by show World.ownsRow _ _ _ _ _ _ _; rw [length_splice _ _ _ (by rw [List.length_take]; omega)]; exact h2) h3 h4)
theorem copy_nil (w : World) (ty : TypeId) (s : ByteArray) : (Builtin.copy_ #[46, 9] ty #[.slice none 0 0, .string s]).run Try.prog w = .ok (goInt 0) w := by
  obtain ⟨i, hi, hz, hsize, hby⟩ := info_parts infoU
  simp [Builtin.copy_, run_underlying (P := Try.prog) Try.underlying46, Builtin.lenOf, Builtin.firstCells, sizeOf, typeInfo, hi]
theorem wpList_copy_nil {w : World} {ops : Array Oper} {o : Oper} {a : Act} {Q : Exit → Act → World → Prop} {rest : List Oper} (hgd : o.guard = none) (d x : Operand)
    (ho : o.op = .call { callee := .builtin .copy, args := #[d, x], argTypes := #[46, 9] }) (s : ByteArray) (hd : a.eval d = .slice none 0 0) (hs : a.eval x = .string s)
    (h : wpList Try.prog ops Q rest (a.put o.dst (.int .i64 0)) w) : wpList Try.prog ops Q (o :: rest) a w := by
  refine wpList_plain hgd fun K hK => ?_
  have hr := copy_nil w o.type s
  unfold Oper.wp execOp
  simp only [ho, resolve, invoke, builtin, Sem.run_bind, Sem.run_pure, Result.andThen_ok, List.map_toArray, List.map_cons, List.map_nil, hd, hs, hr]
  exact hK _ _ h
end Go.Proofs.Ytbpodclodflgfaa
