/-
  append of a string and of zeros to a row of bytes, with the block that it has behind it; put.
-/
import Derived.Test.YtbpodclodflgfaaKMem
namespace Go.Proofs.Ytbpodclodflgfaa
open Go Go.RowKit
theorem zeros_list (k : Nat) : (Builtin.zeroCells (Value.int IntKind.u8 0).cells k).toList = bv (List.replicate k 0) := by
  have hz : (Value.int IntKind.u8 0).cells = #[Value.int IntKind.u8 0] := rfl
  rw [hz]
  refine List.ext_getElem (by simp [Builtin.zeroCells, bv]) fun i h1 h2 => ?_
  simp [Builtin.zeroCells, bv, Nat.mod_one]
section
variable (w : World) {base : Nat} {v : Value} {l : List UInt8}
theorem app_str (ty : TypeId) (hown : w.ownsRow base 5 1 v l.length (bv l)) (s : ByteArray) (hbig : l.length + s.size ≤ 1000000000) (hbase : base ≤ w.heap.size) :
    ∃ v' w', (Builtin.append_ #[46, 9] ty #[v, .string s]).run Try.prog w = .ok v' w' ∧ w'.ownsRow base 5 1 v' (l ++ s.data.toList).length (bv (l ++ s.data.toList)) ∧ w.grownBy w' v.ownBlock ∧ SF w v v' := by
  obtain ⟨i, hi, hz, hsize, hby⟩ := info_parts infoU
  obtain ⟨v', w', hr, h2, h3, h4⟩ := Lib.run_append_own_string (P := Try.prog) w base 46 9 ty 5 i Try.underlying46 Try.underlying9 hi hz hsize hby v l.length (bv l) hown s (by unfold maxLen; omega) (by omega) hbase
  have hz2 := Lib.size_eq s
  refine ⟨v', w', hr, ?_, h3, ?_⟩
  · rw [List.length_append, bv_append, ← hz2]; exact h2
  rcases hown.2 with ⟨rfl, h0⟩ | ⟨g, cap, cur, rfl, hbg, hg, hnc, hcm, hcs, htake⟩
  · by_cases hm : s.size = 0
    · have := h4.2 ⟨rfl, hm⟩
      subst this
      exact .inl rfl
    · have hr2 := run_append_nil_string (P := Try.prog) w 46 9 ty 5 i (.int .u8 0) Try.underlying46 Try.underlying9 hi hz s (by omega) (by omega) (by rw [hby]; omega)
      rw [hr2] at hr
      injection hr with h _
      subst h
      exact .inr ⟨_, rfl, Nat.le_refl _⟩
  · by_cases hroom : l.length + s.size ≤ cap
    · have hcs' : cur.size = cap := by simpa using hcs
      have hr2 := Lib.run_append_room_string (P := Try.prog) w 46 9 ty 5 i Try.underlying46 Try.underlying9 hi hsize g l.length cap cur hg s hroom (by omega)
      rw [hr2] at hr
      injection hr with h _
      subst h
      exact .inl rfl
    · have holds : ∀ j u, (bv l)[j]? = some u → w.cell? ((⟨g, 0, none⟩ : Addr).add j) = some u := hown.cells (g := g) rfl
      have hr2 := Lib.run_append_grow_string (P := Try.prog) w 46 9 ty 5 i (.int .u8 0) Try.underlying46 Try.underlying9 hi hz ⟨g, 0, none⟩ l.length cap (bv l) (by rw [hsize, bv_length, Nat.mul_one]) holds s (by omega) (by omega) (by rw [hby]; exact growslice_fits (by omega) (by omega))
      rw [hr2] at hr
      injection hr with h _
      subst h
      exact .inr ⟨_, rfl, Nat.le_refl _⟩
theorem app_zeros (ty : TypeId) (hown : w.ownsRow base 5 1 v l.length (bv l)) (kq : IntKind) (k : Nat) (hk : 0 < k) (hbig : l.length + k ≤ 1000000000) (hbase : base ≤ w.heap.size) :
    ∃ v' w', (Builtin.append_ #[46, 3] ty #[v, .int kq k]).run Try.prog w = .ok v' w' ∧ w'.ownsRow base 5 1 v' (l ++ List.replicate k 0).length (bv (l ++ List.replicate k 0)) ∧ w.grownBy w' v.ownBlock ∧ SF w v v' := by
  obtain ⟨i, hi, hz, hsize, hby⟩ := info_parts infoU
  have hlen : (l ++ List.replicate k (0 : UInt8)).length = l.length + k := by simp
  have hzl := zeros_list k
  have grown : ∀ (old : Nat), ∀ (row : Option Nat),
      (w.drew.alloc (.cells ((bv l).toArray ++ Builtin.zeroCells (Value.int .u8 0).cells k ++ Builtin.zeroCells (Value.int .u8 0).cells (grownCap w (l.length + k) old 5 - (l.length + k))) 5)).ownsRow base 5 1
        (.slice (some ⟨w.heap.size, 0, none⟩) (l.length + k) (grownCap w (l.length + k) old 5)) (l.length + k) (bv (l ++ List.replicate k 0)) ∧
      w.grownBy (w.drew.alloc (.cells ((bv l).toArray ++ Builtin.zeroCells (Value.int .u8 0).cells k ++ Builtin.zeroCells (Value.int .u8 0).cells (grownCap w (l.length + k) old 5 - (l.length + k))) 5)) row := by
    intro old row
    have hge := grownCap_ge w (l.length + k) old 5
    have hcm : grownCap w (l.length + k) old 5 ≤ maxLen := grownCap_le_maxLen w (l.length + k) old 5 (by unfold maxLen; omega)
    have hone : (Value.int IntKind.u8 0).cells.size = 1 := rfl
    refine ⟨⟨by rw [bv_length, hlen]; omega, .inr ⟨w.heap.size, _, _, rfl, hbase, heap_alloc_new w.drew _, hge, hcm, ?_, ?_⟩⟩, ⟨rfl, rfl, rfl, by simp, fun j hj _ => heap_alloc_old w.drew _ hj⟩⟩
    · simp only [Array.size_append, List.size_toArray, size_zeroCells, hone, bv_length]
      omega
    · simp only [Array.toList_append, hzl]
      rw [← bv_append, List.take_left' (by rw [bv_length, hlen]; omega)]
  rcases hown.2 with ⟨rfl, h0⟩ | ⟨g, cap, cur, rfl, hbg, hg, hnc, hcm, hcs, htake⟩
  · have hl : l = [] := List.eq_nil_of_length_eq_zero h0
    subst hl
    have hr := Lib.run_append_nil_zeros (P := Try.prog) w 46 3 ty 5 i (.int .u8 0) kq .i64 Try.underlying46 Try.underlying3 hi hz k hk (by omega) (by omega) (by rw [hby]; omega)
    have hg := grown 0 none
    simp only [List.length_nil, Nat.zero_add, List.nil_append, bv, List.map_nil, Array.empty_append] at hg hr ⊢
    exact ⟨_, _, hr, by rw [List.length_replicate]; exact hg.1, hg.2, .inr ⟨_, rfl, Nat.le_refl _⟩⟩
  · by_cases hroom : l.length + k ≤ cap
    · have hcs' : cur.size = cap := by simpa using hcs
      have hzlen : (bv (List.replicate k 0)).length = k := by rw [bv_length, List.length_replicate]
      have hst := run_storeCells_at Try.prog g l.length 5 (bv (List.replicate k 0)) 0 cur w hg (by rw [hzlen]; omega) (bv_cells _)
      simp only [Nat.add_zero, hzlen] at hst
      have hw : IntKind.i64.wrap (k : Int) = k := by rw [IntKind.wrap_i64]; omega
      have hneg : ¬ ((k : Int) < 0) := by omega
      have h48i : ¬ (281474976710656 < (k : Int)) := by omega
      have hk0 : k ≠ 0 := by omega
      have hr : (Builtin.append_ #[46, 3] ty #[.slice (some ⟨g, 0, none⟩) l.length cap, .int kq k]).run Try.prog w =
          .ok (.slice (some ⟨g, 0, none⟩) (l.length + k) cap) (w.setRow g (cur.toList.take l.length ++ bv (List.replicate k 0) ++ cur.toList.drop (l.length + k)).toArray) := by
        simp [Builtin.append_, run_underlying (P := Try.prog) Try.underlying46, run_underlying (P := Try.prog) Try.underlying3, sizeOf, typeInfo, zeroValue, hi, hz, hsize, hby, asInt, asIntOf, hw, hneg, h48i, hroom, hk0, zeros_list, Addr.add_lit, hst]
      refine ⟨_, _, hr, ⟨by rw [bv_length, hlen]; omega, .inr ⟨g, cap, _, by rw [hlen], hbg, setRow_heap w g cur _ _ _ hg, by rw [hlen]; exact hroom, hcm, ?_, ?_⟩⟩, ⟨rfl, rfl, rfl, by simp, fun k _ hk => setRow_other w g k _ (fun e => hk (by simp [Value.ownBlock, e]))⟩, .inl rfl⟩
      · simp only [List.size_toArray, List.length_append, List.length_take, List.length_drop, Array.length_toList, hzlen]
        omega
      · have ht' : cur.toList.take l.length = bv l := by simpa using htake
        rw [ht', ← bv_append, List.take_left' (by rw [bv_length]; omega)]
    · have holds : ∀ j u, (bv l)[j]? = some u → w.drew.cell? ((⟨g, 0, none⟩ : Addr).add j) = some u := hown.cells (g := g) rfl
      have hf := run_firstCells_some (P := Try.prog) w.drew i.size l.length ⟨g, 0, none⟩ l.length cap (bv l) (by rw [hsize, bv_length, Nat.mul_one]) holds
      have hr := Lib.run_append_grow_zeros (P := Try.prog) w 46 3 ty 5 i (.int .u8 0) kq .i64 Try.underlying46 Try.underlying3 hi hz (some ⟨g, 0, none⟩) l.length cap (bv l) hf k hk (by omega) (by omega) (by omega) (by rw [hby]; omega) (by rw [hby]; exact growslice_fits (by omega) (by omega))
      have hgr := grown cap (some g)
      exact ⟨_, _, hr, by rw [hlen]; exact hgr.1, hgr.2, .inr ⟨_, rfl, Nat.le_refl _⟩⟩
end
section
variable {w : World} {ops : Array Oper} {o : Oper} {a : Act} {Q : Exit → Act → World → Prop} {rest : List Oper}
theorem wpList_app_str (hgd : o.guard = none) (s x : Operand) (ho : o.op = .call { callee := .builtin .append, args := #[s, x], argTypes := #[46, 9] })
    {base : Nat} {v : Value} {l : List UInt8} (hs : a.eval s = v) (hown : w.ownsRow base 5 1 v l.length (bv l)) (b : ByteArray) (hx : a.eval x = .string b) (hbig : l.length + b.size ≤ 1000000000) (hbase : base ≤ w.heap.size)
    (h : ∀ v' w', Hid (w'.ownsRow base 5 1 v' (l ++ b.data.toList).length (bv (l ++ b.data.toList))) → Hid (w.grownBy w' v.ownBlock) → Hid (SF w v v') → wpList Try.prog ops Q rest (a.put o.dst v') w') : wpList Try.prog ops Q (o :: rest) a w := by
  refine wpList_plain hgd fun K hK => ?_
  obtain ⟨v', w', hr, h2, h3, h4⟩ := app_str w o.type hown b hbig hbase
  unfold Oper.wp execOp
  simp only [ho, resolve, invoke, builtin, Sem.run_bind, Sem.run_pure, Result.andThen_ok, List.map_toArray, List.map_cons, List.map_nil, hs, hx, hr]
  exact hK _ _ (h v' w' h2 h3 h4)
theorem wpList_app_zeros (hgd : o.guard = none) (s x : Operand) (ho : o.op = .call { callee := .builtin .append, args := #[s, x], argTypes := #[46, 3] })
    {base : Nat} {v : Value} {l : List UInt8} (hs : a.eval s = v) (hown : w.ownsRow base 5 1 v l.length (bv l)) (kq : IntKind) (z : Int) (k : Nat) (hx : a.eval x = .int kq z) (hz : z = (k : Int)) (hk : 0 < k) (hbig : l.length + k ≤ 1000000000) (hbase : base ≤ w.heap.size)
    (h : ∀ v' w', Hid (w'.ownsRow base 5 1 v' (l ++ List.replicate k 0).length (bv (l ++ List.replicate k 0))) → Hid (w.grownBy w' v.ownBlock) → Hid (SF w v v') → wpList Try.prog ops Q rest (a.put o.dst v') w') : wpList Try.prog ops Q (o :: rest) a w := by
  subst hz
  refine wpList_plain hgd fun K hK => ?_
  obtain ⟨v', w', hr, h2, h3, h4⟩ := app_zeros w o.type hown kq k hk hbig hbase
  unfold Oper.wp execOp
  simp only [ho, resolve, invoke, builtin, Sem.run_bind, Sem.run_pure, Result.andThen_ok, List.map_toArray, List.map_cons, List.map_nil, hs, hx, hr]
  exact hK _ _ (h v' w' h2 h3 h4)
end
end Go.Proofs.Ytbpodclodflgfaa
