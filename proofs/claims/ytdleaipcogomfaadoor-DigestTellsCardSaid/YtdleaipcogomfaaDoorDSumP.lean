/-
  SHA-256 as its last blocks; a copy of a string into an array.
-/
import Derived.Test.YtdleaipcogomfaaDoorDBytes
import Derived.Lib.BufferWrite
namespace Go.Proofs.YtdleaipcogomfaaDoor
open Go Go.RowKit Go.Shelf
namespace Dg
theorem absorb_snoc : ∀ (n : Nat) (s : St) (l : List UInt8), absorb (n + 1) s l = proc (absorb n s l) ((l.drop (64 * n)).take 64)
  | 0, s, l => by simp [absorb]
  | n + 1, s, l => by
    show absorb (n + 1) (proc s (l.take 64)) (l.drop 64) = proc (absorb n (proc s (l.take 64)) (l.drop 64)) _
    rw [absorb_snoc n, List.drop_drop, show 64 + 64 * n = 64 * (n + 1) from by omega]
theorem absorb_take (n : Nat) (s : St) (l : List UInt8) (h : 64 * n ≤ l.length) : absorb n s (l.take (64 * n)) = absorb n s l := by
  have := absorb_add n 0 s (l.take (64 * n)) (l.drop (64 * n)) (by simp; omega)
  rw [List.take_append_drop] at this
  exact this.symm
theorem sha_tail (l : List UInt8) (n q : Nat) (h : l.length = 64 * n + q) (hq : q < 64) :
    sha l = (absorb ((q + 72) / 64) (absorb n H0 l) (l.drop (64 * n) ++ 128 :: (List.replicate ((119 - q) % 64) 0 ++ be64 (8 * l.length)))).bytes := by
  have hp : pad l = l.take (64 * n) ++ (l.drop (64 * n) ++ 128 :: (List.replicate ((119 - q) % 64) 0 ++ be64 (8 * l.length))) := by
    unfold pad
    rw [← List.append_assoc, List.take_append_drop, show l.length % 64 = q from by omega]
  unfold sha
  rw [pad_length, show 64 * ((l.length + 72) / 64) / 64 = n + (q + 72) / 64 from by omega, hp, absorb_add n _ _ _ _ (by simp; omega), absorb_take n _ _ (by omega)]
theorem sha_short (l : List UInt8) (n q : Nat) (h : l.length = 64 * n + q) (hq : q < 56) :
    sha l = (proc (absorb n H0 l) ((l.drop (64 * n) ++ 128 :: List.replicate (55 - q) 0) ++ be64 (8 * l.length))).bytes := by
  rw [sha_tail l n q h (by omega), show (q + 72) / 64 = 1 from by omega, show (119 - q) % 64 = 55 - q from by omega]
  show (proc _ (List.take 64 _)).bytes = _
  rw [List.take_of_length_le (by simp [be64_length]; omega)]
  simp
theorem sha_long (l : List UInt8) (n q : Nat) (h : l.length = 64 * n + q) (hq : q < 64) (h56 : 56 ≤ q) :
    sha l = (proc (proc (absorb n H0 l) (l.drop (64 * n) ++ 128 :: List.replicate (63 - q) 0)) (List.replicate 56 0 ++ be64 (8 * l.length))).bytes := by
  rw [sha_tail l n q h hq, show (q + 72) / 64 = 2 from by omega, show (119 - q) % 64 = (63 - q) + 56 from by omega]
  have e : l.drop (64 * n) ++ 128 :: (List.replicate (63 - q + 56) 0 ++ be64 (8 * l.length)) = (l.drop (64 * n) ++ 128 :: List.replicate (63 - q) 0) ++ (List.replicate 56 0 ++ be64 (8 * l.length)) := by
    rw [← List.replicate_append_replicate]; simp
  rw [e]
  have hl : (l.drop (64 * n) ++ 128 :: List.replicate (63 - q) 0).length = 64 := by simp; omega
  obtain ⟨P, hP⟩ : ∃ P, l.drop (64 * n) ++ 128 :: List.replicate (63 - q) 0 = P := ⟨_, rfl⟩
  rw [hP] at hl ⊢
  show (proc (proc _ (List.take 64 _)) (List.take 64 (List.drop 64 _))).bytes = _
  rw [List.take_left' hl, List.drop_left' hl, List.take_of_length_le (by simp [be64_length])]
/-- The last block, its length written behind its first 56 bytes. -/
theorem len_block (c : List UInt8) (hc : c.length = 64) (n : Nat) : splice (splice c 56 (be32 (BitVec.ofNat 32 (n / 4294967296)))) 60 (be32 (BitVec.ofNat 32 n)) = c.take 56 ++ be64 n := by
  have h4 : ∀ x, (be32 x).length = 4 := fun x => rfl
  obtain ⟨a, ha⟩ : ∃ a, be32 (BitVec.ofNat 32 (n / 4294967296)) = a := ⟨_, rfl⟩
  obtain ⟨b, hb⟩ : ∃ b, be32 (BitVec.ofNat 32 n) = b := ⟨_, rfl⟩
  unfold be64
  rw [ha, hb]
  have la : a.length = 4 := by rw [← ha]; rfl
  have lb : b.length = 4 := by rw [← hb]; rfl
  unfold splice
  have lp : (c.take 56).length = 56 := by simp; omega
  rw [lb, la, ← List.append_assoc (c.take 56) a, List.take_left' (l₁ := c.take 56 ++ a) (by simp; omega), List.drop_of_length_le (by simp; omega), List.append_nil, List.append_assoc]
theorem short_take (r : List UInt8) (q : Nat) (hr : r.length = q) (hq : q < 56) : (r ++ 128 :: List.replicate (63 - q) 0).take 56 = r ++ 128 :: List.replicate (55 - q) 0 := by
  rw [List.take_append, List.take_of_length_le (by omega), hr]
  obtain ⟨m, hm⟩ : ∃ m, 56 - q = m + 1 := ⟨55 - q, by omega⟩
  rw [hm, List.take_succ_cons, List.take_replicate, show min m (63 - q) = 55 - q from by omega]
end Dg
theorem infoB : (Tryd.prog.info? 5).map (·.size) = some 1 := by kernel_rfl
theorem bv_eq (l : List UInt8) : Lib.byteCells l = bv l := rfl
theorem run_copy_any {w : World} {g : Nat} {t : TypeId} {cur : List Value} (ty : TypeId) (hg : Blk w g t cur) (cap : Nat) (s : ByteArray) :
    (Builtin.copy_ #[51, 9] ty #[.slice (some ⟨g, 0, none⟩) cur.length cap, .string s]).run Tryd.prog w =
      .ok (goInt (Nat.min s.size cur.length)) (w.setRow g (bv (s.data.toList.take cur.length) ++ cur.drop (Nat.min s.size cur.length)).toArray) := by
  obtain ⟨m, hm⟩ : ∃ m, Nat.min s.size cur.length = m := ⟨_, rfl⟩
  have hsz := Lib.size_eq s
  have hm1 : m ≤ cur.length := by rw [← hm]; exact Nat.min_le_right _ _
  have hm2 : m ≤ s.size := by rw [← hm]; exact Nat.min_le_left _ _
  have htk : List.take m (List.map (fun b : UInt8 => Value.int IntKind.u8 (b.toNat : Int)) s.data.toList) = bv (s.data.toList.take cur.length) := by
    have h1 : s.data.toList.take cur.length = s.data.toList.take m := by
      rcases Nat.le_total s.size cur.length with h | h
      · rw [List.take_of_length_le (by omega), List.take_of_length_le]
        rw [← hsz, ← hm]; simp [Nat.min_eq_left h]
      · have : m = cur.length := by rw [← hm]; exact Nat.min_eq_right h
        rw [this]
    rw [h1, ← List.map_take]
    rfl
  have hlen : (bv (s.data.toList.take cur.length)).length = m := by rw [← htk]; simp; omega
  have hone : ∀ v ∈ bv (s.data.toList.take cur.length), v.oneCell' = true := fun v hv => by
    obtain ⟨b, _, rfl⟩ := List.mem_map.1 hv
    rfl
  have hst := run_storeCells_at Tryd.prog g 0 t (bv (s.data.toList.take cur.length)) 0 cur.toArray w hg (by rw [hlen]; simpa using hm1) hone
  rw [hlen] at hst
  simp only [Nat.add_zero, Nat.zero_add] at hst
  cases hq : Tryd.prog.info? 5 with
  | none => have := infoB; rw [hq] at this; cases this
  | some i =>

    rw [hm]
    simp [Builtin.copy_, run_underlying (P := Tryd.prog) Tryd.underlying51, Builtin.lenOf, Builtin.firstCells, sizeOf, typeInfo, hq, hm]
    rw [htk, hst]
    simp [Result.andThen]
theorem wpList_copy_str {w : World} {ops : Array Oper} {rest : List Oper} {o : Oper} {a : Act} {Q : Exit → Act → World → Prop} (hgd : o.guard = none) (d x : Operand)
    (ho : o.op = .call { callee := .builtin .copy, args := #[d, x], argTypes := #[51, 9] }) (g N cap : Nat) (s : ByteArray) (hd : a.eval d = .slice (some ⟨g, 0, none⟩) N cap) (hs : a.eval x = .string s)
    (t : TypeId) (c : List UInt8) (hg : Blk w g t (bv c)) (hN : c.length = N)
    (h : ∀ w', Hid (Blk w' g t (bv (s.data.toList.take N ++ c.drop s.size))) → Hid (Gr g w w') → wpList Tryd.prog ops Q rest (a.put o.dst (goInt (Nat.min s.size N))) w') : wpList Tryd.prog ops Q (o :: rest) a w := by
  subst hN
  refine wpList_plain hgd fun K hK => ?_
  have hrun := run_copy_any o.type hg cap s
  rw [bv_length] at hrun
  unfold Oper.wp
  simp [execOp, ho, resolve, invoke, builtin, hd, hs, hrun, Result.andThen]
  refine hK _ _ (h _ ?_ ?_)
  · have e : bv (s.data.toList.take c.length ++ c.drop s.size) = bv (s.data.toList.take c.length) ++ (bv c).drop (Nat.min s.size c.length) := by
      unfold bv
      rw [List.map_append, ← List.map_drop]
      congr 2
      rcases Nat.le_total s.size c.length with h | h
      · rw [show Nat.min s.size c.length = s.size from Nat.min_eq_left h]
      · rw [show Nat.min s.size c.length = c.length from Nat.min_eq_right h, List.drop_of_length_le h, List.drop_of_length_le (Nat.le_refl _)]
    show Blk _ _ _ _
    rw [e]
    exact hg.setRow _
  · exact Gr.setRow (Gr.refl g w) _
end Go.Proofs.YtdleaipcogomfaaDoor
