/-
  DigestKeys's law.
-/
import Derived.Test.YtdleaipcogomfaaDoorDHexT
import Derived.Maps.AppendAt
namespace Go.Proofs.YtdleaipcogomfaaDoor
open Go Go.RowKit Go.Shelf
namespace Dg
theorem keyOf_short {k : List UInt8} (h : k.length ≤ 64) : keyOf k = k := by unfold keyOf; rw [if_neg (by omega)]
theorem mac_zero {k : List UInt8} (s : List UInt8) (h : k.length < 64) : mac (k ++ [0]) s = mac k s := by
  have e : kp (k ++ [0]) = kp k := by
    unfold kp
    rw [List.length_append, List.length_singleton, List.append_assoc]
    obtain ⟨m, hm⟩ : ∃ m, 64 - k.length = m + 1 := ⟨63 - k.length, by omega⟩
    rw [hm, show 64 - (k.length + 1) = m from by omega]
    rfl
  unfold mac
  rw [keyOf_short (k := k) (by omega), keyOf_short (k := k ++ [0]) (by rw [List.length_append, List.length_singleton]; omega)]
  unfold mac1
  rw [e]
theorem mac_sha {k : List UInt8} (s : List UInt8) (h : 64 < k.length) : mac (sha k) s = mac k s := by
  unfold mac
  rw [keyOf_short (by rw [sha_length]; omega)]
  unfold keyOf
  rw [if_pos h]
/-- The first n bytes of the key and the zeros behind it, masked. -/
def mk (b : UInt8) (k : List UInt8) (n : Nat) : List UInt8 := (List.range n).map fun i => k.getD i 0 ^^^ b
theorem mk_length (b : UInt8) (k : List UInt8) (n : Nat) : (mk b k n).length = n := by simp [mk]
theorem mk_next (b : UInt8) (k : List UInt8) (n : Nat) : mk b k (n + 1) = mk b k n ++ [k.getD n 0 ^^^ b] := by
  unfold mk
  rw [List.range_succ, List.map_append]
  rfl
theorem mk_all (b : UInt8) (k : List UInt8) (h : k.length ≤ 64) : mk b k 64 = xorB b (kp k) := by
  apply List.ext_getElem?
  intro i
  unfold mk xorB kp
  rw [List.getElem?_map, List.getElem?_map]
  by_cases hi : i < 64
  · rw [List.getElem?_range hi]
    by_cases hk : i < k.length
    · rw [List.getElem?_append_left hk]
      simp [hk]
    · rw [List.getElem?_append_right (by omega), List.getElem?_replicate, if_pos (by omega)]
      simp [show k.length ≤ i from by omega]
  · rw [List.getElem?_eq_none (by simp; omega), List.getElem?_eq_none (by simp; omega)]
    rfl
theorem mac_mk {k : List UInt8} (s : List UInt8) (h : k.length ≤ 64) : sha (mk 92 k 64 ++ sha (mk 54 k 64 ++ s)) = mac k s := by
  rw [mk_all _ _ h, mk_all _ _ h]
  unfold mac
  rw [keyOf_short h]
  rfl
end Dg
def Apart (a b : Value) : Prop := ∀ g, a.ownBlock = some g → b.ownBlock ≠ some g
theorem Apart.symm {a b : Value} (h : Apart a b) : Apart b a := fun g h1 h2 => h g h2 h1
theorem Apart.ne {a b : Value} (h : Apart a b) : b.ownBlock = none ∨ b.ownBlock ≠ a.ownBlock := by
  cases hb : b.ownBlock with
  | none => exact .inl rfl
  | some g => exact .inr (fun e => h g e.symm hb)
theorem Apart.next {a a' b : Value} {H : Nat} (h : Apart a b) (hat : a'.ownBlock = a.ownBlock ∨ a'.ownBlock = some H) (hlt : ∀ g, b.ownBlock = some g → g < H) : Apart a' b := by
  intro g h1 h2
  rcases hat with e | e
  · exact h g (e ▸ h1) h2
  · rw [e] at h1
    injection h1 with h1
    have := hlt g h2
    omega
theorem wpList_append_bytes_at {w : World} {ops : Array Oper} {o : Oper} {a : Act} {Q : Exit → Act → World → Prop} {rest : List Oper} (hgd : o.guard = none) (s x : Operand) (ho : o.op = .call { callee := .builtin .append, args := #[s, x], argTypes := #[51, 51] })
    (base : Nat) (v : Value) (L : List UInt8) (hs : a.eval s = v) (hown : BytesOf w base v L) (ad : Addr) (m c : Nat) (news : List UInt8) (hx : a.eval x = .slice (some ad) m c) (hl : news.length = m)
    (hnews : ∀ j u, (bv news)[j]? = some u → w.cell? (ad.add j) = some u) (hbig : L.length + m ≤ 1000000000) (hbase : base ≤ w.heap.size)
    (h : ∀ v' w', BytesOf w' base v' (L ++ news) → w.grownBy w' v.ownBlock → (v'.ownBlock = v.ownBlock ∨ v'.ownBlock = some w.heap.size) → wpList Tryd.prog ops Q rest (a.put o.dst v') w') : wpList Tryd.prog ops Q (o :: rest) a w := by
  obtain ⟨i0, hi, hz0, hz1, hz2⟩ := info_parts infoU
  refine wpList_append_own_at w hgd s x 51 ho base 5 i0 (.int .u8 0) 1 1 Tryd.underlying51 hi hz0 hz1 hz2 rfl (by omega) v L.length (bv L) hs hown ad m c (bv news) hx (by rw [bv_length, hl]; omega) hnews (bv_cells _) (by unfold maxLen; omega) (by omega) hbase fun v' w' h2 h3 _ h5 => h v' w' ?_ h3 h5
  have e1 : (L ++ news).length = L.length + m := by rw [List.length_append, hl]
  have e2 : bv (L ++ news) = bv L ++ bv news := by simp [bv]
  unfold BytesOf
  rw [e1, e2]
  exact h2
theorem BytesOf.below {w w' : World} {base : Nat} {v : Value} {l : List UInt8} (h : BytesOf w base v l) (hb : Below w.heap.size w w') : BytesOf w' base v l :=
  World.ownsRow.kept (row := none) h ⟨hb.os, hb.tape, hb.output, hb.size, fun i hi _ => hb.block i hi⟩ (by cases v.ownBlock with | none => exact .inl rfl | some k => exact .inr (by simp))
theorem BytesOf.kept {w w' : World} {base : Nat} {v u : Value} {l : List UInt8} (h : BytesOf w base v l) (hg : w.grownBy w' u.ownBlock) (ha : Apart u v) : BytesOf w' base v l := World.ownsRow.kept h hg ha.ne
theorem BytesOf.ltBlock {w : World} {base : Nat} {v : Value} {l : List UInt8} (h : BytesOf w base v l) (g : Nat) (hg : v.ownBlock = some g) : g < w.heap.size := (World.ownsRow.lt h g hg).2
theorem mac_to (k s : ByteArray) (hk : k.size ≤ 10000000) (hs : s.size ≤ 10000000) (X : ByteArray) (hX : Dg.mac k.data.toList s.data.toList = X.data.toList) (w : World) (hE : Env w) :
    Calls Tryd.prog 48 #[.string k, .string s] w fun e w' => e = .returned (.string X) ∧ Below w.heap.size w w' :=
  (mac_any k s hk hs w hE).mono fun e w' ⟨h1, h2⟩ => ⟨by rw [h1, hX, str_back], h2⟩
theorem sum_to (s : ByteArray) (hs : s.size ≤ 100000000) (X : ByteArray) (hX : Dg.sha s.data.toList = X.data.toList) (w : World) (hE : Env w) :
    Calls Tryd.prog 39 #[.string s] w fun e w' => e = .returned (.string X) ∧ Below w.heap.size w w' :=
  (sum_any s hs w hE).mono fun e w' ⟨h1, h2⟩ => ⟨by rw [h1, hX, str_back], h2⟩
end Go.Proofs.YtdleaipcogomfaaDoor
