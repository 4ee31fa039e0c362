/-
  slices.Chunk over a row of bytes: the iterator's contract.
-/
import Derived.Test.YtdkocjdhekomoaaGreatDoorCLeaf
import Derived.Test.YtdkocjdhekomoaaGreatDoorCChunkP
import Derived.RangeFuncKeeps
import Derived.RangeFuncNested
namespace Go.Proofs.YtdkocjdhekomoaaGreatDoor
open Go Go.RowKit Go.Shelf
attribute [local go_sem] Oper.semAt_some

/-- A piece of a row: where it begins, how long it is. -/
abbrev Piece (lo hi n : Nat) := { x : Nat × Nat // lo ≤ x.1 ∧ x.1 + x.2 ≤ hi ∧ 0 < x.2 ∧ x.2 ≤ n }
/-- The blocks in which the iterator's variables lie are left alone. -/
def KpC (p q : Nat) (W W' : World) : Prop := ∀ (k : Nat) (c : Array Value) (T : TypeId) (fz : Nat × Nat), (k = p ∨ k = q) → W.heap[k]? = some (.cells c T fz) → W'.heap[k]? = some (.cells c T fz)
theorem KpC.trans {p q : Nat} {A B C : World} (h1 : KpC p q A B) (h2 : KpC p q B C) : KpC p q A C := fun k c T fz hk h => h2 k c T fz hk (h1 k c T fz hk h)
theorem KpC.putObj {p q : Nat} (W : World) (l : Nat) (o o' : Obj) (hl : W.heap[l]? = some o) (ho : o.isCells = false) : KpC p q W (W.putObj l o') := by
  intro k c T fz _ h
  by_cases e : k = l
  · subst e; rw [hl] at h; cases h; cases ho
  · rw [World.putObj_heap_other e]; exact h
theorem KpC.below {p q B : Nat} {W W' : World} (h : Below B W W') (hp : p < B) (hq : q < B) : KpC p q W W' := by
  rintro k c T fz (rfl | rfl) hk
  · exact (h.block _ hp).trans hk
  · exact (h.block _ hq).trans hk
def pieceV (b : Nat) (x : Nat × Nat) : Value := .slice (some ⟨b, x.1, none⟩) x.2 x.2

set_option maxRecDepth 100000 in
set_option maxHeartbeats 2000000 in
theorem chunk1_in (md : Nat) (_hmd : 1 ≤ md) (b off len cap n : Nat) (hn : 0 < n) (hn2 : n ≤ 1000) (_hlen : len ≤ 1000000) (hcap : len ≤ cap) (hoff : off + len ≤ 100000000) (l Bs Bn B : Nat) (_hne : Bs ≠ Bn)
    (J Jx : List (Piece off (off + len) n) → World → Prop) (hJ : AbidesFrom B J)
    (hY : ∀ pre x W, J pre W → pre.length < Cd.cnt n len → YieldAt Fence.wide md Tryz.prog l #[pieceV b x.1] W fun e W' =>
      (e = .returned (.bool true) ∧ J (pre ++ [x]) W' ∧ KpC Bs Bn W W') ∨ (e = .returned (.bool false) ∧ Jx (pre ++ [x]) W'))
    (W : World) (hBs : W.heap[Bs]? = some (.cells #[.slice (some ⟨b, off, none⟩) len cap] 32 (0, 0))) (hBn : W.heap[Bn]? = some (.cells #[.int .i64 n] 3 (0, 0))) (h0 : J [] W) :
    CallsIn Fence.wide (md + 1) Tryz.prog 119 #[.func (.yield l) #[] #[], .pointer (some ⟨Bs, 0, none⟩), .pointer (some ⟨Bn, 0, none⟩)] W fun e W' => (∃ v, e = .returned v) ∧
      ((∃ ys : List (Piece off (off + len) n), ys.map (fun x => (x.1.1 - off, x.1.2)) = Cd.parts n len ∧ J ys W') ∨ (∃ pre, True ∧ Jx pre W')) := by
  refine callsIn_of_wp Tryz.func119 rfl trivial ?_ rfl
  simp only [Tryz.ntmps119, List.size_toArray, List.length_cons, List.length_nil, Nat.reduceAdd, Nat.reduceSub, Array.replicate_succ, Array.replicate_zero, List.push_toArray, List.append_toArray, List.nil_append, List.cons_append]
  gi_wp2
  gi_loopw [4] (fun i wr => ∃ (pre : List (Piece off (off + len) n)) (k o : Nat), i = .int .i64 o ∧ Hid (o = k * n) ∧ Hid (pre.map (fun x => (x.1.1 - off, x.1.2)) = (List.range k).map fun k => (k * n, min n (len - k * n))) ∧ pre.length = k ∧ Hid (∀ j, j < k → j * n < len) ∧ o ≤ len + n ∧ J pre wr ∧
    wr.heap[Bs]? = some (.cells #[.slice (some ⟨b, off, none⟩) len cap] 32 (0, 0)) ∧ wr.heap[Bn]? = some (.cells #[.int .i64 n] 3 (0, 0))) (fun i _ => len + n - (intOf i).toNat)
  case atStart => exact ⟨[], 0, 0, rfl, (by rw [Nat.zero_mul] : _ = _), rfl, rfl, (by intro j hj; omega), Nat.zero_le _, h0, hBs, hBn⟩
  case round =>
    obtain ⟨pre, k, o, rfl, ho, hpre, hpk, hmin, hol, hJs, hs1, hn1⟩ := hrel
    have hc1 : wr.cell? ⟨Bs, 0, none⟩ = some (.slice (some ⟨b, off, none⟩) len cap) := by simp [World.cell?, hs1]
    have hc2 : wr.cell? ⟨Bn, 0, none⟩ = some (.int .i64 n) := by simp [World.cell?, hn1]
    by_cases hlt : o < len
    · have hk : pre.length < Cd.cnt n len := by rw [hpk]; exact (Cd.lt_cnt hn).2 (by rw [← ho.out]; exact hlt)
      have hco : ¬ cap = o := by omega
      obtain ⟨m, hm⟩ : ∃ m, min n (len - o) = m := ⟨_, rfl⟩
      have hm1 : m ≤ n := by omega
      have hm2 : m ≤ len - o := by omega
      have hm3 : 0 < m := by omega
      have hmm : min (n : Int) ((len - o : Nat) : Int) = (m : Int) := by omega
      obtain ⟨x, hx⟩ : ∃ x : Piece off (off + len) n, x.1 = (off + o, m) := ⟨⟨(off + o, m), by show off ≤ off + o; omega, by show off + o + m ≤ _; omega, hm3, hm1⟩, rfl⟩
      have HP : Hid ((pre ++ [x]).map (fun x => (x.1.1 - off, x.1.2)) = (List.range (k + 1)).map fun k => (k * n, min n (len - k * n))) := by
        show _ = _
        rw [List.map_append, hpre.out, Cd.range_snoc, List.map_append]
        congr 1
        simp only [List.map_cons, List.map_nil]
        rw [hx, ← ho.out, ← hm, Nat.add_sub_cancel_left]
      have HM : Hid (∀ j, j < k + 1 → j * n < len) := by
        intro j hj
        by_cases e : j < k
        · exact hmin.out j e
        · have : j = k := by omega
          rw [this, ← ho.out]; exact hlt
      have HO : Hid (o + n = (k + 1) * n) := by show _ = _; rw [Nat.add_mul, Nat.one_mul, ← ho.out]
      have HY := Lib.hid (fun W1 h => hY pre x W1 h hk)
      rw [hx] at HY
      have HPK : Hid (pre.length = k) := hpk
      clear hm ho hpre hmin hk hpk hx
      gi_wp2_with fail
      gi_region
      all_goals
        obtain ⟨fn, tmps, assign, body, hy, hR⟩ := HY.out wr.drew (abides_below hJ hJs (below_drews (Below.refl _ _) 1))
        simp only [pieceV] at hy
        gi_wp2
        refine hR.mono ?_
        rintro e W3 (⟨rfl, hJ3, hk3⟩ | ⟨rfl, hJx3⟩)
        · have hs3 := hk3 Bs _ _ _ (.inl rfl) hs1
          have hn3 := hk3 Bn _ _ _ (.inr rfl) hn1
          have hc3 : W3.cell? ⟨Bn, 0, none⟩ = some (.int .i64 n) := by simp [World.cell?, hn3]
          clear hy hR hk3
          gi_wp2
          go_roundw
          case rel => exact ⟨pre ++ [x], k + 1, o + n, by go_num, HO.out, HP.out, by rw [List.length_append, HPK.out]; rfl, HM.out, by omega, hJ3, hs3, hn3⟩
          case measure => simp [intOf]; omega
        · clear hy hR
          gi_wp2
          refine bodyPost_ret (results_none rfl _ _ _) rfl ?_
          exact ⟨⟨_, rfl⟩, .inr ⟨pre ++ [x], trivial, hJx3⟩⟩
    · gi_wp2
      go_end0
      refine ⟨⟨_, rfl⟩, .inl ⟨pre, ?_, hJs⟩⟩
      rw [hpre.out, Cd.parts_eq]
      congr 2
      exact Cd.cnt_at hn (by rw [← ho.out]; omega) hmin.out
end Go.Proofs.YtdkocjdhekomoaaGreatDoor
