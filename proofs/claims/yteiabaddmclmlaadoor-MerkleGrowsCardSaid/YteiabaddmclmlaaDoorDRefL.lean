/-
  The reference's block: what its walks share.
-/
import Derived.Test.YteiabaddmclmlaaDoorDKeeps
import Derived.Test.YteiabaddmclmlaaDoorDSched
namespace Go.Proofs.YteiabaddmclmlaaDoor
open Go Go.RowKit Go.Shelf
theorem words_shift (m : List UInt8) (at_ k : Nat) : Dg.wordAt ((m.drop at_).take 64) k = if k < 16 then Dg.word (m.getD (at_ + 4 * k) 0) (m.getD (at_ + 4 * k + 1) 0) (m.getD (at_ + 4 * k + 2) 0) (m.getD (at_ + 4 * k + 3) 0) else Dg.wordAt ((m.drop at_).take 64) k := by
  by_cases hk : k < 16
  · rw [if_pos hk]
    have e : ∀ j, j < 64 → ((m.drop at_).take 64).getD j 0 = m.getD (at_ + j) 0 := fun j hj => by
      simp only [List.getD_eq_getElem?_getD]
      rw [List.getElem?_take_of_lt hj, List.getElem?_drop]
    unfold Dg.wordAt
    rw [e _ (by omega), e _ (by omega), e _ (by omega), e _ (by omega)]
    simp only [Nat.add_assoc]
  · rw [if_neg hk]
theorem v_xorR (x y : Dg.W32) : bits .xor .i64 (x.toNat : Int) (y.toNat : Int) = ((x ^^^ y).toNat : Int) := Dg.v_xor x y
theorem rword_quiet (v : Int) (n m : Nat) (hv : v = (n : Int)) (h : n < 9223372036854775808) (hm : n % 4294967296 = m) (d : Nat) (w : World) :
    Calls Tryd.prog 75 #[.int .i64 v] (w.drewN d) fun e w' => e = .returned (.int .i64 (m : Int)) ∧ ∃ k, w' = w.drewN k :=
  Calls.quiet_of_same (rword_int v n m hv h hm _)
theorem rturn_quietR (x : Dg.W32) (k : Int) (j : Nat) (hk : k = (j : Int)) (h1 : 1 ≤ j) (h2 : j ≤ 31) (R : Dg.W32) (hR : Dg.ror x j = R) (n : Nat) (w : World) :
    Calls Tryd.prog 74 #[.int .i64 x.toNat, .int .i64 k] (w.drewN n) fun e w' => e = .returned (.int .i64 (R.toNat : Int)) ∧ ∃ m, w' = w.drewN m := by
  subst hR hk
  exact Calls.quiet_of (rturn_any x j h1 h2 _)
theorem not_said (e : Dg.W32) : (4294967295 : Int) - (e.toNat : Int) = ((~~~ e).toNat : Int) := by
  have := e.isLt
  rw [BitVec.toNat_not]; omega
theorem row_newsI {w : World} {g : Nat} {l : List Dg.W32} (h : IR w g l) : ∀ (j : Nat) (u : Value), (iv l)[j]? = some u → w.cell? (Addr.add ⟨g, 0, none⟩ j) = some u := by
  intro j u hj
  have hl : j < l.length := by have := (List.getElem?_eq_some_iff.1 hj).1; simpa [iv] using this
  rw [add_plain0, h.cell j hl, ← hj, iv_at hl]
theorem addS_at (s X : Dg.St) (k : Nat) (hk : k < 8) : (Dg.addS s X).list.getD k 0 = s.list.getD k 0 + X.list.getD k 0 := by
  rcases k with _ | _ | _ | _ | _ | _ | _ | _ | k
  all_goals first | rfl | omega
theorem IOwn.base {w : World} {b b' : Nat} {v : Value} {l : List Dg.W32} (h : IOwn w b v l) (hb : b' ≤ b) : IOwn w b' v l := by
  refine ⟨h.1, ?_⟩
  rcases h.2 with hn | ⟨g, cap, cur, hv, hbg, rest⟩
  · exact .inl hn
  · exact .inr ⟨g, cap, cur, hv, Nat.le_trans hb hbg, rest⟩
def rloops : Code → List Code
  | .loop c => [c]
  | .seq a b => rloops a ++ rloops b
  | .block _ c => rloops c
  | .scope c => rloops c
  | .cond _ a b => rloops a ++ rloops b
  | _ => []
/-- The third loop's body. -/
noncomputable def rbody3 : Code := (Tryd.f55.body.bind fun c => (rloops c)[2]?).getD .skip
/-- Where the third loop ends. -/
def RX (F : (Nat → Value) → Nat → Nat → Array Value) (s : Dg.St) (blk : List UInt8) (w6 : World) (a' : Act) (w'' : World) : Prop :=
  ∃ gl cl, a' = ⟨F (fun n => a'.tmps.getD n undef) gl cl, []⟩ ∧ IR w'' gl (Dg.rnds (Dg.W blk) s 64).list ∧ Below w6.heap.size w6 w''
end Go.Proofs.YteiabaddmclmlaaDoor
