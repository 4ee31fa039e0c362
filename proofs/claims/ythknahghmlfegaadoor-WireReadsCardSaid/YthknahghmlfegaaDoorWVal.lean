/-
  Values to write: how they lie in memory; the plain bounds that the law asks.
-/
import Derived.Test.YthknahghmlfegaaDoorWSmall
import Derived.IntWalk
namespace Go.Proofs.YthknahghmlfegaaDoor
open Go Go.RowKit Go.Shelf

namespace Wr
/-- A value to write. -/
structure Vl where
  K : Int
  N : Int
  S : List UInt8
  L : List Int
  T : List (List UInt8)
structure Fit (x : Vl) : Prop where
  K : i64 x.K
  N : i64 x.N
  S : x.S.length ≤ 9223372036854775807
  L : x.L.length ≤ 9223372036854775807
  T : x.T.length ≤ 9223372036854775807
  ints : ∀ y ∈ x.L, i64 y
  texts : ∀ y ∈ x.T, y.length ≤ 9223372036854775807
def sumT (l : List (List UInt8)) : Nat := (l.map List.length).sum
def weight (x : Vl) : Nat := x.S.length + x.L.length + x.T.length + sumT x.T
/-- A value whose parts are short. -/
def lowV (x : Vl) : Bool := (decide (x.L.length ≤ 400) && (decide (x.T.length ≤ 400) && decide (x.S.length ≤ 400))) && x.T.all (fun t => decide (t.length ≤ 400))
def weights (l : List Vl) : Nat := (l.map weight).sum
def fewB (l : List Vl) : Bool := decide (l.length ≤ 20) && (l.all lowV && decide (weights l ≤ 400))
theorem sumT_snoc (l : List (List UInt8)) (x : List UInt8) : sumT (l ++ [x]) = sumT l + x.length := by simp [sumT]
theorem weights_snoc (l : List Vl) (x : Vl) : weights (l ++ [x]) = weights l + weight x := by simp [weights]
theorem sumT_le : ∀ (l : List (List UInt8)), (∀ x ∈ l, x.length ≤ 400) → sumT l ≤ l.length * 400
  | [], _ => by simp [sumT]
  | x :: r, h => by
    have h1 := sumT_le r (fun y hy => h y (by simp [hy]))
    have h2 := h x (by simp)
    simp only [sumT, List.map_cons, List.sum_cons, List.length_cons] at h1 ⊢
    omega
theorem lowV_parts {x : Vl} (h : lowV x = true) : x.L.length ≤ 400 ∧ x.T.length ≤ 400 ∧ x.S.length ≤ 400 ∧ ∀ t ∈ x.T, t.length ≤ 400 := by
  unfold lowV at h
  simp only [Bool.and_eq_true, decide_eq_true_eq, List.all_eq_true] at h
  exact ⟨h.1.1, h.1.2.1, h.1.2.2, h.2⟩
theorem weight_le {x : Vl} (h : lowV x = true) : weight x ≤ 161200 := by
  obtain ⟨h1, h2, h3, h4⟩ := lowV_parts h
  have := sumT_le x.T h4
  unfold weight
  omega
theorem weights_le : ∀ (l : List Vl), (∀ x ∈ l, lowV x = true) → weights l ≤ l.length * 161200
  | [], _ => by simp [weights]
  | x :: r, h => by
    have h1 := weights_le r (fun y hy => h y (by simp [hy]))
    have h2 := weight_le (h x (by simp))
    simp only [weights, List.map_cons, List.sum_cons, List.length_cons] at h1 ⊢
    omega
end Wr

/-- The five cells of a value. -/
structure FV (W : World) (x : Wr.Vl) (xa ya : Option Addr) (b off b' off' : Nat) : Prop where
  fit : Wr.Fit x
  L : RowV W xa b off (x.L.map (Value.int .i64))
  T : RowV W ya b' off' (x.T.map encStr)
theorem FV.below {W W' : World} {x : Wr.Vl} {xa ya : Option Addr} {b off b' off' : Nat} (h : FV W x xa ya b off b' off') (hb : Below W.heap.size W W') : FV W' x xa ya b off b' off' :=
  ⟨h.fit, h.L.below hb, h.T.below hb⟩
/-- A row of values. -/
structure RowVl (W : World) (a : Option Addr) (b off : Nat) (X : List Wr.Vl) : Prop where
  at_ : 0 < X.length → a = some ⟨b, off, none⟩
  lt : 0 < X.length → b < W.heap.size
  el : ∀ (j : Nat) (x : Wr.Vl), X[j]? = some x → ∃ xa ya b1 o1 c1 b2 o2 c2, FV W x xa ya b1 o1 b2 o2 ∧
    W.cell? ⟨b, off + j * 5, none⟩ = some (.int .i64 x.K) ∧ W.cell? ⟨b, off + j * 5 + 1, none⟩ = some (.int .i64 x.N) ∧ W.cell? ⟨b, off + j * 5 + 2, none⟩ = some (encStr x.S) ∧
    W.cell? ⟨b, off + j * 5 + 3, none⟩ = some (.slice xa x.L.length c1) ∧ W.cell? ⟨b, off + j * 5 + 4, none⟩ = some (.slice ya x.T.length c2)
theorem RowVl.below {W W' : World} {a : Option Addr} {b off : Nat} {X : List Wr.Vl} (h : RowVl W a b off X) (hb : Below W.heap.size W W') : RowVl W' a b off X :=
  ⟨h.at_, fun hp => Nat.lt_of_lt_of_le (h.lt hp) hb.size, fun j x hj => by
    have hp : 0 < X.length := by have := (List.getElem?_eq_some_iff.1 hj).1; omega
    have hl := h.lt hp
    obtain ⟨xa, ya, b1, o1, c1, b2, o2, c2, hf, k0, k1, k2, k3, k4⟩ := h.el j x hj
    exact ⟨xa, ya, b1, o1, c1, b2, o2, c2, hf.below hb, (hb.cell (p := ⟨b, off + j * 5, none⟩) hl).trans k0, (hb.cell (p := ⟨b, off + j * 5 + 1, none⟩) hl).trans k1, (hb.cell (p := ⟨b, off + j * 5 + 2, none⟩) hl).trans k2,
      (hb.cell (p := ⟨b, off + j * 5 + 3, none⟩) hl).trans k3, (hb.cell (p := ⟨b, off + j * 5 + 4, none⟩) hl).trans k4⟩⟩
/-- A block of one value, as the call itself makes it. -/
theorem rowVl_one {W w : World} {x : Wr.Vl} {xa ya : Option Addr} {b off b' off' : Nat} (c c' : Nat) (h : FV W x xa ya b off b' off') (hb : Below W.heap.size W w) :
    RowVl (w.alloc (.cells #[.int .i64 x.K, .int .i64 x.N, encStr x.S, .slice xa x.L.length c, .slice ya x.T.length c'] 25)) (some ⟨w.heap.size, 0, none⟩) w.heap.size 0 [x] := by
  refine ⟨fun _ => rfl, fun _ => by simp, fun j y hj => ?_⟩
  have hj0 : j = 0 := by
    cases j with
    | zero => rfl
    | succ m => simp at hj
  subst hj0
  simp at hj
  subst hj
  exact ⟨xa, ya, b, off, c, b', off', c', (h.below hb).below ((Below.refl _ _).alloc (Nat.le_refl _) _), by simp, by simp, by simp, by simp, by simp⟩

theorem drews_more {w wr : World} (h : ∃ n, wr = w.drewN n) (k : Nat) : ∃ n, wr.drewN k = w.drewN n := by
  obtain ⟨n, rfl⟩ := h
  exact ⟨n + k, World.drewN_drewN _ _ _⟩

set_option maxHeartbeats 4000000 in
set_option maxRecDepth 100000 in
theorem few_many (a : Option Addr) (c : Nat) (X : List Wr.Vl) (W : World) (hl : 20 < X.length) (hm : X.length ≤ 9223372036854775807) :
    Calls Tryd.prog 10 #[.slice a X.length c] W fun e w' => e = .returned (.bool (Wr.fewB X)) ∧ ∃ n, w' = W.drewN n := by
  have hf : Wr.fewB X = false := by unfold Wr.fewB; rw [decide_eq_false (by omega), Bool.false_and]
  rw [hf]
  clear hf
  go_enter Tryd.func10, Tryd.ntmps10
  go_wp2
  go_ret
  exact ⟨rfl, 0, rfl⟩

set_option maxHeartbeats 4000000 in
set_option maxRecDepth 100000 in
theorem few_walk (a : Option Addr) (b off c : Nat) (X : List Wr.Vl) (W : World) (hX : RowVl W a b off X) (hl : X.length ≤ 20) :
    Calls Tryd.prog 10 #[.slice a X.length c] W fun e w' => e = .returned (.bool (Wr.fewB X)) ∧ ∃ n, w' = W.drewN n := by
  have HX := Lib.hid hX
  clear hX
  go_enter Tryd.func10, Tryd.ntmps10
  go_wp2
  go_loopw [3, 4] (fun n i wr => ∃ k : Nat, i = .int .i64 k ∧ k ≤ X.length ∧ n = .int .i64 (Wr.weights (X.take k)) ∧ Hid (∀ x ∈ X.take k, Wr.lowV x = true) ∧ Hid (∃ n, wr = W.drewN n)) (fun _ i _ => X.length - (intOf i).toNat)
  case atStart => exact ⟨0, rfl, Nat.zero_le _, rfl, (show ∀ x ∈ X.take 0, _ from fun x hx => by simp at hx), ⟨0, rfl⟩⟩
  case round =>
    obtain ⟨k, rfl, hk, rfl, hlow, hw⟩ := hrel
    by_cases hlt : k < X.length
    · obtain rfl := HX.out.at_ (by omega)
      obtain ⟨x, hx⟩ : ∃ x, X[k]? = some x := ⟨_, List.getElem?_eq_getElem hlt⟩
      obtain ⟨xa, ya, b1, o1, c1, b2, o2, c2, hf, k0, k1, k2, k3, k4⟩ := HX.out.el k x hx
      have hwk := Wr.weights_le (X.take k) hlow.out
      have htl : (X.take k).length ≤ 20 := by rw [List.length_take]; omega
      have hwk2 : Wr.weights (X.take k) ≤ 3224000 := by omega
      have k2' : wr.cell? ⟨b, off + k * 5 + 2, none⟩ = some (encStr x.S) := by obtain ⟨n, rfl⟩ := hw.out; exact k2
      have k3' : wr.cell? ⟨b, off + k * 5 + 3, none⟩ = some (.slice xa x.L.length c1) := by obtain ⟨n, rfl⟩ := hw.out; exact k3
      have k4' : wr.cell? ⟨b, off + k * 5 + 4, none⟩ = some (.slice ya x.T.length c2) := by obtain ⟨n, rfl⟩ := hw.out; exact k4
      obtain ⟨y, hy⟩ : ∃ y : ByteArray, encStr x.S = .string y := ⟨_, rfl⟩
      have hys : y.size = x.S.length := by
        have : (⟨x.S.toArray⟩ : ByteArray) = y := by injection hy
        rw [← this, Wr.bs_len]
      rw [hy] at k2'
      have hmS := hf.fit.S
      have hmL := hf.fit.L
      have hmT := hf.fit.T
      rw [← hys] at hmS
      have HF := Lib.hid hf
      have HXx := Lib.hid hx
      have HYS := Lib.hid hys
      have hno : Wr.lowV x = false → Wr.fewB X = false := fun hv => by
        have hmem : x ∈ X := List.mem_of_getElem? hx
        have : X.all Wr.lowV = false := by rw [List.all_eq_false]; exact ⟨x, hmem, by rw [hv]; simp⟩
        unfold Wr.fewB; rw [this]; simp
      have HNO := Lib.hid hno
      have HLow := hlow
      have K4 := Lib.hid k4
      clear hx hf hy hno hwk htl k0 k1 k2 k3 k4 hlow
      by_cases hL : x.L.length ≤ 400
      · by_cases hT : x.T.length ≤ 400
        · by_cases hS : y.size ≤ 400
          · have e1 : IntKind.i64.wrap ((Wr.weights (X.take k) : Int) + (y.size : Int)) = (Wr.weights (X.take k) : Int) + (y.size : Int) := IntWalk.i64_in _ (by omega)
            have e2 : IntKind.i64.wrap ((Wr.weights (X.take k) : Int) + (y.size : Int) + (x.L.length : Int)) = (Wr.weights (X.take k) : Int) + (y.size : Int) + (x.L.length : Int) := IntWalk.i64_in _ (by omega)
            have e3 : IntKind.i64.wrap ((Wr.weights (X.take k) : Int) + (y.size : Int) + (x.L.length : Int) + (x.T.length : Int)) = (Wr.weights (X.take k) : Int) + (y.size : Int) + (x.L.length : Int) + (x.T.length : Int) := IntWalk.i64_in _ (by omega)
            clear hys
            go_wp2
            go_quiet (fail)
            clear e1 e2 e3
            go_wp2
            have hw2 : Hid (∃ n, (wr.drewN nq) = W.drewN n) := drews_more hw.out _
            clear k2' k3' k4' hw
            obtain ⟨wo, hwo⟩ : ∃ wo : World, wr.drewN nq = wo := ⟨_, rfl⟩
            rw [hwo] at hw2
            rw [hwo]
            clear hwo
            go_loopw [3, 5] (fun n i wr => ∃ q : Nat, i = .int .i64 q ∧ q ≤ x.T.length ∧ n = .int .i64 ((Wr.weights (X.take k) : Int) + (y.size : Int) + (x.L.length : Int) + (x.T.length : Int) + (Wr.sumT (x.T.take q) : Int)) ∧ Hid (∀ t ∈ x.T.take q, t.length ≤ 400) ∧ Hid (∃ n, wr = W.drewN n)) (fun _ i _ => x.T.length - (intOf i).toNat)
            case atStart => exact ⟨0, rfl, Nat.zero_le _, by simp [Wr.sumT], (show ∀ t ∈ x.T.take 0, _ from fun t ht => by simp at ht), hw2⟩
            case round =>
              obtain ⟨q, rfl, hq, rfl, hsm, hw⟩ := hrel
              have k4' : wr.cell? ⟨b, off + k * 5 + 4, none⟩ = some (.slice ya x.T.length c2) := by obtain ⟨n, rfl⟩ := hw.out; exact K4.out
              have hst := Wr.sumT_le (x.T.take q) hsm.out
              have hsl : (x.T.take q).length ≤ 400 := by rw [List.length_take]; omega
              have hst2 : Wr.sumT (x.T.take q) ≤ 160000 := by omega
              clear hst hsl
              by_cases hql : q < x.T.length
              · obtain rfl := HF.out.T.at_ (by rw [List.length_map]; omega)
                obtain ⟨z, hz⟩ : ∃ z : ByteArray, encStr x.T[q] = .string z := ⟨_, rfl⟩
                have hzs : z.size = x.T[q].length := by
                  have : (⟨x.T[q].toArray⟩ : ByteArray) = z := by injection hz
                  rw [← this, Wr.bs_len]
                have hzm : z.size ≤ 9223372036854775807 := by rw [hzs]; exact HF.out.fit.texts _ (List.getElem_mem hql)
                have kz : wr.cell? ⟨b2, o2 + q, none⟩ = some (.string z) := by
                  rw [← hz]
                  obtain ⟨n, rfl⟩ := hw.out
                  exact HF.out.T.cell q _ (by rw [List.getElem?_map, List.getElem?_eq_getElem hql]; rfl)
                have HZ := Lib.hid hzs
                clear hz hzs
                by_cases hzl : z.size ≤ 400
                · have hnext : Hid (Wr.sumT (x.T.take (q + 1)) = Wr.sumT (x.T.take q) + z.size) := by
                    show _ = _
                    rw [List.take_succ_eq_append_getElem hql, Wr.sumT_snoc, HZ.out]
                  have hsm2 : Hid (∀ t ∈ x.T.take (q + 1), t.length ≤ 400) := by
                    show ∀ t ∈ _, _
                    intro t ht
                    rw [List.take_succ_eq_append_getElem hql] at ht
                    rcases List.mem_append.1 ht with ht | ht
                    · exact hsm.out t ht
                    · rw [List.mem_singleton.1 ht, ← HZ.out]; exact hzl
                  go_wp2
                  go_roundw
                  case rel => exact ⟨q + 1, by go_num, by omega, by rw [hnext.out]; go_num, hsm2, hw⟩
                  case measure => simp [intOf]; omega
                · have hv : Wr.fewB X = false := HNO.out (by
                    have : x.T.all (fun t => decide (t.length ≤ 400)) = false := by
                      rw [List.all_eq_false]
                      exact ⟨x.T[q], List.getElem_mem hql, by rw [← HZ.out]; simpa using hzl⟩
                    unfold Wr.lowV; rw [this]; simp)
                  go_wp2
                  go_ret
                  exact ⟨ret_bool hv.symm, hw.out⟩
              · obtain rfl : q = x.T.length := by omega
                have hlow2 : Hid (∀ v ∈ X.take (k + 1), Wr.lowV v = true) := by
                  show ∀ v ∈ _, _
                  have hx := HXx.out
                  intro v hv
                  rw [List.take_add_one, hx] at hv
                  rcases List.mem_append.1 hv with hv | hv
                  · exact HLow.out v hv
                  · have e : v = x := by simpa using hv
                    rw [e]
                    have h1 := hsm.out
                    rw [List.take_length] at h1
                    unfold Wr.lowV
                    rw [← HYS.out, decide_eq_true hL, decide_eq_true hT, decide_eq_true hS, List.all_eq_true.2 (fun t ht => decide_eq_true (h1 t ht))]; rfl
                have hwt : Hid ((Wr.weights (X.take (k + 1)) : Int) = (Wr.weights (X.take k) : Int) + (y.size : Int) + (x.L.length : Int) + (x.T.length : Int) + (Wr.sumT x.T : Int)) := by
                  show _ = _
                  have hx := HXx.out
                  rw [List.take_add_one, hx]
                  show ((Wr.weights (X.take k ++ [x]) : Nat) : Int) = _
                  rw [Wr.weights_snoc, Wr.weight, ← HYS.out]
                  omega
                go_wp2
                go_roundw
                case rel => exact ⟨k + 1, by go_num, by omega, by rw [hwt.out]; rw [List.take_length], hlow2, hw⟩
                case measure => simp [intOf]; omega
          · have hv : Wr.fewB X = false := HNO.out (by unfold Wr.lowV; rw [← HYS.out, decide_eq_false (p := y.size ≤ 400) hS]; simp)
            clear hys
            go_wp2
            go_ret
            exact ⟨ret_bool hv.symm, hw.out⟩
        · have hv : Wr.fewB X = false := HNO.out (by unfold Wr.lowV; rw [decide_eq_false (p := x.T.length ≤ 400) hT]; simp)
          clear hys
          go_wp2
          go_ret
          exact ⟨rfl, hw.out⟩
      · have hv : Wr.fewB X = false := HNO.out (by unfold Wr.lowV; rw [decide_eq_false (p := x.L.length ≤ 400) hL]; simp)
        clear hys
        go_wp2
        go_ret
        exact ⟨rfl, hw.out⟩
    · obtain rfl : k = X.length := by omega
      have hall := hlow.out
      rw [List.take_length] at hall
      have HA := Lib.hid hall
      clear hlow hall
      go_wp2
      go_ret
      exact ⟨by
        have e : Wr.fewB X = decide (Wr.weights X ≤ 400) := by
          unfold Wr.fewB
          rw [decide_eq_true hl, List.all_eq_true.2 HA.out]; rfl
        rw [e, List.take_length]; exact ret_bool (by rw [decide_eq_decide]; omega), hw.out⟩
theorem few_any (a : Option Addr) (b off c : Nat) (X : List Wr.Vl) (W : World) (hX : RowVl W a b off X) (hm : X.length ≤ 9223372036854775807) :
    Calls Tryd.prog 10 #[.slice a X.length c] W fun e w' => e = .returned (.bool (Wr.fewB X)) ∧ ∃ n, w' = W.drewN n := by
  by_cases h : X.length ≤ 20
  · exact few_walk a b off c X W hX h
  · exact few_many a c X W (by omega) hm
end Go.Proofs.YthknahghmlfegaaDoor
