/-
  append of a row of the call's own onto another; Strings of the reference.
-/
import Derived.Test.YteiabaddmclmlaaDoorMHash
import Derived.Laws.OwnMore
namespace Go.Proofs.YteiabaddmclmlaaDoor
open Go Go.RowKit Go.Shelf
theorem sown_lit (w : World) {base : Nat} (hb : base ≤ w.heap.size) (X : List (List UInt8)) (h : X.length ≤ 1000000) : SOwn (w.alloc (.cells (sv X).toArray 9)) base (.slice (some ⟨w.heap.size, 0, none⟩) X.length X.length) X := by
  have := World.ownsRow_lit (e := 9) (size := 1) w (sv X).toArray X.length hb (by unfold maxLen; omega) (by simp [sv])
  unfold SOwn
  simpa using this
section
variable {w : World} {ops : Array Oper} {o : Oper} {a : Act} {Q : Exit → Act → World → Prop}
theorem wp_append_rows {K : Act → World → Prop} (s x : Operand) (ho : o.op = .call { callee := .builtin .append, args := #[s, x], argTypes := #[29, 29] })
    (base : Nat) (v : Value) (L : List (List UInt8)) (hs : a.eval s = v) (hown : SOwn w base v L) (base2 : Nat) (v2 : Value) (M : List (List UInt8)) (hx : a.eval x = v2) (hM : SOwn w base2 v2 M)
    (hbig : L.length + M.length ≤ 1000000000) (hbase : base ≤ w.heap.size)
    (h : ∀ v' w', SOwn w' base v' (L ++ M) → w.grownBy w' v.ownBlock → K (a.put o.dst v') w') : o.wp Tryd.prog a w K Q := by
  rcases hM.2 with ⟨rfl, h0⟩ | ⟨g, cap, cur, rfl, _⟩
  · have hM0 : M = [] := List.eq_nil_of_length_eq_zero h0
    subst hM0
    obtain ⟨i0, hi, hz0, hz1, hz2⟩ := info_parts infoS
    have hrun := run_append_owned_none (P := Tryd.prog) (w := w) base 29 o.type 9 i0 1 Tryd.underlying29 hi v L.length (sv L) hown
    unfold Oper.wp
    simp [execOp, ho, resolve, invoke, builtin, hs, hx, hrun, Result.andThen]
    exact h v w (by rw [List.append_nil]; exact hown) (World.grownBy.refl w _)
  · refine wp_append_strs s x ho base v L hs hown ⟨g, 0, none⟩ M.length cap M hx rfl ?_ hbig hbase h
    intro j u hj
    exact World.ownsRow.cells (g := g) hM rfl j u hj
theorem step_append_rows {K : Act → World → Prop} {E : Prop} (hgd : o.guard = none) (s x : Operand) (ho : o.op = .call { callee := .builtin .append, args := #[s, x], argTypes := #[29, 29] })
    (base : Nat) (v : Value) (L : List (List UInt8)) (hs : a.eval s = v) (hown : SOwn w base v L) (base2 : Nat) (v2 : Value) (M : List (List UInt8)) (hx : a.eval x = v2) (hM : SOwn w base2 v2 M)
    (hbig : L.length + M.length ≤ 1000000000) (hbase : base ≤ w.heap.size)
    (h : ∀ v' w', SOwn w' base v' (L ++ M) → w.grownBy w' v.ownBlock → K (a.put o.dst v') w') : if Region.wanted o (yielded ops a.tmps) = true then Oper.wp Tryd.prog o a w K Q else E := by
  have hw : Region.wanted o (yielded ops a.tmps) = true := by simp [Region.wanted, hgd]
  rw [if_pos hw]
  exact wp_append_rows s x ho base v L hs hown base2 v2 M hx hM hbig hbase h
theorem wpList_append_rows {rest : List Oper} (hgd : o.guard = none) (s x : Operand) (ho : o.op = .call { callee := .builtin .append, args := #[s, x], argTypes := #[29, 29] })
    (base : Nat) (v : Value) (L : List (List UInt8)) (hs : a.eval s = v) (hown : SOwn w base v L) (base2 : Nat) (v2 : Value) (M : List (List UInt8)) (hx : a.eval x = v2) (hM : SOwn w base2 v2 M)
    (hbig : L.length + M.length ≤ 1000000000) (hbase : base ≤ w.heap.size)
    (h : ∀ v' w', SOwn w' base v' (L ++ M) → w.grownBy w' v.ownBlock → wpList Tryd.prog ops Q rest (a.put o.dst v') w') : wpList Tryd.prog ops Q (o :: rest) a w :=
  wpList_plain hgd fun _ hK => wp_append_rows s x ho base v L hs hown base2 v2 M hx hM hbig hbase fun v' w' h2 h3 => hK _ _ (h v' w' h2 h3)
end
/-- Two lists that agree up to k. -/
def SameTo (X Y : List (List UInt8)) (k : Nat) : Prop := ∀ j, j < k → X.getD j [] = Y.getD j []
theorem SameTo.next {X Y : List (List UInt8)} {k : Nat} (h : SameTo X Y k) (hk : X.getD k [] = Y.getD k []) : SameTo X Y (k + 1) := fun j hj => by
  rcases Nat.lt_succ_iff_lt_or_eq.1 hj with h1 | rfl
  · exact h j h1
  · exact hk
theorem SameTo.eq {X Y : List (List UInt8)} {n : Nat} (hx : X.length = n) (hy : Y.length = n) (h : SameTo X Y n) : X = Y := by
  refine List.ext_getElem (by omega) fun j h1 h2 => ?_
  have := h j (by omega)
  simpa [List.getD_eq_getElem?_getD, h1, h2] using this
/-- Whether two lists are equal, by its own name. -/
def sameRows (X Y : List (List UInt8)) : Bool := decide (X = Y)
theorem strEq' (a b : ByteArray) : (a.toList == b.toList) = decide (a.data.toList = b.data.toList) := by
  rw [Bool.eq_iff_iff]
  simp [ByteArray.toList_eq]
theorem drews_more {w wr : World} (h : ∃ n, wr = w.drewN n) (k : Nat) : ∃ n, wr.drewN k = w.drewN n := by
  obtain ⟨n, rfl⟩ := h
  exact ⟨_, World.drewN_drewN _ _ _⟩
set_option maxHeartbeats 1000000 in
set_option maxRecDepth 100000 in
theorem strings_any (X Y : List (List UInt8)) (n m : Nat) (hn : X.length = n) (hm : Y.length = m) (hN : n ≤ 1000000) (hM : m ≤ 1000000) (xa ya : Option Addr) (b off cap b' off' cap' : Nat) (w : World) (hX : Lv w xa b off cap X) (hY : Lv w ya b' off' cap' Y) :
    Calls Tryd.prog 35 #[.slice xa n cap, .slice ya m cap'] w fun e w' => e = .returned (.bool (sameRows X Y)) ∧ Below w.heap.size w w' := by
  by_cases hnm : n = m
  · subst hnm
    have HX := Lib.hid hX
    have HY := Lib.hid hY
    have HN := Lib.hid hn
    have HM := Lib.hid hm
    clear hX hY hn hm
    go_enter Tryd.func35, Tryd.ntmps35
    go_wp2
    go_loopw [5] (fun i wr => ∃ k : Nat, i = .int .i64 k ∧ k ≤ n ∧ SameTo X Y k ∧ Hid (∃ n, wr = w.drewN n)) (fun i _ => n - (intOf i).toNat)
    case atStart => exact ⟨0, rfl, Nat.zero_le _, fun j hj => absurd hj (by omega), ⟨0, rfl⟩⟩
    case round =>
      obtain ⟨k, rfl, hk, hS, hwr⟩ := hrel
      have HS := Lib.hid hS
      clear hS
      by_cases hlt : k < n
      · obtain rfl := HX.out.at_ (by rw [HN.out]; omega)
        obtain rfl := HY.out.at_ (by rw [HM.out]; omega)
        have c1 : wr.cell? ⟨b, off + k, none⟩ = some (encStr (X.getD k [])) := by obtain ⟨n, rfl⟩ := hwr; exact HX.out.cell k (by rw [HN.out]; omega)
        have c2 : wr.cell? ⟨b', off' + k, none⟩ = some (encStr (Y.getD k [])) := by obtain ⟨n, rfl⟩ := hwr; exact HY.out.cell k (by rw [HM.out]; omega)
        obtain ⟨s, hs⟩ : ∃ s, encStr (X.getD k []) = .string s := ⟨_, rfl⟩
        obtain ⟨t, ht⟩ : ∃ s, encStr (Y.getD k []) = .string s := ⟨_, rfl⟩
        rw [hs] at c1
        rw [ht] at c2
        have h1 := (encStr_size hs).1
        have h2 := (encStr_size ht).1
        have hne := strEq' s t
        by_cases hst : s.data.toList = t.data.toList
        · have hq : (s.toList == t.toList) = true := by rw [hne]; simpa using hst
          have hq2 : (s.toList != t.toList) = false := by rw [bne, hq]; rfl
          have HE := Lib.hid (h1.trans (hst.trans h2.symm))
          clear hs ht h1 h2 hne hst
          go_wp2
          go_quiet (fail)
          go_wp2
          go_roundw
          case rel => exact ⟨k + 1, by go_num, by omega, HS.out.next HE.out, drews_more hwr.out _⟩
          case measure => simp [intOf]; omega
        · have hq : (s.toList == t.toList) = false := by rw [hne]; simpa using hst
          have hq2 : (s.toList != t.toList) = true := by rw [bne, hq]; rfl
          have HR := Lib.hid (show sameRows X Y = false from by unfold sameRows; simp only [decide_eq_false_iff_not]; intro h; rw [h, h2] at h1; exact hst h1.symm)
          clear hs ht h1 h2 hne hst
          go_wp2
          go_quiet (fail)
          go_wp2
          go_ret
          exact ⟨retB HR.out, by obtain ⟨q, rfl⟩ := hwr.out; exact below_drewN (below_drewN (Below.refl _ _) _) _⟩
      · have HR := Lib.hid (show sameRows X Y = true from by unfold sameRows; simp only [decide_eq_true_eq]; exact SameTo.eq HN.out HM.out (by rw [show n = k by omega]; exact HS.out))
        go_wp2
        go_ret
        exact ⟨retB HR.out, by obtain ⟨q, rfl⟩ := hwr.out; exact below_drewN (Below.refl _ _) _⟩
  · have HR := Lib.hid (show sameRows X Y = false from by unfold sameRows; simp only [decide_eq_false_iff_not]; rintro rfl; omega)
    have e1 : ((n : Int) != (m : Int)) = true := by rw [bne_iff_ne]; omega
    have e2 : (n : Int) ≠ (m : Int) := by omega
    clear hX hY hn hm
    go_enter Tryd.func35, Tryd.ntmps35
    go_wp2
    go_ret
    exact ⟨retB HR.out, Below.refl _ _⟩
end Go.Proofs.YteiabaddmclmlaaDoor
