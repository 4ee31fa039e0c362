/-
  Reading lists.
-/
import Derived.Test.YthknahghmlfegaaDoorWRead
import Derived.Sort.EncStr
namespace Go.Proofs.YthknahghmlfegaaDoor
open Go Go.RowKit Go.Shelf

theorem Gr.grown {g : Nat} {W a b : World} {row : Option Nat} (h : Gr g W a) (hg : a.grownBy b row) (hr : ∀ k, row = some k → W.heap.size ≤ k) : Gr g W b :=
  ⟨hg.os.trans h.os, hg.tape.trans h.tape, hg.output.trans h.output, Nat.le_trans h.size hg.size, fun i hi hn => (hg.block i (Nat.lt_of_lt_of_le hi h.size) (fun e => by have := hr i e.symm; omega)).trans (h.block i hi hn)⟩
theorem Rd.grown {g : Nat} {a b : World} {row : Option Nat} {r : ByteArray} {bad : Bool} (h : Rd a g r bad) (hg : a.grownBy b row) (hr : ∀ k, row = some k → g < k) : Rd b g r bad :=
  (hg.block g h.lt (fun e => by have := hr g e.symm; omega)).trans h
theorem Gr.alloc {g : Nat} {W a : World} (h : Gr g W a) (o : Obj) : Gr g W (a.alloc o) := Gr.grown h (World.grownBy_alloc a o none) (fun _ e => by cases e)
theorem Rd.alloc {g : Nat} {a : World} {r : ByteArray} {bad : Bool} (h : Rd a g r bad) (o : Obj) : Rd (a.alloc o) g r bad := h.grown (World.grownBy_alloc a o none) (fun _ e => by cases e)
theorem cell_one_new (w : World) (v : Value) (t : TypeId) : ∀ (j : Nat) (u : Value), [v][j]? = some u → (w.alloc (.cells #[v] t)).cell? (Addr.add ⟨w.heap.size, 0, none⟩ j) = some u := by
  intro j u hj
  have hj0 : j = 0 := by
    cases j with
    | zero => rfl
    | succ m => simp at hj
  subst hj0
  simp at hj
  subst hj
  simp [Addr.add]

namespace Wr
/-- Between two rounds: so many are to be read still. -/
def Mid {α : Type} (f : List UInt8 → Option (α × List UInt8)) (n : Nat) (t : List UInt8) (k : Nat) (out : List α) (T : List UInt8) : Prop :=
  takeMany f n t = (takeMany f (n - k) T).map (fun p => (out ++ p.1, p.2))
theorem Mid.start {α : Type} (f : List UInt8 → Option (α × List UInt8)) (n : Nat) (t : List UInt8) : Mid f n t 0 [] t := by
  unfold Mid; simp
theorem Mid.none {α : Type} {f : List UInt8 → Option (α × List UInt8)} {n k : Nat} {t T : List UInt8} {out : List α} (h : Mid f n t k out T) (hk : k < n) (hf : f T = none) : takeMany f n t = none := by
  unfold Mid at h
  obtain ⟨m, hm⟩ : ∃ m, n - k = m + 1 := ⟨n - k - 1, by omega⟩
  rw [h, hm, takeMany, hf]; rfl
theorem Mid.next {α : Type} {f : List UInt8 → Option (α × List UInt8)} {n k : Nat} {t T T' : List UInt8} {out : List α} {x : α} (h : Mid f n t k out T) (hk : k < n) (hf : f T = some (x, T')) : Mid f n t (k + 1) (out ++ [x]) T' := by
  unfold Mid at h ⊢
  obtain ⟨m, hm⟩ : ∃ m, n - k = m + 1 := ⟨n - k - 1, by omega⟩
  rw [h, hm, takeMany, hf]
  have hm' : n - (k + 1) = m := by omega
  rw [hm']
  simp only [Option.map_map]
  congr 1
  funext p
  simp
theorem Mid.end_ {α : Type} {f : List UInt8 → Option (α × List UInt8)} {n : Nat} {t T : List UInt8} {out : List α} (h : Mid f n t n out T) : takeMany f n t = some (out, T) := by
  unfold Mid at h
  rw [h, Nat.sub_self, takeMany]; simp
theorem takeInt_lt {e : UInt8} {l r : List UInt8} {n : Int} (h : takeInt e l = some (n, r)) : r.length + 1 ≤ l.length := by
  rw [(takeInt_some h).1]; simp
theorem takeText_lt {l r s : List UInt8} (h : takeText l = some (s, r)) : r.length + 1 ≤ l.length := by
  rw [(takeText_some h).1]; unfold encText; simp; omega
end Wr

theorem infoInt : (Tryd.prog.info? 3).map (fun i => (i.zero, i.size, i.bytes)) = some (some (.int .i64 0), 1, 8) := by kernel_rfl
theorem infoStr : (Tryd.prog.info? 9).map (fun i => (i.zero, i.size, i.bytes)) = some (some (.string ⟨#[]⟩), 1, 16) := by kernel_rfl

set_option maxHeartbeats 4000000 in
set_option maxRecDepth 100000 in
theorem readInts_none (g : Nat) (r : ByteArray) (bad : Bool) (W : World) (h : Rd W g r bad) (hE : Env W) (hs : r.size ≤ 1000000) (hx : Wr.takeNum 91 r.data.toList = none) :
    Calls Tryd.prog 54 #[.pointer (some ⟨g, 0, none⟩), .func (.func 26) #[.pointer (some ⟨g, 0, none⟩)] #[]] W fun x w' => x = .returned (.slice none 0 0) ∧ Rd w' g ⟨#[]⟩ true ∧ Gr g W w' := by
  have HN := Lib.hid (number_any 91 g r bad W h hE hs)
  rw [hx] at HN
  simp only [Wr.vOf, Wr.rOf, Wr.bOf] at HN
  clear h hE hx
  go_enter Tryd.func54, Tryd.ntmps54
  go_wp2_with fail
  refine HN.out.mono ?_
  rintro x w1 ⟨rfl, h1, h2⟩
  have H1 := Lib.hid h1
  have H2 := Lib.hid h2
  clear h1 h2
  go_wp2_with fail
  go_loopw [5, 6, 9] (fun v _ i wr => v = .slice none 0 0 ∧ i = .int .i64 0 ∧ wr = w1) (fun _ _ _ _ => 0)
  case atStart => exact ⟨rfl, rfl, rfl⟩
  case round =>
    obtain ⟨rfl, rfl, rfl⟩ := hrel
    go_wp2_with fail
    refine (skip_no 93 g _ _ _ H1.out rfl).mono ?_
    rintro x w3 ⟨rfl, h3, h4⟩
    go_wp2
    go_ret
    exact ⟨rfl, h3, Gr.trans H2.out h4⟩

set_option maxHeartbeats 4000000 in
set_option maxRecDepth 100000 in
theorem readInts_some (g : Nat) (r : ByteArray) (W : World) (h : Rd W g r false) (hE : Env W) (hg : 6 ≤ g) (hs : r.size ≤ 1000000) (n : Nat) (t : List UInt8) (hx : Wr.takeNum 91 r.data.toList = some ((n : Int), t)) (hn : n ≤ 9223372036854775807) :
    Calls Tryd.prog 54 #[.pointer (some ⟨g, 0, none⟩), .func (.func 26) #[.pointer (some ⟨g, 0, none⟩)] #[]] W fun x w' =>
      ∃ v, x = .returned v ∧ w'.ownsRow W.heap.size 3 1 v (Wr.vOf [] (Wr.takeList (Wr.takeInt 59) r.data.toList)).length ((Wr.vOf [] (Wr.takeList (Wr.takeInt 59) r.data.toList)).map (Value.int .i64)) ∧
        Rd w' g (Wr.rOf (Wr.takeList (Wr.takeInt 59) r.data.toList)) (Wr.bOf false (Wr.takeList (Wr.takeInt 59) r.data.toList)) ∧ Gr g W w' := by
  have HN := Lib.hid (number_any 91 g r false W h hE hs)
  have hlen := Wr.takeNum_len hx
  rw [hx] at HN
  simp only [Wr.vOf, Wr.rOf, Wr.bOf] at HN
  have hgW := h.lt
  have hsz := Lib.size_eq r
  obtain ⟨X, hX⟩ : ∃ X, Wr.takeList (Wr.takeInt 59) r.data.toList = X := ⟨_, rfl⟩
  rw [hX]
  unfold Wr.takeList at hX
  simp only [hx, Int.toNat_natCast] at hX
  have HX := Lib.hid hX
  have HE := Lib.hid hE
  obtain ⟨i0, hi, hz0, hz1, hz2⟩ := info_parts infoInt
  clear h hE hx hX
  go_enter Tryd.func54, Tryd.ntmps54
  go_wp2_with fail
  refine HN.out.mono ?_
  rintro x w1 ⟨rfl, h1, h2⟩
  have H1 := Lib.hid h1
  have H2 := Lib.hid h2
  clear h1 h2
  go_wp2_with fail
  go_loopw [5, 6, 9] (fun v _ i wr => ∃ (k : Nat) (out : List Int) (T : ByteArray) (vv : Value), vv = v ∧ i = .int .i64 k ∧ k ≤ n ∧ wr.ownsRow W.heap.size 3 1 v out.length (out.map (Value.int .i64)) ∧ Hid (Rd wr g T false) ∧ Hid (Gr g W wr) ∧ Hid (Wr.Mid (Wr.takeInt 59) n t k out T.data.toList) ∧ out.length + T.size ≤ t.length)
    (fun _ _ i _ => n - (intOf i).toNat)
  case atStart => exact ⟨0, [], ⟨t.toArray⟩, _, rfl, rfl, Nat.zero_le _, World.ownsRow_nil _ _ _ _, H1.out, H2.out, Wr.Mid.start _ _ _, by rw [Wr.bs_len]; simp⟩
  case round =>
    obtain ⟨k, out, T, v, rfl, rfl, hk, hown, hR, hG, hM, hol⟩ := hrel
    by_cases hlt : k < n
    · have HI := Lib.hid (int_any g T false wr hR.out (HE.out.gr hG.out hg) (by omega))
      cases hf : Wr.takeInt 59 T.data.toList with
      | none =>
        have HM := Lib.hid (hM.out.none hlt hf)
        rw [hf] at HI
        simp only [Wr.vOf, Wr.rOf, Wr.bOf] at HI
        clear hf hM hR
        go_wp2_with fail
        refine HI.out.mono ?_
        rintro x w2 ⟨rfl, h3, h4⟩
        have hc1 := h3.c1
        have H3 := Lib.hid h3
        have H4 := Lib.hid h4
        clear h3 h4
        go_wp2_with fail
        go_ret
        have hX := HX.out
        rw [HM.out] at hX
        subst hX
        exact ⟨_, rfl, World.ownsRow_nil _ _ _ _, H3.out, Gr.trans hG.out H4.out⟩
      | some p =>
        obtain ⟨y, T'⟩ := p
        have HM := Lib.hid (hM.out.next hlt hf)
        have hlt' := Wr.takeInt_lt hf
        rw [← Lib.size_eq] at hlt'
        rw [hf] at HI
        simp only [Wr.vOf, Wr.rOf, Wr.bOf] at HI
        clear hf hM hR
        go_wp2_with fail
        refine HI.out.mono ?_
        rintro x w2 ⟨rfl, h3, h4⟩
        have hc1 := h3.c1
        have hown2 := hown.kept h4 (by
          rcases hb : v.ownBlock with _ | k'
          · exact .inl rfl
          · have := (hown.lt k' hb).1
            exact .inr (by intro e; injection e; omega))
        have hG2 : Hid (Gr g W w2) := Gr.trans hG.out h4
        have hsz2 : W.heap.size ≤ w2.heap.size := hG2.out.size
        have H3 := Lib.hid h3
        clear h3 h4 hown
        go_wp2_with (at_builtin; go_must (refine wpList_append_own _ rfl _ _ 22 rfl W.heap.size 3 i0 (.int .i64 0) 1 8 Tryd.underlying22 hi hz0 hz1 hz2 rfl (by decide) _ _ _ rfl (hown2.alloc _) ⟨w2.heap.size, 0, none⟩ 1 1 [.int .i64 y] rfl rfl ?c1 ?c2 ?c3 ?c4 ?c5 ?_))
        case c1 => exact cell_one_new _ _ _
        case c2 => simp [Value.oneCell']
        case c3 => unfold maxLen; omega
        case c4 => omega
        case c5 => simp; omega
        intro v' w3 hown' hgrow _
        have hne : ∀ k, v.ownBlock = some k → W.heap.size ≤ k := fun k e => (hown2.lt k e).1
        have hG3 : Hid (Gr g W w3) := Gr.grown (Gr.alloc hG2.out _) hgrow hne
        have hR3 : Hid (Rd w3 g ⟨T'.toArray⟩ false) := (H3.out.alloc _).grown hgrow (fun k e => by have := hne k e; omega)
        go_wp2
        go_roundw
        case rel => exact ⟨k + 1, out ++ [y], ⟨T'.toArray⟩, _, rfl, by go_num, by omega, by simpa using hown', hR3, hG3, HM.out, by rw [Wr.bs_len]; simp only [List.length_append, List.length_cons, List.length_nil]; omega⟩
        case measure => simp [intOf]; omega
    · obtain rfl : k = n := by omega
      have HM := Lib.hid hM.out.end_
      have hX := HX.out
      rw [HM.out] at hX
      simp only at hX
      clear hM
      cases hf : Wr.skip 93 T.data.toList with
      | none =>
        rw [hf] at hX
        simp only [Option.map_none] at hX
        subst hX
        have HF := Lib.hid hf
        clear hf
        go_wp2_with fail
        refine (skip_no 93 g _ _ _ hR.out HF.out).mono ?_
        rintro x w3 ⟨rfl, h3, h4⟩
        have H3 := Lib.hid h3
        have H4 := Lib.hid h4
        clear h3 h4
        go_wp2
        go_ret
        exact ⟨_, rfl, World.ownsRow_nil _ _ _ _, H3.out, Gr.trans hG.out H4.out⟩
      | some u =>
        rw [hf] at hX
        simp only [Option.map_some] at hX
        subst hX
        have HF := Lib.hid hf
        clear hf
        go_wp2_with fail
        refine (skip_yes 93 g _ _ _ hR.out HF.out).mono ?_
        rintro x w3 ⟨rfl, h3, h4⟩
        have hown2 := hown.kept h4 (by
          rcases hb : v.ownBlock with _ | k'
          · exact .inl rfl
          · have := (hown.lt k' hb).1
            exact .inr (by intro e; injection e; omega))
        have H3 := Lib.hid h3
        have H4 := Lib.hid h4
        clear h3 h4
        go_wp2
        go_ret
        exact ⟨_, rfl, hown2, H3.out, Gr.trans hG.out H4.out⟩
end Go.Proofs.YthknahghmlfegaaDoor
