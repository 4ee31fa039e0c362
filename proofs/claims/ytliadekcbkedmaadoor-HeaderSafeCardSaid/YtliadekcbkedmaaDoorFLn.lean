/-
  header.lines: the iterator over the lines of a text; Parse over what it yields, plainly.
-/
import Derived.Test.YtliadekcbkedmaaDoorFWr
namespace Go.Proofs.YtliadekcbkedmaaDoor
open Go Go.RowKit Go.Shelf
attribute [local go_sem] Oper.semAt_some
namespace Hd
/-- The lines' contents, and where they end; e: where the rest begins. -/
def seqF : Nat → Nat → List UInt8 → List (List UInt8 × Nat)
  | 0, _, _ => []
  | n + 1, e, l => if l = [] then [] else (content l, e + (l.length - (after l).length)) :: seqF n (e + (l.length - (after l).length)) (after l)
theorem seq_fuel : ∀ (n m e : Nat) (l : List UInt8), l.length ≤ n → l.length ≤ m → seqF n e l = seqF m e l := by
  intro n
  induction n with
  | zero =>
    intro m e l h1 h2
    have : l = [] := List.eq_nil_of_length_eq_zero (by omega)
    subst this
    cases m <;> simp [seqF]
  | succ n ih =>
    intro m e l h1 h2
    by_cases hne : l = []
    · subst hne; cases m <;> simp [seqF]
    · have hl := after_lt hne
      obtain ⟨m, rfl⟩ : ∃ k, m = k + 1 := ⟨m - 1, by have := List.length_pos_iff.2 hne; omega⟩
      unfold seqF
      rw [if_neg hne, if_neg hne, ih m _ (after l) (by omega) (by omega)]
def seqG (e : Nat) (l : List UInt8) : List (List UInt8 × Nat) := seqF l.length e l
theorem seqG_nil (e : Nat) : seqG e [] = [] := rfl
theorem seqG_step (e : Nat) {l : List UInt8} (h : l ≠ []) : seqG e l = (content l, e + (l.length - (after l).length)) :: seqG (e + (l.length - (after l).length)) (after l) := by
  obtain ⟨n, hn⟩ : ∃ n, l.length = n + 1 := ⟨l.length - 1, by have := List.length_pos_iff.2 h; omega⟩
  have ha := after_lt h
  unfold seqG
  conv => lhs; rw [hn]; unfold seqF
  rw [if_neg h, seq_fuel n _ _ (after l) (by omega) (Nat.le_refl _), hn]
theorem seqG_len : ∀ (n : Nat) (l : List UInt8) (e : Nat), l.length ≤ n → (seqG e l).length ≤ l.length := by
  intro n
  induction n with
  | zero =>
    intro l e h
    have : l = [] := List.eq_nil_of_length_eq_zero (by omega)
    subst this; exact Nat.le_refl _
  | succ n ih =>
    intro l e h
    by_cases hne : l = []
    · subst hne; exact Nat.le_refl _
    · have hl := after_lt hne
      rw [seqG_step e hne, List.length_cons]
      have := ih (after l) (e + (l.length - (after l).length)) (by omega)
      omega
def runQ : List Fd → Nat → List (List UInt8 × Nat) → List Fd × Nat
  | fs, e, [] => (fs, e)
  | fs, e, x :: r => if x.1 = [] then (fs, x.2) else match step fs x.1 with
    | some fs' => runQ fs' x.2 r
    | none => (fs, e)
/-- All of these lines go on. -/
def goes : List Fd → Nat → List (List UInt8 × Nat) → Option (List Fd × Nat)
  | fs, e, [] => some (fs, e)
  | fs, _, x :: r => if x.1 = [] then none else match step fs x.1 with
    | some fs' => goes fs' x.2 r
    | none => none
theorem run_goes : ∀ (pre r : List (List UInt8 × Nat)) (fs : List Fd) (e : Nat) (fs' : List Fd) (e' : Nat), goes fs e pre = some (fs', e') → runQ fs e (pre ++ r) = runQ fs' e' r
  | [], r, fs, e, fs', e', h => by cases h; rfl
  | x :: p, r, fs, e, fs', e', h => by
    unfold goes at h
    rw [List.cons_append]
    conv => lhs; unfold runQ
    split
    · rename_i hx; rw [if_pos hx] at h; cases h
    · rename_i hx
      rw [if_neg hx] at h
      cases hs : step fs x.1 with
      | none => rw [hs] at h; cases h
      | some f =>
        rw [hs] at h
        exact run_goes p r f x.2 fs' e' h
theorem goes_snoc : ∀ (pre : List (List UInt8 × Nat)) (x : List UInt8 × Nat) (fs : List Fd) (e : Nat) (fs' f2 : List Fd) (e' : Nat), goes fs e pre = some (fs', e') → x.1 ≠ [] → step fs' x.1 = some f2 → goes fs e (pre ++ [x]) = some (f2, x.2)
  | [], x, fs, e, fs', f2, e', h, hx, hs => by
    cases h
    show goes fs e [x] = _
    unfold goes
    rw [if_neg hx, hs]
    rfl
  | y :: p, x, fs, e, fs', f2, e', h, hx, hs => by
    unfold goes at h
    rw [List.cons_append]
    unfold goes
    split
    · rename_i hy; rw [if_pos hy] at h; cases h
    · rename_i hy
      rw [if_neg hy] at h
      cases ht : step fs y.1 with
      | none => rw [ht] at h; cases h
      | some f =>
        rw [ht] at h
        exact goes_snoc p x f y.2 fs' f2 e' h hx hs
theorem after_le (l : List UInt8) : (after l).length ≤ l.length := (cut_len 10 l).2
/-- Parse over the lines. -/
theorem run_parse : ∀ (n : Nat) (l : List UInt8) (fs : List Fd) (e : Nat), l.length ≤ n → runQ fs e (seqG e l) = ((parseG fs l).1, e + (l.length - (parseG fs l).2.length)) ∧ (parseG fs l).2.length ≤ l.length := by
  intro n
  induction n with
  | zero =>
    intro l fs e h
    have : l = [] := List.eq_nil_of_length_eq_zero (by omega)
    subst this
    exact ⟨rfl, Nat.le_refl _⟩
  | succ n ih =>
    intro l fs e h
    by_cases hne : l = []
    · subst hne; exact ⟨rfl, Nat.le_refl _⟩
    · have hl := after_lt hne
      rw [seqG_step e hne, parseG_step fs hne]
      unfold runQ
      simp only
      split
      · exact ⟨rfl, after_le l⟩
      · cases hs : step fs (content l) with
        | none => exact ⟨by simp, Nat.le_refl _⟩
        | some f =>
          obtain ⟨h1, h2⟩ := ih (after l) f (e + (l.length - (after l).length)) (by omega)
          simp only
          rw [h1]
          refine ⟨?_, by omega⟩
          congr 1
          omega
theorem parse_run (s : List UInt8) : runQ [] 0 (seqG 0 s) = ((parse s).1, s.length - (parse s).2.length) := by
  have := (run_parse _ s [] 0 (Nat.le_refl _)).1
  rw [Nat.zero_add] at this
  exact this
theorem content_len (l : List UInt8) : (content l).length ≤ l.length := Nat.le_trans ((Lib.trimSuffix_le _ _)) (cut_len 10 l).1
theorem seq_at {S : List UInt8} {e : Nat} (he : e < S.length) : ∃ (a : List UInt8) (f : Bool) (e' : Nat), (∃ b, Lib.cut (S.drop e) [10] = (a, b, f)) ∧ a.length ≤ S.length ∧ e' = e + a.length + (if f = true then 1 else 0) ∧ e < e' ∧ e' ≤ S.length ∧ seqG e (S.drop e) = (Tx.chop a, e') :: seqG e' (S.drop e') := by
  have hne : S.drop e ≠ [] := fun h => by have := congrArg List.length h; rw [List.length_drop, List.length_nil] at this; omega
  have hd : (S.drop e).length = S.length - e := List.length_drop
  rcases cut_or 10 (S.drop e) with ⟨a, b, hl, ha, hc⟩ | ⟨hn, hc⟩
  · have hll := congrArg List.length hl
    rw [List.length_append, List.length_cons] at hll
    have haf : after (S.drop e) = b := by unfold after; rw [hc]
    have hb : S.drop (e + a.length + 1) = b := by
      rw [show e + a.length + 1 = e + (a.length + 1) by omega, ← List.drop_drop, hl]
      simp
    refine ⟨a, true, e + a.length + 1, ⟨b, hc⟩, by omega, rfl, by omega, by omega, ?_⟩
    rw [seqG_step e hne, haf, show e + ((S.drop e).length - b.length) = e + a.length + 1 by omega, hb]
    unfold content
    rw [hc]
  · have haf : after (S.drop e) = [] := by unfold after; rw [hc]
    refine ⟨S.drop e, false, S.length, ⟨[], hc⟩, by omega, by simp; omega, he, Nat.le_refl _, ?_⟩
    rw [seqG_step e hne, haf, List.length_nil, Nat.sub_zero, show e + (S.drop e).length = S.length by omega, List.drop_length]
    unfold content
    rw [hc]
end Hd
/-- The blocks in which the iterator's variables lie are left alone. -/
def KpC (p q : Nat) (W W' : World) : Prop := ∀ (k : Nat) (c : Array Value) (T : TypeId) (fz : Nat × Nat), (k = p ∨ k = q) → W.heap[k]? = some (.cells c T fz) → W'.heap[k]? = some (.cells c T fz)
theorem KpC.trans {p q : Nat} {A B C : World} (h1 : KpC p q A B) (h2 : KpC p q B C) : KpC p q A C := fun k c T fz hk h => h2 k c T fz hk (h1 k c T fz hk h)
theorem KpC.putObj {p q : Nat} (W : World) (l : Nat) (o o' : Obj) (hl : W.heap[l]? = some o) (ho : o.isCells = false) : KpC p q W (W.putObj l o') := by
  intro k c T fz _ h
  by_cases e : k = l
  · subst e; rw [hl] at h; cases h; cases ho
  · rw [World.putObj_heap_other e]; exact h
theorem MaxAt.same {w w' : World} (h : MaxAt w) (hb : w'.heap[0]? = w.heap[0]?) : MaxAt w' := by
  obtain ⟨m, h⟩ := h
  exact ⟨m, (World.cell?_of_block (a := ⟨0, 0, none⟩) hb).trans h⟩
theorem MaxAt.cells {w : World} (h : MaxAt w) : ∃ c T fz, w.heap[0]? = some (.cells c T fz) := by
  obtain ⟨m, h⟩ := h
  unfold World.cell? at h
  cases e : w.heap[0]? with
  | none => rw [e] at h; cases h
  | some o =>
    cases o with
    | cells c T fz => exact ⟨c, T, fz, rfl⟩
    | _ => rw [e] at h; cases h
theorem MaxAt.kp {w w' : World} {p : Nat} (h : MaxAt w) (hk : KpC p 0 w w') : MaxAt w' := by
  obtain ⟨c, T, fz, hc⟩ := h.cells
  exact h.same ((hk _ _ _ _ (.inr rfl) hc).trans hc.symm)
/-- A line: what it contains, where it ends. -/
abbrev Ln := { x : List UInt8 × Nat // x.1.length ≤ 30000 ∧ x.2 ≤ 30000 }
def lnV (x : Ln) : Array Value := #[.string ⟨x.1.1.toArray⟩, .int .i64 x.1.2]
set_option maxRecDepth 100000 in
set_option maxHeartbeats 2000000 in
theorem lines1_in (md : Nat) (s : ByteArray) (hs : s.size ≤ 30000) (l Bs B : Nat)
    (J Jx : List Ln → World → Prop) (hJ : AbidesFrom B J)
    (hY : ∀ pre x W, J pre W → pre.length < (Hd.seqG 0 s.data.toList).length → YieldAt Fence.wide md Tryd.prog l (lnV x) W fun e W' =>
      (e = .returned (.bool true) ∧ J (pre ++ [x]) W' ∧ KpC Bs 0 W W') ∨ (e = .returned (.bool false) ∧ Jx (pre ++ [x]) W'))
    (W : World) (hBs : W.heap[Bs]? = some (.cells #[.string s] 9 (0, 0))) (hM : MaxAt W) (h0 : J [] W) :
    CallsIn Fence.wide (md + 1) Tryd.prog 71 #[.func (.yield l) #[] #[], .pointer (some ⟨Bs, 0, none⟩)] W fun e W' => (∃ v, e = .returned v) ∧
      ((∃ ys : List Ln, ys.map Subtype.val = Hd.seqG 0 s.data.toList ∧ J ys W') ∨ (∃ pre : List Ln, pre.map Subtype.val <+: Hd.seqG 0 s.data.toList ∧ Jx pre W')) := by
  refine callsIn_of_wp Tryd.func71 rfl trivial ?_ rfl
  simp only [Tryd.ntmps71, List.size_toArray, List.length_cons, List.length_nil, Nat.reduceAdd, Nat.reduceSub, Array.replicate_succ, Array.replicate_zero, List.push_toArray, List.append_toArray, List.nil_append, List.cons_append]
  have hsl := Lib.size_eq s
  obtain ⟨S, hS⟩ : ∃ S, s.data.toList = S := ⟨_, rfl⟩
  rw [hS] at hsl hY ⊢
  have HSL := Lib.hid hsl
  have HS := Lib.hid hS
  clear hS hsl
  gi_wp2
  gi_loopw [3] (fun i wr => ∃ (pre : List Ln) (e : Nat), i = .int .i64 e ∧ e ≤ s.size ∧ Hid (pre.map Subtype.val ++ Hd.seqG e (S.drop e) = Hd.seqG 0 S) ∧ J pre wr ∧ Hid (MaxAt wr) ∧ wr.heap[Bs]? = some (.cells #[.string s] 9 (0, 0))) (fun i _ => s.size - (intOf i).toNat)
  case atStart => exact ⟨[], 0, rfl, Nat.zero_le _, rfl, h0, hM, hBs⟩
  case round =>
    obtain ⟨pre, e, rfl, he, hpre, hJs, hMr, hs1⟩ := hrel
    have hc1 : wr.cell? ⟨Bs, 0, none⟩ = some (.string s) := by simp [World.cell?, hs1]
    by_cases hlt : e < s.size
    · obtain ⟨a, f, e', ⟨b, hcut⟩, hal, hee, hlt2, hle2, hseq⟩ := Hd.seq_at (S := S) (e := e) (by rw [← HSL.out]; exact hlt)
      have hca : (Tx.chop a).length ≤ a.length := Lib.trimSuffix_le _ _
      obtain ⟨x, hx⟩ : ∃ x : Ln, x.1 = (Tx.chop a, e') := ⟨⟨(Tx.chop a, e'), by have := HSL.out; exact ⟨by simp only; omega, by simp only; omega⟩⟩, rfl⟩
      have hdm := drop_mk s e
      rw [HS.out] at hdm
      have HC := Lib.hid (fun W hM => cut_any 10 ⟨(S.drop e).toArray⟩ W (by rw [mk_len, List.length_drop]; have := HSL.out; omega) hM)
      rw [show (⟨(S.drop e).toArray⟩ : ByteArray).data.toList = S.drop e from rfl, hcut] at HC
      have HT := Lib.hid (fun W => trimSuffix_any ⟨a.toArray⟩ W (mk_size_le (by have := HSL.out; omega)))
      obtain ⟨A, hA⟩ : ∃ A : ByteArray, (⟨a.toArray⟩ : ByteArray) = A := ⟨_, rfl⟩
      have hAs : A.size = a.length := by rw [← hA, mk_len]
      rw [show (⟨a.toArray⟩ : ByteArray).data.toList = a from rfl, hA] at HT
      rw [hA] at HC
      have HP : Hid ((pre ++ [x]).map Subtype.val ++ Hd.seqG e' (S.drop e') = Hd.seqG 0 S) := Lib.hid (by
        rw [← hpre.out, hseq, List.map_append, List.map_cons, List.map_nil, hx, List.append_assoc]
        rfl)
      have hlen : pre.length < (Hd.seqG 0 S).length := by
        rw [← hpre.out, hseq, List.length_append, List.length_cons, List.length_map]; omega
      have HPX : Hid ((pre ++ [x]).map Subtype.val <+: Hd.seqG 0 S) := Lib.hid ⟨_, HP.out⟩
      have HY := Lib.hid (fun W1 h => hY pre x W1 h hlen)
      unfold lnV at HY
      rw [hx] at HY
      have hes : (e : Int) ≤ (s.size : Int) := by omega
      have he'1 : e' ≤ s.size := by have := HSL.out; omega
      cases f with
      | true =>
        have hee2 : e' = e + A.size + 1 := by rw [hAs]; simpa using hee
        have hcast : ((e' : Nat) : Int) = (e : Int) + (A.size : Int) + 1 := by omega
        have HW := Lib.hid hcast
        rw [show ((Tx.chop a, e').2 : Int) = (e : Int) + (A.size : Int) + 1 from hcast] at HY
        have hwr : (e : Int) + (A.size : Int) + 1 ≤ 30000 := by omega
        clear hee hee2 hcast hcut hal hseq hca hx hpre hlen hY hAs hA
        gi_wp2_with (first
          | (refine ⟨trivial, ?_⟩; gi_at_call 51; refine (callsIn_wide.2 (HC.out _ hMr.out)).mono ?_; rintro e1 w1 ⟨rfl, n1, rfl⟩)
          | (refine ⟨trivial, ?_⟩; gi_at_call 52; refine (callsIn_wide.2 (HT.out _)).mono ?_; rintro e1 w2 ⟨rfl, rfl⟩; obtain ⟨fn, tmps, assign, body, hy, hR⟩ := HY.out _ (abides_below hJ hJs (below_drews (Below.refl _ wr) n1))))
        refine hR.mono ?_
        rintro e1 W3 (⟨rfl, hJ3, hk3⟩ | ⟨rfl, hJx3⟩)
        · have hs3 := hk3 Bs _ _ _ (.inl rfl) (show (wr.drewN n1).heap[Bs]? = _ from hs1)
          have HM3 := Lib.hid (MaxAt.kp (w := wr.drewN n1) hMr.out hk3)
          clear hy hR hk3 HY
          gi_wp2
          go_roundw
          case rel => exact ⟨pre ++ [x], e', by rw [HW.out], by omega, HP.out, hJ3, HM3.out, hs3⟩
          case measure => have h9 := HW.out; simp only [intOf]; omega
        · clear hy hR HY
          gi_wp2
          refine bodyPost_ret (results_none rfl _ _ _) rfl ?_
          exact ⟨⟨_, rfl⟩, .inr ⟨pre ++ [x], HPX.out, hJx3⟩⟩
      | false =>
        have hee2 : e' = e + A.size := by rw [hAs]; simpa using hee
        have hcast : ((e' : Nat) : Int) = (e : Int) + (A.size : Int) := by omega
        have HW := Lib.hid hcast
        rw [show ((Tx.chop a, e').2 : Int) = (e : Int) + (A.size : Int) from hcast] at HY
        have hwr : (e : Int) + (A.size : Int) ≤ 30000 := by omega
        clear hee hee2 hcast hcut hal hseq hca hx hpre hlen hY hAs hA
        gi_wp2_with (first
          | (refine ⟨trivial, ?_⟩; gi_at_call 51; refine (callsIn_wide.2 (HC.out _ hMr.out)).mono ?_; rintro e1 w1 ⟨rfl, n1, rfl⟩)
          | (refine ⟨trivial, ?_⟩; gi_at_call 52; refine (callsIn_wide.2 (HT.out _)).mono ?_; rintro e1 w2 ⟨rfl, rfl⟩; obtain ⟨fn, tmps, assign, body, hy, hR⟩ := HY.out _ (abides_below hJ hJs (below_drews (Below.refl _ wr) n1))))
        refine hR.mono ?_
        rintro e1 W3 (⟨rfl, hJ3, hk3⟩ | ⟨rfl, hJx3⟩)
        · have hs3 := hk3 Bs _ _ _ (.inl rfl) (show (wr.drewN n1).heap[Bs]? = _ from hs1)
          have HM3 := Lib.hid (MaxAt.kp (w := wr.drewN n1) hMr.out hk3)
          clear hy hR hk3 HY
          gi_wp2
          go_roundw
          case rel => exact ⟨pre ++ [x], e', by rw [HW.out], by omega, HP.out, hJ3, HM3.out, hs3⟩
          case measure => have h9 := HW.out; simp only [intOf]; omega
        · clear hy hR HY
          gi_wp2
          refine bodyPost_ret (results_none rfl _ _ _) rfl ?_
          exact ⟨⟨_, rfl⟩, .inr ⟨pre ++ [x], HPX.out, hJx3⟩⟩
    · gi_wp2
      go_end0
      refine ⟨⟨_, rfl⟩, .inl ⟨pre, ?_, hJs⟩⟩
      have h2 := hpre.out
      rw [List.drop_eq_nil_of_le (by rw [← HSL.out]; omega), Hd.seqG_nil, List.append_nil] at h2
      exact h2
set_option maxHeartbeats 1000000 in
theorem lines_in (n : Nat) (s : ByteArray) (w : World) :
    CallsIn Fence.wide n Tryd.prog 47 #[.string s] w fun e w' => e = .returned (.func (.func 71) #[] #[.pointer (some ⟨w.heap.size, 0, none⟩)]) ∧ w' = w.alloc (.cells #[.string s] 9) := by
  refine callsIn_of_wp Tryd.func47 rfl trivial ?_ rfl
  simp only [Tryd.ntmps47, List.size_toArray, List.length_cons, List.length_nil, Nat.reduceAdd, Nat.reduceSub, Array.replicate_succ, Array.replicate_zero, List.push_toArray, List.append_toArray, List.nil_append, List.cons_append]
  gi_wp2
  go_ret
  exact ⟨rfl, rfl⟩
theorem lines_stops (md : Nat) (s : ByteArray) (hs : s.size ≤ 30000) (Bs : Nat) (w : World) (hBs : Bs < w.heap.size) (h1 : w.heap[Bs]? = some (.cells #[.string s] 9 (0, 0))) (hM : MaxAt w) (h0 : 0 < w.heap.size) :
    SeqStopsK Fence.wide (md + 1) Tryd.prog 71 #[.pointer (some ⟨Bs, 0, none⟩)] lnV (KpC Bs 0)
      (fun ys => ys.map Subtype.val = Hd.seqG 0 s.data.toList) (fun pre => pre.map Subtype.val <+: Hd.seqG 0 s.data.toList) (Hd.seqG 0 s.data.toList).length w :=
  fun l J Jx W hW hJ _ hY h0' => lines1_in md s hs l Bs W.heap.size J Jx hJ hY W ((hW.block Bs hBs).trans h1) (hM.same (hW.block _ h0)) h0'
end Go.Proofs.YtliadekcbkedmaaDoor
