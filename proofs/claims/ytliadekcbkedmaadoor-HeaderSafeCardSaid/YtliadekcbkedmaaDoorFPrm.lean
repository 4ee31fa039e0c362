/-
  header.Params.
-/
import Derived.Test.YtliadekcbkedmaaDoorFPcs
namespace Go.Proofs.YtliadekcbkedmaaDoor
open Go Go.RowKit Go.Shelf
theorem param_yes {s : ByteArray} {q : Hd.Fd} (h : Hd.param s.data.toList = some q) (w : World) (hs : s.size ≤ 1000000) (hm : MaxAt w) :
    Calls Tryd.prog 32 #[.string s] w fun e w' => e = .returned (.tuple #[.agg #[.string ⟨q.1.toArray⟩, .string ⟨q.2.toArray⟩], .bool true]) ∧ Below w.heap.size w w' := by
  refine (param_is s w hs hm).mono ?_
  rintro e w' ⟨⟨n, v, ok, rfl, hp⟩, hb⟩
  rw [h] at hp
  obtain ⟨rfl, rfl, rfl⟩ := hp
  exact ⟨rfl, hb⟩
theorem param_no {s : ByteArray} (h : Hd.param s.data.toList = none) (w : World) (hs : s.size ≤ 1000000) (hm : MaxAt w) :
    Calls Tryd.prog 32 #[.string s] w fun e w' => (∃ n v : ByteArray, e = .returned (.tuple #[.agg #[.string n, .string v], .bool false])) ∧ Below w.heap.size w w' := by
  refine (param_is s w hs hm).mono ?_
  rintro e w' ⟨⟨n, v, ok, rfl, hp⟩, hb⟩
  rw [h] at hp
  obtain rfl : ok = false := hp
  exact ⟨⟨n, v, rfl⟩, hb⟩
namespace Hd
theorem pieces_len : ∀ (l : List UInt8) (a b : Bool) (cur : List UInt8), 0 < (piecesF a b cur l).length ∧ (piecesF a b cur l).length ≤ l.length + 1 ∧ ∀ x ∈ piecesF a b cur l, x.length ≤ cur.length + l.length
  | [], a, b, cur => by cases b <;> simp [piecesF]
  | c :: r, a, true, cur => by
    have h := pieces_len r a false (cur ++ [c])
    rw [show piecesF a true cur (c :: r) = piecesF a false (cur ++ [c]) r from rfl]
    refine ⟨h.1, by have := h.2.1; rw [List.length_cons]; omega, fun x hx => ?_⟩
    have := h.2.2 x hx
    rw [List.length_append, List.length_singleton] at this
    rw [List.length_cons]; omega
  | c :: r, a, false, cur => by
    rw [piecesF_cons]
    split
    · have h := pieces_len r (!a) false (cur ++ [c])
      refine ⟨h.1, by have := h.2.1; rw [List.length_cons]; omega, fun x hx => ?_⟩
      have := h.2.2 x hx
      rw [List.length_append, List.length_singleton] at this
      rw [List.length_cons]; omega
    · split
      · have h := pieces_len r a a (cur ++ [c])
        refine ⟨h.1, by have := h.2.1; rw [List.length_cons]; omega, fun x hx => ?_⟩
        have := h.2.2 x hx
        rw [List.length_append, List.length_singleton] at this
        rw [List.length_cons]; omega
      · split
        · have h := pieces_len r a false []
          refine ⟨by simp, by have := h.2.1; rw [List.length_cons, List.length_cons]; omega, fun x hx => ?_⟩
          rcases List.mem_cons.1 hx with rfl | hx
          · omega
          · have := h.2.2 x hx
            rw [List.length_nil] at this
            rw [List.length_cons]; omega
        · have h := pieces_len r a false (cur ++ [c])
          refine ⟨h.1, by have := h.2.1; rw [List.length_cons]; omega, fun x hx => ?_⟩
          have := h.2.2 x hx
          rw [List.length_append, List.length_singleton] at this
          rw [List.length_cons]; omega
theorem unqF_len : ∀ (l : List UInt8) (e : Bool) (o x : List UInt8), unqF e o l = some x → x.length ≤ o.length + l.length
  | [], e, o, x, h => by cases e <;> cases h
  | c :: r, true, o, x, h => by
    have := unqF_len r false (o ++ [c]) x h
    rw [List.length_append, List.length_singleton] at this
    rw [List.length_cons]; omega
  | c :: r, false, o, x, h => by
    have h2 : (if c = 34 then (if r = [] then some o else none) else if c = 92 then unqF true o r else unqF false (o ++ [c]) r) = some x := h
    split at h2
    · split at h2
      · cases h2; omega
      · cases h2
    · split at h2
      · have := unqF_len r true o x h2
        rw [List.length_cons]; omega
      · have := unqF_len r false (o ++ [c]) x h2
        rw [List.length_append, List.length_singleton] at this
        rw [List.length_cons]; omega
theorem unq_len {l x : List UInt8} (h : unq l = some x) : x.length ≤ l.length := by
  cases l with
  | nil => cases h
  | cons c r =>
    have h2 : (if c = 34 then unqF false [] r else if vis [34] (c :: r) = true then some (c :: r) else none) = some x := h
    split at h2
    · have := unqF_len r false [] x h2
      rw [List.length_nil] at this
      rw [List.length_cons]; omega
    · split at h2
      · cases h2; exact Nat.le_refl _
      · cases h2
theorem param_len {p : List UInt8} {q : Fd} (h : param p = some q) : q.1.length ≤ p.length ∧ q.2.length ≤ p.length := by
  have hc := cut_len 61 p
  unfold param at h
  cases hu : unq (Tx.trim (Lib.cut p [61]).2.1) with
  | none => rw [hu] at h; cases h
  | some v =>
    rw [hu] at h
    have h2 : (if token (pname p) = true then some (pname p, v) else none) = some q := h
    split at h2
    · cases h2
      have h3 := unq_len hu
      have h4 := Tx.trim_len (Lib.cut p [61]).2.1
      have h5 := Tx.trim_len (Lib.cut p [61]).1
      refine ⟨?_, by show v.length ≤ _; omega⟩
      show (pname p).length ≤ _
      unfold pname Tx.lowL
      rw [List.length_map]
      omega
    · cases h2
theorem any_names (out : List Fd) (n : List UInt8) : (out.any fun x => x.1 == n) = (out.map (·.1)).contains n := by
  induction out with
  | nil => rfl
  | cons a r ih =>
    rw [List.any_cons, ih, List.map_cons, List.contains_cons]
    congr 1
    rw [Bool.eq_iff_iff, beq_iff_eq, beq_iff_eq]
    exact eq_comm
/-- What the parameters of the first k pieces make. -/
def parF (ps : List (List UInt8)) (k : Nat) : List Fd := (ps.take k).foldl addParam []
theorem parF_succ {ps : List (List UInt8)} {k : Nat} {p : List UInt8} (h : ps[k]? = some p) : parF ps (k + 1) = addParam (parF ps k) p := by
  unfold parF
  rw [List.take_add_one, h, List.foldl_append]
  rfl
theorem parF_len (ps : List (List UInt8)) : ∀ k, (parF ps k).length ≤ k
  | 0 => by simp [parF]
  | k + 1 => by
    have := parF_len ps k
    cases h : ps[k]? with
    | none =>
      have : parF ps (k + 1) = parF ps k := by unfold parF; rw [List.take_add_one, h]; simp
      rw [this]; omega
    | some p =>
      rw [parF_succ h]
      unfold addParam
      split
      · omega
      · split
        · omega
        · rw [List.length_append, List.length_singleton]; omega
end Hd
theorem cell_lv {w : World} {xa : Option Addr} {b cap : Nat} {X : List (List UInt8)} (h : Lv w xa b 0 cap X) {j : Nat} {x : List UInt8} (hx : X[j]? = some x) : w.cell? ⟨b, j, none⟩ = some (.string ⟨x.toArray⟩) := by
  have hj := (List.getElem?_eq_some_iff.1 hx).1
  have := h.cell j hj
  rw [Nat.zero_add, List.getD_eq_getElem?_getD, hx] at this
  exact this
/-- What the loop of Params keeps. -/
structure PrS (w1 : World) (P : List (List UInt8)) (m k : Nat) (out : Value) (wr : World) : Prop where
  set : SetM w1.heap.size m ((Hd.parF P k).map (·.1)) wr
  own : FOwn 25 wr (w1.heap.size + 1) out (Hd.parF P k)
  bel : Below w1.heap.size w1 wr
theorem PrS.new {w1 : World} {P : List (List UInt8)} {m k : Nat} {out : Value} {wr w2 : World} (h : PrS w1 P m k out wr) (hb : Below wr.heap.size wr w2) : PrS w1 P m k out w2 :=
  ⟨h.set.below hb h.set.lt, h.own.new hb, below_to h.bel (Nat.le_refl _) hb⟩
theorem PrS.same {w1 : World} {P : List (List UInt8)} {m k : Nat} {out : Value} {wr : World} (h : PrS w1 P m k out wr) (e : Hd.parF P (k + 1) = Hd.parF P k) : PrS w1 P m (k + 1) out wr :=
  ⟨by rw [e]; exact h.set, by rw [e]; exact h.own, h.bel⟩
/-- known[p.Name] = true; params = append(params, p). -/
theorem wpList_prm_app {w1 : World} {P : List (List UInt8)} {m k : Nat} {pa : Option Addr} {pn pc : Nat} {w2 w3 : World} {ops : Array Oper} {o : Oper} {a : Act} {Q : Exit → Act → World → Prop} {rest : List Oper} (hgd : o.guard = none) (s x : Operand)
    (ho : o.op = .call { callee := .builtin .append, args := #[s, x], argTypes := #[22, 22] })
    (q : Hd.Fd) (h : PrS w1 P m k (.slice pa pn pc) w2) (e : Hd.parF P (k + 1) = Hd.parF P k ++ [q]) (hs3 : SetM w1.heap.size (m + 1) ((Hd.parF P k).map (·.1) ++ [q.1]) w3) (hg3 : w2.grownBy w3 (some w1.heap.size)) (hbig : (Hd.parF P k).length ≤ 1000000)
    (hs : a.eval s = .slice pa pn pc) (hx : a.eval x = .slice (some ⟨w3.heap.size, 0, none⟩) 1 1)
    (hK : ∀ pa' pn' pc' w', Hid (PrS w1 P (m + 1) (k + 1) (.slice pa' pn' pc') w') → wpList Tryd.prog ops Q rest (a.put o.dst (.slice pa' pn' pc')) w') :
    wpList Tryd.prog ops Q (o :: rest) a (w3.alloc (.cells #[encStr q.1, encStr q.2] 25)) := by
  have hne : ∀ b, (Value.slice pa pn pc).ownBlock = some b → b ≠ w1.heap.size := fun b hb e2 => by have := own_from h.own b hb; omega
  have ho3 : FOwn 25 w3 (w1.heap.size + 1) (.slice pa pn pc) (Hd.parF P k) := World.ownsRow.kept h.own hg3 (by
    cases hv : (Value.slice pa pn pc).ownBlock with
    | none => exact .inl rfl
    | some b => exact .inr (fun e2 => hne b hv (Option.some.inj e2)))
  have hb3 : Below w1.heap.size w1 w3 := below_grown h.bel (Nat.le_refl _) hg3 (fun b e2 => by cases e2; exact Nat.le_refl _)
  have hlt3 := hs3.lt
  have hsz3 := hb3.size
  refine wpList_app_pair Tryd.underlying22 infoQ hgd s x ho (w1.heap.size + 1) hs (ho3.new (below_new w3 _)) ⟨w3.heap.size, 0, none⟩ 1 q hx (cells_new w3 (pcv q) _) hbig (by rw [alloc_size]; omega) fun v' w' h1 h2 _ => ?_
  obtain ⟨pa', pc', rfl⟩ := own_slice h1
  refine hK _ _ _ _ (Lib.hid ⟨?_, by rw [e]; exact h1, below_grown (below_to hb3 (Nat.le_refl _) (below_new w3 _)) (Nat.le_refl _) h2 (fun b hb => by have := own_from h.own b hb; omega)⟩)
  rw [e, List.map_append]
  exact (hs3.below (below_new w3 _) hs3.lt).block (h2.block _ (by rw [alloc_size]; omega) (fun e2 => hne _ e2.symm rfl))
theorem cells_grown {w2 w4 : World} {x y : Value} {T : TypeId} {m : Nat} (hg : (w2.alloc (.cells #[x, y] T)).grownBy w4 (some m)) (hne : m ≠ w2.heap.size) : w4.cell? ⟨w2.heap.size, 0, none⟩ = some x ∧ w4.cell? ⟨w2.heap.size, 1, none⟩ = some y := by
  have h := (hg.block w2.heap.size (by rw [alloc_size]; omega) (fun e => hne (Option.some.inj e).symm)).trans (World.alloc_heap_new w2 _)
  exact ⟨by simp [World.cell?, h], by simp [World.cell?, h]⟩
theorem addParam_none {out : List Hd.Fd} {p : List UInt8} (h : Hd.param p = none) : Hd.addParam out p = out := by unfold Hd.addParam; rw [h]
theorem addParam_old {out : List Hd.Fd} {p : List UInt8} {q : Hd.Fd} (h : Hd.param p = some q) (hk : (out.map (·.1)).contains q.1 = true) : Hd.addParam out p = out := by
  unfold Hd.addParam; rw [h]; simp only; rw [Hd.any_names, if_pos hk]
theorem addParam_new {out : List Hd.Fd} {p : List UInt8} {q : Hd.Fd} (h : Hd.param p = some q) (hk : (out.map (·.1)).contains q.1 = false) : Hd.addParam out p = out ++ [q] := by
  unfold Hd.addParam; rw [h]; simp only; rw [Hd.any_names, if_neg (by rw [hk]; decide)]
set_option maxHeartbeats 1000000 in
set_option maxRecDepth 100000 in
theorem params_any (s : ByteArray) (w : World) (hs : s.size ≤ 100000) (hm : MaxAt w) :
    Calls Tryd.prog 10 #[.string s] w fun e w' => ∃ pa pn pc, e = .returned (.tuple #[encStr (Hd.params s.data.toList).1, .slice pa pn pc]) ∧ FOwn 25 w' w.heap.size (.slice pa pn pc) (Hd.params s.data.toList).2 ∧ Below w.heap.size w w' := by
  have H1 := Lib.hid (pieces_any s w (by omega))
  have hpl := Hd.pieces_len s.data.toList false false []
  rw [← Lib.size_eq] at hpl
  have hpp : Hd.piecesF false false [] s.data.toList = Hd.pieces s.data.toList := rfl
  rw [hpp] at hpl
  have hR : Hd.params s.data.toList = (Tx.trim ((Hd.pieces s.data.toList).headD []), Hd.parF ((Hd.pieces s.data.toList).drop 1) ((Hd.pieces s.data.toList).length - 1)) := by
    unfold Hd.params Hd.parF
    rw [List.take_of_length_le (by rw [List.length_drop]; omega)]
  rw [hR]
  obtain ⟨P, hP⟩ : ∃ P, Hd.pieces s.data.toList = P := ⟨_, rfl⟩
  rw [hP] at H1 hpl ⊢
  obtain ⟨hP0, hP1, hP2⟩ := hpl
  obtain ⟨n, hn⟩ : ∃ n, P.length = n + 1 := ⟨P.length - 1, by omega⟩
  have HN := Lib.hid hn
  obtain ⟨x0, hx0⟩ : ∃ x, P[0]? = some x := ⟨_, List.getElem?_eq_getElem (by omega)⟩
  have hh : P.headD [] = x0 := by
    cases P with
    | nil => cases hx0
    | cons a r => cases hx0; rfl
  have hx0l := hP2 x0 (List.mem_of_getElem? hx0)
  rw [List.length_nil, Nat.zero_add] at hx0l
  obtain ⟨t0, ht0⟩ : ∃ t0, Tx.trim x0 = t0 := ⟨_, rfl⟩
  have HT := Lib.hid (fun W => trim_to ht0 W (by omega))
  rw [hh, ht0, hn, Nat.add_sub_cancel]
  have HM := Lib.hid hm
  have HP2 := Lib.hid hP2
  have HX0 := Lib.hid hx0
  have hpos := hm.pos
  have hn2 : n ≤ 100000 := by omega
  have HD0 : ∀ k, k < n → ∃ p, (P.drop 1)[k]? = some p ∧ P[1 + k]? = some p := fun k hk => by
    refine ⟨P[1 + k]'(by rw [HN.out]; omega), ?_, List.getElem?_eq_getElem (by rw [HN.out]; omega)⟩
    rw [List.getElem?_drop]
    exact List.getElem?_eq_getElem (by rw [HN.out]; omega)
  obtain ⟨D, hD⟩ : ∃ D, P.drop 1 = D := ⟨_, rfl⟩
  rw [hD] at HD0 ⊢
  have HD := Lib.hid HD0
  clear HD0 hD
  have hmk := run_makeMapS
  clear hpp hR hP hP0 hP1 hP2 hh hx0l ht0 hx0 hm hn
  go_enter Tryd.func10, Tryd.ntmps10
  go_wp2_with fail
  refine H1.out.mono ?_
  rintro _ w1 ⟨v, rfl, hO, hb1⟩
  obtain ⟨xa, b, cap, rfl, hL⟩ := hO.row
  obtain rfl := hL.at_ (by rw [HN.out]; omega)
  have hbl := hL.lt (by rw [HN.out]; omega)
  have hcap := hL.le
  rw [HN.out] at hcap
  have HL := Lib.hid hL
  have HB1 := Lib.hid hb1
  clear H1 hO hL hb1
  rw [HN.out]
  have hc1 : ((1 : Nat) : Int) ≤ ((n + 1 : Nat) : Int) := by omega
  have hsz1 : w.heap.size ≤ w1.heap.size := HB1.out.size
  have HST := Lib.hid (show PrS w1 D 0 0 (.slice none 0 0) (w1.alloc (.map #[] 0)) from ⟨SetM.start w1, FOwn.nil _ _ _, below_new w1 _⟩)
  by_cases hcap1 : cap = 1
  · have hn0 : n = 0 := by omega
    subst hn0
    have c0 := cell_lv HL.out HX0.out
    go_wp2
    go_loopw [5, 8, 9, 10, 17] (fun out _ _ _ i wr => i = .int .i64 0 ∧ ∃ m, Hid (PrS w1 D m 0 out wr)) (fun _ _ _ _ i _ => 0)
    case atStart => exact ⟨rfl, 0, HST.out⟩
    case round =>
      obtain ⟨rfl, m, hS⟩ := hrel
      obtain ⟨pa, pc, hv⟩ := own_slice hS.out.own
      subst hv
      have d0 := (hS.out.bel.cell (p := ⟨b, 0, none⟩) hbl).trans c0
      clear HST HD
      go_wp2_with (go_at_call 30; refine (HT.out _).mono ?_; rintro e w5 ⟨rfl, hb5⟩)
      go_ret2
      have h5 := hS.out.new hb5
      exact ⟨pa, _, pc, rfl, own_base h5.own (by omega), below_to HB1.out (Nat.le_refl _) h5.bel⟩
  · go_wp2
    go_loopw [5, 8, 9, 10, 17] (fun out _ _ _ i wr => ∃ (k m : Nat), i = .int .i64 k ∧ k ≤ n ∧ m ≤ k ∧ Hid (PrS w1 D m k out wr)) (fun _ _ _ _ i _ => n - (intOf i).toNat)
    case atStart => exact ⟨0, 0, rfl, Nat.zero_le _, Nat.le_refl _, HST.out⟩
    case round =>
      obtain ⟨k, m, rfl, hk, hmk2, hS⟩ := hrel
      obtain ⟨pa, pc, hv⟩ := own_slice hS.out.own
      subst hv
      by_cases hlt : k < n
      · obtain ⟨p, hp1, hp2⟩ := HD.out k hlt
        have hpl := HP2.out p (List.mem_of_getElem? hp2)
        rw [List.length_nil, Nat.zero_add] at hpl
        have d0 : wr.cell? ⟨b, 1 + k, none⟩ = some (.string ⟨p.toArray⟩) := (hS.out.bel.cell (p := ⟨b, 1 + k, none⟩) hbl).trans (cell_lv HL.out hp2)
        have hle := Hd.parF_len D k
        have HMr : Hid (MaxAt wr) := Lib.hid ((HM.out.below HB1.out hpos).below hS.out.bel (by omega))
        have HSU := Hd.parF_succ hp1
        cases hpar : Hd.param p with
        | none =>
          have HSA := Lib.hid (HSU.trans (addParam_none hpar))
          have HQ := Lib.hid (param_no (s := ⟨p.toArray⟩) hpar wr (mk_size_le (by omega)) HMr.out)
          clear hp1 hp2 HSU hpar HST HD
          go_wp2_with (go_at_call 32; refine HQ.out.mono ?_; rintro e w2 ⟨⟨nn, vv, rfl⟩, hb2⟩; have HS2 := Lib.hid (hS.out.new hb2))
          go_roundw
          case rel => exact ⟨k + 1, m, by go_num, by omega, by omega, (HS2.out.new (below_new w2 _)).same HSA.out⟩
          case measure => simp [intOf]; omega
        | some q =>
          have HQ := Lib.hid (param_yes (s := ⟨p.toArray⟩) hpar wr (mk_size_le (by omega)) HMr.out)
          have hql := Hd.param_len hpar
          cases hcon : ((Hd.parF D k).map (·.1)).contains q.1 with
          | true =>
            have HSA := Lib.hid (HSU.trans (addParam_old hpar hcon))
            have HC := Lib.hid hcon
            clear hp1 hp2 HSU hpar HST HD hcon
            go_wp2_with (first
              | (go_at_call 32; refine HQ.out.mono ?_; rintro e w2 ⟨rfl, hb2⟩; have HS2 := Lib.hid (hS.out.new hb2); have HS3 := Lib.hid (HS2.out.new (below_new w2 (.cells #[.string ⟨q.1.toArray⟩, .string ⟨q.2.toArray⟩] 25))))
              | (at_lookup; refine wpList_set_look _ (by rfl) _ _ rfl w1.heap.size m _ q.1 rfl HS3.out.set rfl (by omega) HC.out ?_))
            go_roundw
            case rel => exact ⟨k + 1, m, by go_num, by omega, by omega, HS3.out.same HSA.out⟩
            case measure => simp [intOf]; omega
          | false =>
            have HSA := Lib.hid (HSU.trans (addParam_new hpar hcon))
            have HC := Lib.hid hcon
            have HLE : Hid ((Hd.parF D k).length ≤ 1000000) := Lib.hid (by omega)
            clear hp1 hp2 HSU hpar HST HD hcon hle
            go_wp2_with (first
              | (go_at_call 32; refine HQ.out.mono ?_; rintro e w2 ⟨rfl, hb2⟩; have HS2 := Lib.hid (hS.out.new hb2); have HS3 := Lib.hid (HS2.out.new (below_new w2 (.cells #[.string ⟨q.1.toArray⟩, .string ⟨q.2.toArray⟩] 25))))
              | (at_lookup; refine wpList_set_look _ (by rfl) _ _ rfl w1.heap.size m _ q.1 rfl HS3.out.set rfl (by omega) HC.out ?_)
              | (at_mapUpdate; refine wpList_set_put _ rfl _ _ _ rfl w1.heap.size m _ q.1 rfl HS3.out.set (by omega) rfl (by omega) rfl ?_; intro w4 hs4 hg4; obtain ⟨x4, y4⟩ := cells_grown hg4 (Nat.ne_of_lt HS2.out.set.lt); have HS4 := Lib.hid hs4; have HG4 := Lib.hid hg4)
              | (at_builtin; refine wpList_prm_app rfl _ _ rfl q HS3.out HSA.out HS4.out HG4.out HLE.out rfl rfl ?_; intro pa5 pn5 pc5 w5 HS5))
            go_roundw
            case rel => exact ⟨k + 1, m + 1, by go_num, by omega, by omega, HS5.out⟩
            case measure => simp [intOf]; omega
      · obtain rfl : k = n := by omega
        have c0 := cell_lv HL.out HX0.out
        have d0 := (hS.out.bel.cell (p := ⟨b, 0, none⟩) hbl).trans c0
        clear HST HD
        go_wp2_with (go_at_call 30; refine (HT.out _).mono ?_; rintro e w5 ⟨rfl, hb5⟩)
        go_ret2
        have h5 := hS.out.new hb5
        exact ⟨pa, _, pc, rfl, own_base h5.own (by omega), below_to HB1.out (Nat.le_refl _) h5.bel⟩
end Go.Proofs.YtliadekcbkedmaaDoor
