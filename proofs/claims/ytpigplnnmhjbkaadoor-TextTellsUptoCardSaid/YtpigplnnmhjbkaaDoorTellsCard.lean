/-
  TextTells, the second form: wherever what is read is of bulk at most 1048576, the law returns true, and the input reads as it did. Conditions: the bulk, and the row's own: the listed tables of the library hold what the program's text lays (the card ties them).
-/
import Derived.Test.YtpigplnnmhjbkaaDoorTells
import Derived.LaidSub
import Derived.SliceStrings
import Derived.Carry
import Derived.Test.YtpigplnnmhjbkaaDoorRow
namespace Go.Proofs.YtpigplnnmhjbkaaDoor.lawTells
open Go Go.ChangeShapes Go.WideShapes Go.ChangeAt Go.RowKit
open Go.ChangeMaps (open_string shut_string)

theorem i64_of_wf {a : Int} (h : (Lit.int .i64 a).wf = true) : -9223372036854775808 ≤ a ∧ a ≤ 9223372036854775807 := by
  simp only [Lit.wf, Bool.and_eq_true, decide_eq_true_eq] at h
  have e1 : IntKind.i64.min = -9223372036854775808 := rfl
  have e2 : IntKind.i64.max = 9223372036854775807 := rfl
  omega
theorem bulk_strs {H : Type} : ∀ l : List ByteArray, Rows.uptoBulkAll (strs (H := H) l) = (Tx.unlines (l.map fun s => s.data.toList)).length
  | [] => rfl
  | x :: r => by
    have ih := bulk_strs (H := H) r
    unfold strs at ih ⊢
    simp only [Tx.unlines, List.map_cons, List.flatten_cons, List.length_append, List.length_cons, List.length_nil] at ih ⊢
    rw [Rows.uptoBulkAll, Rows.uptoBulk, ih]

theorem open_rows_bulk {H : Type} {enc : TypeId × Value → H} {W : World} {v : Value} {d : DataW H} {p : List MemPlace} (hs : ∃ a len cap, v = .slice a len cap) (h : DataW.Trod enc Tryd.prog W 0 (fun _ => true) true 22 v d p) :
    ∃ xa b off cap X, RowOf W v xa b off cap X ∧ X.length ≤ 9223372036854775807 ∧ (Tx.unlines X).length ≤ Rows.uptoBulk d := by
  obtain ⟨a0, len, cap, rfl⟩ := hs
  obtain ⟨fuel, hf⟩ := h
  rcases open_strings Tryd.underlying22 Tryd.underlying9 (by kernel_rfl) hf with ⟨hcs, hx⟩ | ⟨a, len', cap', ss, hcs, _, hl, hm, hz, hx, hcell, hws⟩
  · simp [Value.cells] at hcs
    obtain ⟨rfl, rfl, rfl⟩ := hcs
    exact ⟨none, 0, 0, 0, [], ⟨rfl, fun h => absurd h (Nat.lt_irrefl _), fun j x hj => (by simp at hj), fun h => absurd h (Nat.lt_irrefl _)⟩, by simp, by simp [Tx.unlines]⟩
  · simp [Value.cells] at hcs
    obtain ⟨rfl, rfl, rfl⟩ := hcs
    simp only [if_true] at hz
    unfold maxLen at hm
    have hXl : ((ss.take len).map fun s => s.data.toList).length = len := by simp; omega
    have hget : ∀ (j : Nat) (x : List UInt8), ((ss.take len).map fun s => s.data.toList)[j]? = some x → j < ss.length ∧ W.cell? (a.add j) = some (encStr x) := fun j x hj => by
      rw [List.getElem?_map] at hj
      obtain ⟨s, hs, rfl⟩ := Option.map_eq_some_iff.1 hj
      have hjl : j < len := by have := (List.getElem?_eq_some_iff.1 hs).1; rw [List.length_take] at this; omega
      rw [List.getElem?_take_of_lt hjl] at hs
      have hjs : j < ss.length := (List.getElem?_eq_some_iff.1 hs).1
      refine ⟨hjs, ?_⟩
      rw [hcell j hjs, List.getD, hs]
      show some (Value.string s) = some (Value.string ⟨s.data.toList.toArray⟩)
      rw [Lib.mk_data]
    have hsz : (Tx.unlines ((ss.take len).map fun s => s.data.toList)).length ≤ Rows.uptoBulk d := by
      injection hx with hx _
      rw [hx, Rows.uptoBulk, bulk_strs]
      omega
    by_cases hl0 : len = 0
    · subst hl0
      exact ⟨some a, 0, 0, cap, [], ⟨rfl, fun h => absurd h (Nat.lt_irrefl _), fun j x hj => (by simp at hj), fun h => absurd h (Nat.lt_irrefl _)⟩, by simp, by simp [Tx.unlines]⟩
    · obtain ⟨xb, xo, spot⟩ := a
      have hc0 := hcell 0 (by omega)
      have hspot : spot = none := by simpa [Addr.add] using World.cell?_spot hc0
      subst hspot
      have hlt : xb < W.heap.size := by
        by_cases hlt : xb < W.heap.size
        · exact hlt
        · have hn : W.heap[xb]? = none := Array.getElem?_eq_none (by omega)
          simp [World.cell?, Addr.add, hn] at hc0
      refine ⟨some ⟨xb, xo, none⟩, xb, xo, cap, (ss.take len).map fun s => s.data.toList, ⟨by rw [hXl], fun _ => rfl, fun j x hj => ?_, fun _ => hlt⟩, by omega, hsz⟩
      have := (hget j x hj).2
      rwa [add_plain] at this


theorem contract (H : Type) (enc : TypeId × Value → H) (W : World) (base : Nat) (args : Array Value) (ds gs : List (DataW H)) (before : List MemPlace)
    (hval : ∀ (j : Nat) t v, Tryd.f3.params[j]? = some t → args[j]? = some v → Value.okWide Tryd.prog W .any base t v)
    (hW : DataW.Whole enc Tryd.prog Tryd.f3.params.toList Rows.textTellsSpec.vars false W args.toList ds gs before) (hcond : Rows.uptoSmall H (ds ++ gs) = true) (hpow : Pow W) (hsh : W.ShapedOpen Tryd.prog) :
    Calls Tryd.prog 3 args W fun e W' => ∃ v, e = .returned v ∧ Rows.textTellsSpec.post enc Tryd.prog Tryd.f3 false true false false W args v W' := by
  have hW' := hW
  obtain ⟨p, q, hA0, hV, rfl, hfz, hnd⟩ := hW
  have hA : DataW.TrodAll enc Tryd.prog W 0 (fun _ => true) true Tryd.f3.params.toList args.toList ds p := hA0
  rw [Tryd.params3] at hA hval
  obtain ⟨v0, vs0, d0, ds0, p0, q0, hargs, rfl, rfl, h0, r0⟩ := trodAll_cons hA
  obtain ⟨v1, vs1, d1, ds1, p1, q1, rfl, rfl, rfl, h1, r1⟩ := trodAll_cons r0
  obtain ⟨v2, vs2, d2, ds2, p2, q2, rfl, rfl, rfl, h2, r2⟩ := trodAll_cons r1
  obtain ⟨v3, vs3, d3, ds3, p3, q3, rfl, rfl, rfl, h3, r3⟩ := trodAll_cons r2
  obtain ⟨rfl, rfl, rfl⟩ := trodAll_nil r3
  obtain rfl : args = #[v0, v1, v2, v3] := by cases args; simp_all
  obtain ⟨rfl, rfl⟩ := trodVars_none hV
  obtain ⟨s, rfl, rfl, rfl, hs⟩ := open_string Tryd.underlying9 (hval 0 9 v0 rfl rfl) h0
  obtain ⟨t, rfl, rfl, rfl, ht⟩ := open_string Tryd.underlying9 (hval 1 9 v1 rfl rfl) h1
  obtain ⟨n, rfl, rfl, rfl, hn⟩ := open_int Tryd.underlying3 (hval 3 3 v3 rfl rfl) h3
  obtain ⟨xa, b, off, cap, X, hr, hl, hz⟩ := open_rows_bulk (okWide_slice Tryd.underlying22 (hval 2 22 v2 rfl rfl)) h2
  have hz2 : (Tx.unlines X).length ≤ 2000000 := by
    unfold Rows.uptoSmall at hcond
    have hc := of_decide_eq_true hcond
    simp only [List.append_nil, Rows.uptoBulkAll] at hc
    omega
  clear hA0
  simp only [List.append_nil, List.nil_append] at hW'
  unfold maxLen at hs ht
  refine (tells_law s t n W (max_of_shape hsh) hpow hr hl hs ht hz2 (i64_of_wf hn).1 (i64_of_wf hn).2).mono fun e W' ⟨he, hB⟩ => ?_
  subst he
  exact ⟨_, rfl, post_kept (pa := p2) (pv := []) hW' (fun _ _ _ => trodAll_cons_mk (shut_bool Tryd.underlying4 _) trodAll_mk0)
    (fun sp hsp => by
      have := trodAll_cons_mk (shut_string Tryd.underlying9 (by unfold maxLen; exact hs)) (trodAll_cons_mk (shut_string Tryd.underlying9 (by unfold maxLen; exact ht)) (trodAll_cons_mk (WideElems.Trod_stays (P := Tryd.prog) (of_decide_eq_true (by kernel_rfl)) (by kernel_rfl) (of_decide_eq_true (by kernel_rfl)) h2 (fun x hx => hB.same (hW'.lt x hx)) (fun x hx => hsp x hx)) (trodAll_cons_mk (shut_int Tryd.underlying3 hn) trodAll_mk0)))
      simp only [List.append_nil, List.nil_append] at this
      exact this) (fun _ _ => rfl) (by simp)
    hB (ok_one (by kernel_rfl) rfl (okWide_bool_mk Tryd.underlying4 _))⟩

theorem pow_of_laid {W : World} (h : laidMetH Tryd.prog Rows.textTellsUptoRow.laid W) : Pow W := by
  have h1 : laidMetH Tryd.prog [("internal/strconv.uint64pow10", Lib.tabData .u64 Lib.pow10Tab)] W := by
    have := h.filter (fun x => x.1 == "internal/strconv.uint64pow10")
    rwa [show (Rows.textTellsUptoRow.laid.filter fun x => x.1 == "internal/strconv.uint64pow10") = [("internal/strconv.uint64pow10", Lib.tabData .u64 Lib.pow10Tab)] from rfl] at this
  rw [MakeChecks.laidMetH_plain _ _ _ (by kernel_rfl)] at h1
  exact Lib.tabIs_of_head (g := 3) (t := 92) (e := 82) (by kernel_rfl) (by kernel_rfl) Tryd.underlying92 Tryd.underlying82 (by kernel_rfl) (by kernel_rfl) h1

theorem reads (os : Os) {H : Type} (enc : TypeId × Value → H) : ∃ places, DataW.whole enc Tryd.prog ((World.laidAll Tryd.prog os Rows.textTellsUptoRow.laid).forCall (fun _ _ => 0) ⟨#[], #[.string ⟨#[]⟩, .string ⟨#[]⟩, .slice none 0 0, .int .i64 0], []⟩).memory Tryd.f3.params.toList Rows.textTellsSpec.vars false #[Value.string ⟨#[]⟩, Value.string ⟨#[]⟩, Value.slice none 0 0, Value.int .i64 0].toList 8 = some ([.lit (.string []), .lit (.string []), .nil, .lit (.int .i64 0)], [], places) :=
  ⟨[], by kernel_rfl⟩

set_option maxRecDepth 100000 in
theorem lifted (os : Os) (started : os.Started) (H : Type) (enc : TypeId × Value → H) (F : Stop.Interp) :
    ReturnsInHanded {} Tryd.checked os 3 .any ((Rows.OpenSpec.upto Rows.textTellsSpec).preRow enc Tryd.prog Tryd.f3 Rows.textTellsUptoRow.domain false Rows.textTellsUptoRow.laid) (((Rows.OpenSpec.upto Rows.textTellsSpec).at F).post enc Tryd.prog Tryd.f3 false true false false) := by
  obtain ⟨places, hx⟩ := reads os enc
  refine returnsInHanded_of_row (C := Tryd.checked) (s := Rows.OpenSpec.upto Rows.textTellsSpec) own started (by kernel_rfl) Tryd.func3
    (witness_laid (World.laidAll Tryd.prog os Rows.textTellsUptoRow.laid) #[.string ⟨#[]⟩, .string ⟨#[]⟩, .slice none 0 0, .int .i64 0] (World.laidAll_os _ _ _) (World.shaped_of_ZipB (by kernel_rfl) (by kernel_rfl)) (by kernel_rfl)
      (OpenSpec.preRow_of_cond 8 hx (by kernel_rfl) (fun k hk => by cases hk; rfl) (by kernel_rfl) (laidMet_laidAll _ (by kernel_rfl) (by kernel_rfl)))) ?_
  intro W base args ds gs before hval hW _ hc _ hL hsh _
  exact contract H enc W base args ds gs before hval hW (hc _ rfl) (pow_of_laid hL) hsh

theorem said : Rows.TextTellsUptoSaid :=
  OpenClaim.holds_of_cond 3 Tryd.f3 rfl rfl rfl rfl rfl rfl rfl ⟨rfl, rfl, rfl, rfl, rfl⟩ rfl rfl rfl rfl rfl (by kernel_rfl) Tryd.func3 (by kernel_rfl)
    (of_decide_eq_true (by kernel_rfl)) (by unfold Func.isWrapper; first | (rw [if_pos (by decide +kernel)]; kernel_rfl) | (rw [if_neg (by decide +kernel)]; exact ⟨rfl, rfl⟩))
    (fun os started H enc _ F => by rw [OpenClaim.pre_eq_preRow]; exact lifted os started H enc F)

theorem plain (f : FuncId) (fn : Func) (hf : Tryd.pinned.checked.prog.funcNamed "missive/missivelaw01.TextTells" = some f) (hfn : Tryd.pinned.checked.prog.funcs[f]? = some fn) :
    false = Tryd.pinned.checked.prog.looks [] ∧ ∀ (j : Nat) t, fn.params[j]? = some t → Tryd.pinned.checked.prog.wantsStandIn t = false := by
  obtain rfl : f = 3 := Option.some.inj ((show Tryd.prog.funcNamed "missive/missivelaw01.TextTells" = some 3 by kernel_rfl).symm.trans hf) |>.symm
  obtain rfl : fn = Tryd.f3 := (Option.some.inj (Tryd.func3.symm.trans hfn)).symm
  refine ⟨by kernel_rfl, fun j t ht => ?_⟩
  rw [Tryd.params3] at ht
  have hm : t ∈ [9, 9, 22, 3] := by simpa using Array.mem_of_getElem? ht
  have hall : ([9, 9, 22, 3].all fun u => !Tryd.prog.wantsStandIn u) = true := by kernel_rfl
  exact (show Tryd.prog.wantsStandIn t = false by simpa using List.all_eq_true.1 hall t hm)

theorem card : Rows.TextTellsUptoCardSaid :=
  Claim7.holds_tied_plain_at .later [] _ _ _ _ said (fun _ h => by cases h) (by kernel_rfl) (fun _ h => by cases h) textTellsUpto_row_tie rfl ⟨rfl, rfl⟩ (by kernel_rfl) rfl plain (by kernel_rfl)
end Go.Proofs.YtpigplnnmhjbkaaDoor.lawTells
