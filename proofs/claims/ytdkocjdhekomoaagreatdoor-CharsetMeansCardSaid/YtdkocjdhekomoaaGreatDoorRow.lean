/-
  The rows' common parts: a start that fits, what lies behind the call, the library's own variable.
-/
import Derived.Test.YtdkocjdhekomoaaGreatDoorCards
import Derived.Test.YtdkocjdhekomoaaGreatDoorTie
import Derived.Test.YtdkocjdhekomoaaGreatDoorHUtf
import Derived.WalkKit
import Derived.ProofKit
import Derived.OpenShut
import Derived.Deep.DeepHandedRow
import Derived.Lay
import Derived.Shelf.Vars
import Derived.LaidLaws
import Derived.LaidSub
import Derived.Stop.LaidErr
import Derived.Lib.LaidU8T
import Derived.PinnedBridge
import Derived.Lib.LaidTab
namespace Go.Proofs.YtdkocjdhekomoaaGreatDoor
open Go Go.ChangeShapes Go.WideShapes Go.ChangeAt Go.RowKit

theorem own : ownKnob Tryz.prog.godebug = none := by kernel_rfl

/-- A start that fits: the settled world with the listed tables laid. -/
theorem witness_laid {H : Type} {enc : TypeId × Value → H} {os : Os} {f : FuncId} {fn : Func} {s : OpenSpec} {conds : List PathCond} {apart : Bool} {laid : List (String × DataW Unit)} (w0 : World) (args : Array Value) (hos : w0.os = os)
    (hsh : (w0.forCall (fun _ _ => 0) ⟨#[], args, []⟩).Shaped Tryz.checked.prog)
    (hok : Input.okWideB Tryz.checked.prog (w0.forCall (fun _ _ => 0) ⟨#[], args, []⟩) f ⟨#[], args, []⟩ = true)
    (hrow : s.preRow enc Tryz.checked.prog fn conds apart laid (w0.forCall (fun _ _ => 0) ⟨#[], args, []⟩).memory args) :
    ∃ (w : World) (tape : Tape) (i : Input), w.os = os ∧ (w.forCall tape i).Shaped Tryz.checked.prog ∧ i.vars = [] ∧ Input.okWide Tryz.checked.prog (w.forCall tape i) .any w.heap.size f i ∧
      s.preRow enc Tryz.checked.prog fn conds apart laid (w.forCall tape i).memory i.args ∧ ({} : Assume).holds Tryz.checked.prog (lone (Frame.enter Tryz.checked.prog f i.args .normal) [] (w.forCall tape i)) :=
  ⟨w0, fun _ _ => 0, ⟨#[], args, []⟩, hos, hsh, (Input.okWide_of_okWideB (base := 0) hok).1, (Input.okWide_of_okWideB hok).2, hrow, by
    simp only [Assume.holds]
    exact ⟨by simp, by simp, fun _ => Modest.zero, by simp, by simp⟩⟩

theorem max_of_shape {W : World} (h : W.ShapedOpen Tryz.prog) : MaxAt W :=
  cell_of_shapedOpen_int (zero := #[.int .i64 0]) (t := 3) h (of_decide_eq_true (by kernel_rfl)) (by kernel_rfl) rfl (by kernel_rfl) (by kernel_rfl) Tryz.underlying3

/-- What every row of this seat lists. -/
def laidAll : List (String × DataW Unit) := [("math/bits.deBruijn32tab", Rows.laid_math_bits_deBruijn32tab), ("math/bits.deBruijn64tab", Rows.laid_math_bits_deBruijn64tab), ("internal/strconv.uint64pow10", Rows.laid_internal_strconv_uint64pow10), ("unicode/utf8.acceptRanges", Rows.laid_unicode_utf8_acceptRanges), ("strconv.ErrRange", Rows.laid_strconv_ErrRange), ("strconv.ErrSyntax", Rows.laid_strconv_ErrSyntax), ("missive/charset.windows1252", Rows.laid_missive_charset_windows1252), ("unicode/utf8.first", Rows.laid_unicode_utf8_first)]
theorem u8x : U8Extra Tryz.prog Tryz.lays196_ren := ⟨by kernel_rfl, by kernel_rfl, by kernel_rfl, by kernel_rfl, by kernel_rfl, by kernel_rfl, by kernel_rfl⟩
theorem win_data : (Rows.laid_missive_charset_windows1252 : DataW Unit) = Lib.tabData .i32 (Ch.win.map fun x : Nat => (x : Int)) := by kernel_rfl
def db64 : List Int := [0, 1, 56, 2, 57, 49, 28, 3, 61, 58, 42, 50, 38, 29, 17, 4, 62, 47, 59, 36, 45, 43, 51, 22, 53, 39, 33, 30, 24, 18, 12, 5, 63, 55, 48, 27, 60, 41, 37, 16, 46, 35, 44, 21, 52, 32, 23, 11, 54, 26, 40, 15, 34, 20, 31, 10, 25, 14, 19, 9, 13, 8, 7, 6]
theorem db_data : (Rows.laid_math_bits_deBruijn64tab : DataW Unit) = Lib.tabData .u8 db64 := by kernel_rfl
theorem star : "*" ++ "errors.errorString" = "*errors.errorString" := by decide
theorem row_err (u : TypeId) (h : Tryz.prog.typeName? 3 u = some "*errors.errorString") : u = 130 :=
  typeName_ptr_named (nm := "errors.errorString") (by rw [star]; kernel_rfl) (by kernel_rfl) (by decide) u (by rw [star]; exact h)
theorem env_of {W : World} (h0 : laidMetH Tryz.prog laidAll W) (hsh : W.ShapedOpen Tryz.prog) : EnvH W := by
  have h : laidMet Tryz.prog laidAll W := by
    rw [← MakeChecks.laidMetH_plain _ _ _ (by kernel_rfl)]; exact h0
  have hw : ∀ j, j < 32 → W.cell? ⟨0, j, none⟩ = some (.int .i32 (Ch.win.getD j 0 : Nat)) := by
    have h1 : laidMet Tryz.prog [("missive/charset.windows1252", Lib.tabData .i32 (Ch.win.map fun x : Nat => (x : Int)))] W := by
      have := h.filter (fun x => x.1 == "missive/charset.windows1252")
      rwa [show (laidAll.filter fun x => x.1 == "missive/charset.windows1252") = [("missive/charset.windows1252", Lib.tabData .i32 (Ch.win.map fun x : Nat => (x : Int)))] from by rw [← win_data]; rfl] at this
    have h2 := Lib.tabIs_of_head (g := 0) (t := 60) (e := 21) (by kernel_rfl) (by kernel_rfl) Tryz.underlying60 Tryz.underlying21 (by kernel_rfl) (by kernel_rfl) h1
    intro j hj
    have hj' : j < Ch.win.length := hj
    have h3 := h2.cell (g := 0) (by kernel_rfl) j (by rw [List.length_map]; exact hj')
    rw [h3]
    simp [hj']
  have hu := utf8Tabs_of_readsT (U8Types.of196 Tryz.lays196) u8x (Go.Lib.laidMet.reads h (n := "unicode/utf8.first") (d := Go.Lib.firstData) (by rw [← Pinned.utf8First_eq]; simp [laidAll, Rows.laid_unicode_utf8_first])) (Go.Lib.laidMet.reads h (n := "unicode/utf8.acceptRanges") (d := Go.Lib.acceptData) (by
      have : (Rows.laid_unicode_utf8_acceptRanges : DataW Unit) = Go.Lib.acceptData := by kernel_rfl
      rw [← this]; simp [laidAll]))
  have hs : laidMet Tryz.prog [("strconv.ErrSyntax", Rows.laid_strconv_ErrSyntax)] W := by
    have := h.filter (fun x => x.1 == "strconv.ErrSyntax")
    rwa [show (laidAll.filter fun x => x.1 == "strconv.ErrSyntax") = [("strconv.ErrSyntax", Rows.laid_strconv_ErrSyntax)] from rfl] at this
  have hmx := max_of_shape hsh
  obtain ⟨a, s, hv, _⟩ := laid_sentinel (P := Tryz.prog) (g := 4) (ti := 42) (tp := 130) (te := 132) (ts := 9) hs (by kernel_rfl) (by kernel_rfl) Tryz.underlying42 row_err
    Tryz.underlying130 Tryz.underlying132 rfl rfl Tryz.underlying9 (by kernel_rfl) (by kernel_rfl)
  have hcell := World.var?_cell (P := Tryz.prog) (show Tryz.prog.globalNamed "strconv.ErrSyntax" = some 4 by kernel_rfl) hv 0
  have h64 : laidMet Tryz.prog [("math/bits.deBruijn64tab", Lib.tabData .u8 db64)] W := by
    have := h.filter (fun x => x.1 == "math/bits.deBruijn64tab")
    rwa [show (laidAll.filter fun x => x.1 == "math/bits.deBruijn64tab") = [("math/bits.deBruijn64tab", Lib.tabData .u8 db64)] from by rw [← db_data]; rfl] at this
  have h2 := Lib.tabIs_of_head (g := 8) (t := 145) (e := 5) (by kernel_rfl) (by kernel_rfl) Tryz.underlying145 Tryz.underlying5 (by kernel_rfl) (by kernel_rfl) h64
  have h3 := h2.cell (g := 8) (by kernel_rfl) 0 (by decide)
  refine ⟨hu, hw, hmx, ⟨_, hcell, .inr ⟨_, _, rfl⟩⟩, ?_⟩
  have hlt : ¬ W.heap.size ≤ 8 := fun hle => by
    have hn : W.heap[8]? = none := Array.getElem?_eq_none hle
    simp [World.cell?, hn] at h3
  omega

section
variable {H : Type} {enc : TypeId × Value → H} {P : Program}
/-- The row's last step where the call made memory of its own and left all other memory as it was: one result, its arguments read as before. -/
theorem post_kept {f : Func} {s : ChangeSpec} {apart fresh handsOn again : Bool} {W W' : World} {args : Array Value} {v : Value} {ds gs : List (DataW H)} {before pa pv : List MemPlace}
    (hW : DataW.Whole enc P f.params.toList s.vars apart W args.toList ds gs before)
    (hres : ∀ (b : Nat) (sp : Nat → Bool) (hd : Bool), DataW.TrodAll enc P W' b sp hd f.resultTypes.toList (v.resultList f.resultTypes.size) (s.fn H (ds ++ gs)).results [])
    (hargs : ∀ sp : Nat → Bool, (∀ p ∈ before, sp p.block = true) → DataW.TrodAll enc P W' 0 sp true f.params.toList args.toList (s.fn H (ds ++ gs)).args pa)
    (hvars : ∀ sp : Nat → Bool, (∀ p ∈ before, sp p.block = true) → DataW.TrodVars enc P W' sp s.vars (s.fn H (ds ++ gs)).vars pv)
    (hps : before = pa ++ pv) (hb : Below W.heap.size W W')
    (hok : ∀ (j : Nat) (t : TypeId) (r : Value), f.resultTypes[j]? = some t → (v.resultList f.resultTypes.size)[j]? = some r → Value.okWide P W' .any 0 t r) :
    s.post enc P f apart fresh handsOn again W args v W' := by
  have hlt : ∀ p ∈ before, p.block < W.heap.size := fun p hp => hW.lt p hp
  have hold : ∀ p ∈ before, (fun b => decide (b < W.heap.size)) p.block = true := fun p hp => by simpa using hlt p hp
  refine ⟨ds, gs, before, [], pa, pv, hW, hres _ _ _, hargs _ hold, hvars _ hold, World.keptBut_mono (fun p hp => ⟨hp, ?_⟩) (hb.frame (· ∈ before)), fun _ => ?_⟩
  · rw [hps, List.mem_append] at hp
    exact Or.inr hp
  · obtain ⟨_, _, _, _, _, hz, hn⟩ := hW
    refine ⟨hok, _, _, ([] ++ pa) ++ pv, ⟨[] ++ pa, pv, trodAll_append (hargs _ (fun _ _ => rfl)) (hres _ _ _), hvars _ (fun _ _ => rfl), rfl, ?_, ?_⟩, ?_⟩
    · intro b off hp
      have hin : MemPlace.cell b off ∈ before := by rw [hps]; simpa using hp
      rw [hb.frozen (hlt _ hin)]
      exact hz b off hin
    · intro ha
      have := hn ha
      rw [hps] at this
      simpa using this
    · intro p hp _
      rw [hps]
      simpa using hp
end
end Go.Proofs.YtdkocjdhekomoaaGreatDoor
