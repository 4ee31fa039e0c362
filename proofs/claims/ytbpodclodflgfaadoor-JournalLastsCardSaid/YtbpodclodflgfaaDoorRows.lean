/-
  NARROWER THAN 'FOR EVERY INPUT', by the rows' own cells (each row's printed sentence says how): JournalTells: laid · JournalLasts: laid · JournalLists: laid · JournalForms: laid · JournalSpoils: laid · JournalTurns: laid.
  DERIVED. THE GIVEN ROWS OF THIS SEAT. 6 by the template 'for every input the law returns true; each argument reads behind the call as it read before'; 0 by the template 'total and deterministic' (their statements: YtbpodclodflgfaaDoorTotals.lean).
  GIVEN WITH THE SEED: the statements are not yours to turn. If you find one false, say at which input.
  Laid BY PROGRAM, IN A SANDBOX (cutbox-rows.mjs): the forced cells as the released guide's own fill.sh prints them over the translation 42d78bb1f2148876… (all of the seat's roots in one cut). By AI agents, Wed Nov 11 2026. No macro, syntax, notation, axiom, sorry.
-/
import Derived.Test.YtbpodclodflgfaaDoorChecked
import GoSem.Claim
import GoSem.ClaimJoined
import GoSem.ClaimMapViews
import Derived.JoinedTies
import Derived.KernelRfl
namespace Go.Proofs.YtbpodclodflgfaaDoor
/- THE CELL 'sum', in the pinned program and in every row, IS THE sha256 OF THE DUMP (.gsa) THAT YtbpodclodflgfaaDoorProg.lean LOADS. Nothing in Lean hashes anything: it is a label: what it is worth is what the hold of that sum in a sandbox is worth. -/
noncomputable def Tryd.pinned : Pinned := { name := "ytbpodclodflgfaadoor", sum := "42d78bb1f2148876e811114607ff0cc5efca2dcc9a8f2013453d182e0687d82e", checked := Tryd.checked }
namespace Rows
def none {H : Type} : Left H := { results := [], args := [] }

/- WHAT THE LISTED PACKAGE-LEVEL VARIABLES READ AS WHEN THE CALL BEGINS. Each datum BY PROGRAM (the guide's laid-datum.mjs) off the statement by which the dump's own 'gosem.cut.vars' lays the variable. In a bare row this is a premise. The card (YtbpodclodflgfaaDoorCards.lean) ties it to the program's text. -/
def laid_missive_digest_crcSteps {H : Type} : DataW H := .agg [.lit (.int .u32 0), .lit (.int .u32 498536548), .lit (.int .u32 997073096), .lit (.int .u32 651767980), .lit (.int .u32 1994146192), .lit (.int .u32 1802195444), .lit (.int .u32 1303535960), .lit (.int .u32 1342533948), .lit (.int .u32 3988292384), .lit (.int .u32 4027552580), .lit (.int .u32 3604390888), .lit (.int .u32 3412177804), .lit (.int .u32 2607071920), .lit (.int .u32 2262029012), .lit (.int .u32 2685067896), .lit (.int .u32 3183342108)]

/-- 'missivelaw06.JournalTells': WHATEVER THE INPUT: true; the input reads as it did. -/
def journalTellsSpec : ChangeSpec := { name := "journalTells", fn := fun _ => fun
  | [d1, d2] => { results := [.lit (.bool true)], args := [d1, d2] }
  | _ => none }
def journalTellsRow : OpenClaim := { program := "ytbpodclodflgfaadoor", sum := "42d78bb1f2148876e811114607ff0cc5efca2dcc9a8f2013453d182e0687d82e", func := "missive/missivelaw06.JournalTells", spec := "journalTells", inPlace := ["internal/abi.NoEscape"], unfollowed := true, recurses := true, named := ["missive/digest.crcSteps"], apart := false, laid := [("missive/digest.crcSteps", laid_missive_digest_crcSteps)] }
def JournalTellsSaid : Prop := journalTellsRow.holds Tryd.pinned (OpenSpec.ofChange journalTellsSpec)

/-- ITS FALSE NEIGHBOUR: 'it returns false'. Refute it at one input. -/
def journalTellsWrong : ChangeSpec := { name := "journalTells", fn := fun _ => fun
  | [d1, d2] => { results := [.lit (.bool false)], args := [d1, d2] }
  | _ => none }
def JournalTellsWrongFalsely : Prop := journalTellsRow.holds Tryd.pinned (OpenSpec.ofChange journalTellsWrong)

/-- 'missivelaw06.JournalLasts': WHATEVER THE INPUT: true; the input reads as it did. -/
def journalLastsSpec : ChangeSpec := { name := "journalLasts", fn := fun _ => fun
  | [d1, d2] => { results := [.lit (.bool true)], args := [d1, d2] }
  | _ => none }
def journalLastsRow : OpenClaim := { program := "ytbpodclodflgfaadoor", sum := "42d78bb1f2148876e811114607ff0cc5efca2dcc9a8f2013453d182e0687d82e", func := "missive/missivelaw06.JournalLasts", spec := "journalLasts", inPlace := ["internal/abi.NoEscape"], unfollowed := true, recurses := true, named := ["missive/digest.crcSteps"], apart := false, laid := [("missive/digest.crcSteps", laid_missive_digest_crcSteps)] }
def JournalLastsSaid : Prop := journalLastsRow.holds Tryd.pinned (OpenSpec.ofChange journalLastsSpec)

/-- ITS FALSE NEIGHBOUR: 'it returns false'. Refute it at one input. -/
def journalLastsWrong : ChangeSpec := { name := "journalLasts", fn := fun _ => fun
  | [d1, d2] => { results := [.lit (.bool false)], args := [d1, d2] }
  | _ => none }
def JournalLastsWrongFalsely : Prop := journalLastsRow.holds Tryd.pinned (OpenSpec.ofChange journalLastsWrong)

/-- 'missivelaw06.JournalLists': WHATEVER THE INPUT: true; the input reads as it did. -/
def journalListsSpec : ChangeSpec := { name := "journalLists", fn := fun _ => fun
  | [d] => { results := [.lit (.bool true)], args := [d] }
  | _ => none }
def journalListsRow : OpenClaim := { program := "ytbpodclodflgfaadoor", sum := "42d78bb1f2148876e811114607ff0cc5efca2dcc9a8f2013453d182e0687d82e", func := "missive/missivelaw06.JournalLists", spec := "journalLists", inPlace := ["internal/abi.NoEscape"], unfollowed := true, recurses := true, named := ["missive/digest.crcSteps"], apart := false, laid := [("missive/digest.crcSteps", laid_missive_digest_crcSteps)] }
def JournalListsSaid : Prop := journalListsRow.holds Tryd.pinned (OpenSpec.ofChange journalListsSpec)

/-- ITS FALSE NEIGHBOUR: 'it returns false'. Refute it at one input. -/
def journalListsWrong : ChangeSpec := { name := "journalLists", fn := fun _ => fun
  | [d] => { results := [.lit (.bool false)], args := [d] }
  | _ => none }
def JournalListsWrongFalsely : Prop := journalListsRow.holds Tryd.pinned (OpenSpec.ofChange journalListsWrong)

/-- 'missivelaw06.JournalForms': WHATEVER THE INPUT: true; the input reads as it did. -/
def journalFormsSpec : ChangeSpec := { name := "journalForms", fn := fun _ => fun
  | [d1, d2] => { results := [.lit (.bool true)], args := [d1, d2] }
  | _ => none }
def journalFormsRow : OpenClaim := { program := "ytbpodclodflgfaadoor", sum := "42d78bb1f2148876e811114607ff0cc5efca2dcc9a8f2013453d182e0687d82e", func := "missive/missivelaw06.JournalForms", spec := "journalForms", inPlace := ["internal/abi.NoEscape"], unfollowed := true, recurses := true, named := ["missive/digest.crcSteps"], apart := false, laid := [("missive/digest.crcSteps", laid_missive_digest_crcSteps)] }
def JournalFormsSaid : Prop := journalFormsRow.holds Tryd.pinned (OpenSpec.ofChange journalFormsSpec)

/-- ITS FALSE NEIGHBOUR: 'it returns false'. Refute it at one input. -/
def journalFormsWrong : ChangeSpec := { name := "journalForms", fn := fun _ => fun
  | [d1, d2] => { results := [.lit (.bool false)], args := [d1, d2] }
  | _ => none }
def JournalFormsWrongFalsely : Prop := journalFormsRow.holds Tryd.pinned (OpenSpec.ofChange journalFormsWrong)

/-- 'missivelaw06.JournalSpoils': WHATEVER THE INPUT: true; the input reads as it did. -/
def journalSpoilsSpec : ChangeSpec := { name := "journalSpoils", fn := fun _ => fun
  | [d1, d2, d3] => { results := [.lit (.bool true)], args := [d1, d2, d3] }
  | _ => none }
def journalSpoilsRow : OpenClaim := { program := "ytbpodclodflgfaadoor", sum := "42d78bb1f2148876e811114607ff0cc5efca2dcc9a8f2013453d182e0687d82e", func := "missive/missivelaw06.JournalSpoils", spec := "journalSpoils", inPlace := ["internal/abi.NoEscape"], unfollowed := true, recurses := true, named := ["missive/digest.crcSteps"], apart := false, laid := [("missive/digest.crcSteps", laid_missive_digest_crcSteps)] }
def JournalSpoilsSaid : Prop := journalSpoilsRow.holds Tryd.pinned (OpenSpec.ofChange journalSpoilsSpec)

/-- ITS FALSE NEIGHBOUR: 'it returns false'. Refute it at one input. -/
def journalSpoilsWrong : ChangeSpec := { name := "journalSpoils", fn := fun _ => fun
  | [d1, d2, d3] => { results := [.lit (.bool false)], args := [d1, d2, d3] }
  | _ => none }
def JournalSpoilsWrongFalsely : Prop := journalSpoilsRow.holds Tryd.pinned (OpenSpec.ofChange journalSpoilsWrong)

/-- 'missivelaw06.JournalTurns': WHATEVER THE INPUT: true; the input reads as it did. -/
def journalTurnsSpec : ChangeSpec := { name := "journalTurns", fn := fun _ => fun
  | [d1, d2, d3, d4] => { results := [.lit (.bool true)], args := [d1, d2, d3, d4] }
  | _ => none }
def journalTurnsRow : OpenClaim := { program := "ytbpodclodflgfaadoor", sum := "42d78bb1f2148876e811114607ff0cc5efca2dcc9a8f2013453d182e0687d82e", func := "missive/missivelaw06.JournalTurns", spec := "journalTurns", inPlace := ["internal/abi.NoEscape"], unfollowed := true, recurses := true, named := ["missive/digest.crcSteps"], apart := false, laid := [("missive/digest.crcSteps", laid_missive_digest_crcSteps)] }
def JournalTurnsSaid : Prop := journalTurnsRow.holds Tryd.pinned (OpenSpec.ofChange journalTurnsSpec)

/-- ITS FALSE NEIGHBOUR: 'it returns false'. Refute it at one input. -/
def journalTurnsWrong : ChangeSpec := { name := "journalTurns", fn := fun _ => fun
  | [d1, d2, d3, d4] => { results := [.lit (.bool false)], args := [d1, d2, d3, d4] }
  | _ => none }
def JournalTurnsWrongFalsely : Prop := journalTurnsRow.holds Tryd.pinned (OpenSpec.ofChange journalTurnsWrong)

/- THE SECOND FORM. 'bulk': how many values and letters a reading holds, each counted each time it is reached (what is shared counts as often as it is met; a slice's spare places count too). A statement '..UptoSaid' is the law's where the arguments, and the package variables that the reading takes, are together of bulk at most 1048576: NARROWER than '..Said'. Prove '..Said' where nothing that the law and all that it calls make is longer than what came in: it says more and counts as full. Else prove '..UptoSaid'. A law counts once. -/
mutual
def uptoBulk {H : Type} : DataW H → Nat
  | .lit (.string bytes) => bytes.length + 1
  | .lit _ => 1
  | .nil => 1
  | .ptr d => uptoBulk d + 1
  | .slice elems spare => uptoBulkAll elems + uptoBulkAll spare + 1
  | .agg parts => uptoBulkAll parts + 1
  | .iface _ d => uptoBulk d + 1
  | .map entries => uptoBulkEntries entries + 1
  | .held _ => 1
def uptoBulkAll {H : Type} : List (DataW H) → Nat
  | [] => 0
  | d :: r => uptoBulk d + uptoBulkAll r
def uptoBulkEntries {H : Type} : List (Lit × DataW H) → Nat
  | [] => 0
  | x :: r => uptoBulkEntry x + uptoBulkEntries r
def uptoBulkEntry {H : Type} : Lit × DataW H → Nat
  | (.string bytes, d) => bytes.length + uptoBulk d + 1
  | (_, d) => uptoBulk d + 1
 end
def uptoSmall : (H : Type) → List (DataW H) → Bool := fun _ ds => decide (uptoBulkAll ds ≤ 1048576)
def OpenSpec.upto (s : _root_.Go.ChangeSpec) : _root_.Go.OpenSpec := { _root_.Go.OpenSpec.ofChange s with cond := some uptoSmall }

/-- 'missivelaw06.JournalTells', WHERE WHAT IT READS IS OF BULK AT MOST 1048576: true; the input reads as it did. -/
def journalTellsUptoRow : OpenClaim := { program := "ytbpodclodflgfaadoor", sum := "42d78bb1f2148876e811114607ff0cc5efca2dcc9a8f2013453d182e0687d82e", func := "missive/missivelaw06.JournalTells", spec := "journalTells", inPlace := ["internal/abi.NoEscape"], unfollowed := true, recurses := true, named := ["missive/digest.crcSteps"], apart := false, laid := [("missive/digest.crcSteps", laid_missive_digest_crcSteps)], narrowed := true }
def JournalTellsUptoSaid : Prop := journalTellsUptoRow.holds Tryd.pinned (OpenSpec.upto journalTellsSpec)

/-- 'missivelaw06.JournalLasts', WHERE WHAT IT READS IS OF BULK AT MOST 1048576: true; the input reads as it did. -/
def journalLastsUptoRow : OpenClaim := { program := "ytbpodclodflgfaadoor", sum := "42d78bb1f2148876e811114607ff0cc5efca2dcc9a8f2013453d182e0687d82e", func := "missive/missivelaw06.JournalLasts", spec := "journalLasts", inPlace := ["internal/abi.NoEscape"], unfollowed := true, recurses := true, named := ["missive/digest.crcSteps"], apart := false, laid := [("missive/digest.crcSteps", laid_missive_digest_crcSteps)], narrowed := true }
def JournalLastsUptoSaid : Prop := journalLastsUptoRow.holds Tryd.pinned (OpenSpec.upto journalLastsSpec)

/-- 'missivelaw06.JournalLists', WHERE WHAT IT READS IS OF BULK AT MOST 1048576: true; the input reads as it did. -/
def journalListsUptoRow : OpenClaim := { program := "ytbpodclodflgfaadoor", sum := "42d78bb1f2148876e811114607ff0cc5efca2dcc9a8f2013453d182e0687d82e", func := "missive/missivelaw06.JournalLists", spec := "journalLists", inPlace := ["internal/abi.NoEscape"], unfollowed := true, recurses := true, named := ["missive/digest.crcSteps"], apart := false, laid := [("missive/digest.crcSteps", laid_missive_digest_crcSteps)], narrowed := true }
def JournalListsUptoSaid : Prop := journalListsUptoRow.holds Tryd.pinned (OpenSpec.upto journalListsSpec)

/-- 'missivelaw06.JournalForms', WHERE WHAT IT READS IS OF BULK AT MOST 1048576: true; the input reads as it did. -/
def journalFormsUptoRow : OpenClaim := { program := "ytbpodclodflgfaadoor", sum := "42d78bb1f2148876e811114607ff0cc5efca2dcc9a8f2013453d182e0687d82e", func := "missive/missivelaw06.JournalForms", spec := "journalForms", inPlace := ["internal/abi.NoEscape"], unfollowed := true, recurses := true, named := ["missive/digest.crcSteps"], apart := false, laid := [("missive/digest.crcSteps", laid_missive_digest_crcSteps)], narrowed := true }
def JournalFormsUptoSaid : Prop := journalFormsUptoRow.holds Tryd.pinned (OpenSpec.upto journalFormsSpec)

/-- 'missivelaw06.JournalSpoils', WHERE WHAT IT READS IS OF BULK AT MOST 1048576: true; the input reads as it did. -/
def journalSpoilsUptoRow : OpenClaim := { program := "ytbpodclodflgfaadoor", sum := "42d78bb1f2148876e811114607ff0cc5efca2dcc9a8f2013453d182e0687d82e", func := "missive/missivelaw06.JournalSpoils", spec := "journalSpoils", inPlace := ["internal/abi.NoEscape"], unfollowed := true, recurses := true, named := ["missive/digest.crcSteps"], apart := false, laid := [("missive/digest.crcSteps", laid_missive_digest_crcSteps)], narrowed := true }
def JournalSpoilsUptoSaid : Prop := journalSpoilsUptoRow.holds Tryd.pinned (OpenSpec.upto journalSpoilsSpec)

/-- 'missivelaw06.JournalTurns', WHERE WHAT IT READS IS OF BULK AT MOST 1048576: true; the input reads as it did. -/
def journalTurnsUptoRow : OpenClaim := { program := "ytbpodclodflgfaadoor", sum := "42d78bb1f2148876e811114607ff0cc5efca2dcc9a8f2013453d182e0687d82e", func := "missive/missivelaw06.JournalTurns", spec := "journalTurns", inPlace := ["internal/abi.NoEscape"], unfollowed := true, recurses := true, named := ["missive/digest.crcSteps"], apart := false, laid := [("missive/digest.crcSteps", laid_missive_digest_crcSteps)], narrowed := true }
def JournalTurnsUptoSaid : Prop := journalTurnsUptoRow.holds Tryd.pinned (OpenSpec.upto journalTurnsSpec)

end Rows
end Go.Proofs.YtbpodclodflgfaaDoor
