/-
  DERIVED. GIVEN WITH THE SEED: THE CARDS: each row of YtbpodclodflgfaaDoorRows.lean that lists a variable, with what it lists TIED to the program's text (the seventh form; the later family's looks); each row that meets fmt, with fmt's text TOLD by the authors' own Lean function (tested against real Go, not proved from fmt's source: count such statements apart). THE CARD IS WHAT COUNTS. Prove the row's statement (the work); the ties are given (YtbpodclodflgfaaDoorTie.lean); close each card by the builder's one call (the guide's Derived/Test/ToyasCard.lean, 'card_holds'). Laid BY PROGRAM, IN A SANDBOX (cutbox-door.mjs). By AI agents, Wed Nov 11 2026. No macro, syntax, notation, axiom, sorry.
-/
import Derived.Test.YtbpodclodflgfaaDoorRows
import GoSem.ClaimSeven
namespace Go.Proofs.YtbpodclodflgfaaDoor
namespace Rows

/-- THE TIED CARD OF 'missivelaw06.JournalTells'. -/
def journalTellsCard : Claim7 := { stood := { row := journalTellsRow, standIns := [], harness := (true, "dfa8e0f9ecd043df8efd5518dd22f2840c4cd684f9a01edd97f35306d876d85b"), looks := false }, kinds := [], alts := [], laidByText := true, laidKinds := [.data], laidTests := true, laidLooks := .later }
def JournalTellsCardSaid : Prop := Claim7.holds Tryd.pinned (.plain (OpenSpec.ofChange journalTellsSpec)) journalTellsCard

/-- THE TIED CARD OF 'missivelaw06.JournalLasts'. -/
def journalLastsCard : Claim7 := { stood := { row := journalLastsRow, standIns := [], harness := (true, "dfa8e0f9ecd043df8efd5518dd22f2840c4cd684f9a01edd97f35306d876d85b"), looks := false }, kinds := [], alts := [], laidByText := true, laidKinds := [.data], laidTests := true, laidLooks := .later }
def JournalLastsCardSaid : Prop := Claim7.holds Tryd.pinned (.plain (OpenSpec.ofChange journalLastsSpec)) journalLastsCard

/-- THE TIED CARD OF 'missivelaw06.JournalLists'. -/
def journalListsCard : Claim7 := { stood := { row := journalListsRow, standIns := [], harness := (true, "dfa8e0f9ecd043df8efd5518dd22f2840c4cd684f9a01edd97f35306d876d85b"), looks := false }, kinds := [], alts := [], laidByText := true, laidKinds := [.data], laidTests := true, laidLooks := .later }
def JournalListsCardSaid : Prop := Claim7.holds Tryd.pinned (.plain (OpenSpec.ofChange journalListsSpec)) journalListsCard

/-- THE TIED CARD OF 'missivelaw06.JournalForms'. -/
def journalFormsCard : Claim7 := { stood := { row := journalFormsRow, standIns := [], harness := (true, "dfa8e0f9ecd043df8efd5518dd22f2840c4cd684f9a01edd97f35306d876d85b"), looks := false }, kinds := [], alts := [], laidByText := true, laidKinds := [.data], laidTests := true, laidLooks := .later }
def JournalFormsCardSaid : Prop := Claim7.holds Tryd.pinned (.plain (OpenSpec.ofChange journalFormsSpec)) journalFormsCard

/-- THE TIED CARD OF 'missivelaw06.JournalSpoils'. -/
def journalSpoilsCard : Claim7 := { stood := { row := journalSpoilsRow, standIns := [], harness := (true, "dfa8e0f9ecd043df8efd5518dd22f2840c4cd684f9a01edd97f35306d876d85b"), looks := false }, kinds := [], alts := [], laidByText := true, laidKinds := [.data], laidTests := true, laidLooks := .later }
def JournalSpoilsCardSaid : Prop := Claim7.holds Tryd.pinned (.plain (OpenSpec.ofChange journalSpoilsSpec)) journalSpoilsCard

/-- THE TIED CARD OF 'missivelaw06.JournalTurns'. -/
def journalTurnsCard : Claim7 := { stood := { row := journalTurnsRow, standIns := [], harness := (true, "dfa8e0f9ecd043df8efd5518dd22f2840c4cd684f9a01edd97f35306d876d85b"), looks := false }, kinds := [], alts := [], laidByText := true, laidKinds := [.data], laidTests := true, laidLooks := .later }
def JournalTurnsCardSaid : Prop := Claim7.holds Tryd.pinned (.plain (OpenSpec.ofChange journalTurnsSpec)) journalTurnsCard

/-- THE SECOND FORM's CARD OF 'missivelaw06.JournalTells'. -/
def journalTellsUptoCard : Claim7 := { stood := { row := journalTellsUptoRow, standIns := [], harness := (true, "dfa8e0f9ecd043df8efd5518dd22f2840c4cd684f9a01edd97f35306d876d85b"), looks := false }, kinds := [], alts := [], laidByText := true, laidKinds := [.data], laidTests := true, laidLooks := .later }
def JournalTellsUptoCardSaid : Prop := Claim7.holds Tryd.pinned (.plain (OpenSpec.upto journalTellsSpec)) journalTellsUptoCard

/-- THE SECOND FORM's CARD OF 'missivelaw06.JournalLasts'. -/
def journalLastsUptoCard : Claim7 := { stood := { row := journalLastsUptoRow, standIns := [], harness := (true, "dfa8e0f9ecd043df8efd5518dd22f2840c4cd684f9a01edd97f35306d876d85b"), looks := false }, kinds := [], alts := [], laidByText := true, laidKinds := [.data], laidTests := true, laidLooks := .later }
def JournalLastsUptoCardSaid : Prop := Claim7.holds Tryd.pinned (.plain (OpenSpec.upto journalLastsSpec)) journalLastsUptoCard

/-- THE SECOND FORM's CARD OF 'missivelaw06.JournalLists'. -/
def journalListsUptoCard : Claim7 := { stood := { row := journalListsUptoRow, standIns := [], harness := (true, "dfa8e0f9ecd043df8efd5518dd22f2840c4cd684f9a01edd97f35306d876d85b"), looks := false }, kinds := [], alts := [], laidByText := true, laidKinds := [.data], laidTests := true, laidLooks := .later }
def JournalListsUptoCardSaid : Prop := Claim7.holds Tryd.pinned (.plain (OpenSpec.upto journalListsSpec)) journalListsUptoCard

/-- THE SECOND FORM's CARD OF 'missivelaw06.JournalForms'. -/
def journalFormsUptoCard : Claim7 := { stood := { row := journalFormsUptoRow, standIns := [], harness := (true, "dfa8e0f9ecd043df8efd5518dd22f2840c4cd684f9a01edd97f35306d876d85b"), looks := false }, kinds := [], alts := [], laidByText := true, laidKinds := [.data], laidTests := true, laidLooks := .later }
def JournalFormsUptoCardSaid : Prop := Claim7.holds Tryd.pinned (.plain (OpenSpec.upto journalFormsSpec)) journalFormsUptoCard

/-- THE SECOND FORM's CARD OF 'missivelaw06.JournalSpoils'. -/
def journalSpoilsUptoCard : Claim7 := { stood := { row := journalSpoilsUptoRow, standIns := [], harness := (true, "dfa8e0f9ecd043df8efd5518dd22f2840c4cd684f9a01edd97f35306d876d85b"), looks := false }, kinds := [], alts := [], laidByText := true, laidKinds := [.data], laidTests := true, laidLooks := .later }
def JournalSpoilsUptoCardSaid : Prop := Claim7.holds Tryd.pinned (.plain (OpenSpec.upto journalSpoilsSpec)) journalSpoilsUptoCard

/-- THE SECOND FORM's CARD OF 'missivelaw06.JournalTurns'. -/
def journalTurnsUptoCard : Claim7 := { stood := { row := journalTurnsUptoRow, standIns := [], harness := (true, "dfa8e0f9ecd043df8efd5518dd22f2840c4cd684f9a01edd97f35306d876d85b"), looks := false }, kinds := [], alts := [], laidByText := true, laidKinds := [.data], laidTests := true, laidLooks := .later }
def JournalTurnsUptoCardSaid : Prop := Claim7.holds Tryd.pinned (.plain (OpenSpec.upto journalTurnsSpec)) journalTurnsUptoCard
end Rows
end Go.Proofs.YtbpodclodflgfaaDoor
