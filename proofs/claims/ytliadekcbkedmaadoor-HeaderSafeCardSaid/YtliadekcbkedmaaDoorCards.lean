/-
  DERIVED. GIVEN WITH THE SEED: THE CARDS: each row of YtliadekcbkedmaaDoorRows.lean that lists a variable, with what it lists TIED to the program's text (the seventh form; the later family's looks); each row that meets fmt, with fmt's text TOLD by the authors' own Lean function (tested against real Go, not proved from fmt's source: count such statements apart). THE CARD IS WHAT COUNTS. Prove the row's statement (the work); the ties are given (YtliadekcbkedmaaDoorTie.lean); close each card by the builder's one call (the guide's Derived/Test/ToyasCard.lean, 'card_holds'). Laid BY PROGRAM, IN A SANDBOX (cutbox-door.mjs). By AI agents, Wed Nov 11 2026. No macro, syntax, notation, axiom, sorry.
-/
import Derived.Test.YtliadekcbkedmaaDoorRows
import GoSem.ClaimSeven
namespace Go.Proofs.YtliadekcbkedmaaDoor
namespace Rows

/-- THE TIED CARD OF 'missivelaw09.HeaderParams'. -/
def headerParamsCard : Claim7 := { stood := { row := headerParamsRow, standIns := [], harness := (true, "82b593ea30c82d79160e7aff9c3c597ed8069d3b6668b9c32f96fe099c9ed6f7"), looks := false }, kinds := [], alts := [], laidByText := true, laidKinds := [.data, .pinned], laidTests := true, laidLooks := .later }
def HeaderParamsCardSaid : Prop := Claim7.holds Tryd.pinned (.plain (OpenSpec.ofChange headerParamsSpec)) headerParamsCard

/-- THE TIED CARD OF 'missivelaw09.HeaderBack'. -/
def headerBackCard : Claim7 := { stood := { row := headerBackRow, standIns := [], harness := (true, "82b593ea30c82d79160e7aff9c3c597ed8069d3b6668b9c32f96fe099c9ed6f7"), looks := false }, kinds := [], alts := [], laidByText := true, laidKinds := [.data, .pinned], laidTests := true, laidLooks := .later }
def HeaderBackCardSaid : Prop := Claim7.holds Tryd.pinned (.plain (OpenSpec.ofChange headerBackSpec)) headerBackCard

/-- THE TIED CARD OF 'missivelaw09.HeaderSafe'. -/
def headerSafeCard : Claim7 := { stood := { row := headerSafeRow, standIns := [], harness := (true, "82b593ea30c82d79160e7aff9c3c597ed8069d3b6668b9c32f96fe099c9ed6f7"), looks := false }, kinds := [], alts := [], laidByText := true, laidKinds := [.data, .pinned], laidTests := true, laidLooks := .later }
def HeaderSafeCardSaid : Prop := Claim7.holds Tryd.pinned (.plain (OpenSpec.ofChange headerSafeSpec)) headerSafeCard

/-- THE TIED CARD OF 'missivelaw09.HeaderFolds'. -/
def headerFoldsCard : Claim7 := { stood := { row := headerFoldsRow, standIns := [], harness := (true, "82b593ea30c82d79160e7aff9c3c597ed8069d3b6668b9c32f96fe099c9ed6f7"), looks := false }, kinds := [], alts := [], laidByText := true, laidKinds := [.data, .pinned], laidTests := true, laidLooks := .later }
def HeaderFoldsCardSaid : Prop := Claim7.holds Tryd.pinned (.plain (OpenSpec.ofChange headerFoldsSpec)) headerFoldsCard

/-- THE TIED CARD OF 'missivelaw09.HeaderSets'. -/
def headerSetsCard : Claim7 := { stood := { row := headerSetsRow, standIns := [], harness := (true, "82b593ea30c82d79160e7aff9c3c597ed8069d3b6668b9c32f96fe099c9ed6f7"), looks := false }, kinds := [], alts := [], laidByText := true, laidKinds := [.data, .pinned], laidTests := true, laidLooks := .later }
def HeaderSetsCardSaid : Prop := Claim7.holds Tryd.pinned (.plain (OpenSpec.ofChange headerSetsSpec)) headerSetsCard

/-- THE TIED CARD OF 'missivelaw09.HeaderQuotes'. -/
def headerQuotesCard : Claim7 := { stood := { row := headerQuotesRow, standIns := [], harness := (true, "82b593ea30c82d79160e7aff9c3c597ed8069d3b6668b9c32f96fe099c9ed6f7"), looks := false }, kinds := [], alts := [], laidByText := true, laidKinds := [.data, .pinned], laidTests := true, laidLooks := .later }
def HeaderQuotesCardSaid : Prop := Claim7.holds Tryd.pinned (.plain (OpenSpec.ofChange headerQuotesSpec)) headerQuotesCard

/-- THE SECOND FORM's CARD OF 'missivelaw09.HeaderParams'. -/
def headerParamsUptoCard : Claim7 := { stood := { row := headerParamsUptoRow, standIns := [], harness := (true, "82b593ea30c82d79160e7aff9c3c597ed8069d3b6668b9c32f96fe099c9ed6f7"), looks := false }, kinds := [], alts := [], laidByText := true, laidKinds := [.data, .pinned], laidTests := true, laidLooks := .later }
def HeaderParamsUptoCardSaid : Prop := Claim7.holds Tryd.pinned (.plain (OpenSpec.upto headerParamsSpec)) headerParamsUptoCard

/-- THE SECOND FORM's CARD OF 'missivelaw09.HeaderBack'. -/
def headerBackUptoCard : Claim7 := { stood := { row := headerBackUptoRow, standIns := [], harness := (true, "82b593ea30c82d79160e7aff9c3c597ed8069d3b6668b9c32f96fe099c9ed6f7"), looks := false }, kinds := [], alts := [], laidByText := true, laidKinds := [.data, .pinned], laidTests := true, laidLooks := .later }
def HeaderBackUptoCardSaid : Prop := Claim7.holds Tryd.pinned (.plain (OpenSpec.upto headerBackSpec)) headerBackUptoCard

/-- THE SECOND FORM's CARD OF 'missivelaw09.HeaderSafe'. -/
def headerSafeUptoCard : Claim7 := { stood := { row := headerSafeUptoRow, standIns := [], harness := (true, "82b593ea30c82d79160e7aff9c3c597ed8069d3b6668b9c32f96fe099c9ed6f7"), looks := false }, kinds := [], alts := [], laidByText := true, laidKinds := [.data, .pinned], laidTests := true, laidLooks := .later }
def HeaderSafeUptoCardSaid : Prop := Claim7.holds Tryd.pinned (.plain (OpenSpec.upto headerSafeSpec)) headerSafeUptoCard

/-- THE SECOND FORM's CARD OF 'missivelaw09.HeaderFolds'. -/
def headerFoldsUptoCard : Claim7 := { stood := { row := headerFoldsUptoRow, standIns := [], harness := (true, "82b593ea30c82d79160e7aff9c3c597ed8069d3b6668b9c32f96fe099c9ed6f7"), looks := false }, kinds := [], alts := [], laidByText := true, laidKinds := [.data, .pinned], laidTests := true, laidLooks := .later }
def HeaderFoldsUptoCardSaid : Prop := Claim7.holds Tryd.pinned (.plain (OpenSpec.upto headerFoldsSpec)) headerFoldsUptoCard

/-- THE SECOND FORM's CARD OF 'missivelaw09.HeaderSets'. -/
def headerSetsUptoCard : Claim7 := { stood := { row := headerSetsUptoRow, standIns := [], harness := (true, "82b593ea30c82d79160e7aff9c3c597ed8069d3b6668b9c32f96fe099c9ed6f7"), looks := false }, kinds := [], alts := [], laidByText := true, laidKinds := [.data, .pinned], laidTests := true, laidLooks := .later }
def HeaderSetsUptoCardSaid : Prop := Claim7.holds Tryd.pinned (.plain (OpenSpec.upto headerSetsSpec)) headerSetsUptoCard

/-- THE SECOND FORM's CARD OF 'missivelaw09.HeaderQuotes'. -/
def headerQuotesUptoCard : Claim7 := { stood := { row := headerQuotesUptoRow, standIns := [], harness := (true, "82b593ea30c82d79160e7aff9c3c597ed8069d3b6668b9c32f96fe099c9ed6f7"), looks := false }, kinds := [], alts := [], laidByText := true, laidKinds := [.data, .pinned], laidTests := true, laidLooks := .later }
def HeaderQuotesUptoCardSaid : Prop := Claim7.holds Tryd.pinned (.plain (OpenSpec.upto headerQuotesSpec)) headerQuotesUptoCard
end Rows
end Go.Proofs.YtliadekcbkedmaaDoor
