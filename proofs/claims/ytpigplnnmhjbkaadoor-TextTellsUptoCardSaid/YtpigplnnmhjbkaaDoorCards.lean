/-
  DERIVED. GIVEN WITH THE SEED: THE CARDS: each row of YtpigplnnmhjbkaaDoorRows.lean that lists a variable, with what it lists TIED to the program's text (the seventh form; the later family's looks); each row that meets fmt, with fmt's text TOLD by the authors' own Lean function (tested against real Go, not proved from fmt's source: count such statements apart). THE CARD IS WHAT COUNTS. Prove the row's statement (the work); the ties are given (YtpigplnnmhjbkaaDoorTie.lean); close each card by the builder's one call (the guide's Derived/Test/ToyasCard.lean, 'card_holds'). Laid BY PROGRAM, IN A SANDBOX (cutbox-door.mjs). By AI agents, Wed Nov 11 2026. No macro, syntax, notation, axiom, sorry.
-/
import Derived.Test.YtpigplnnmhjbkaaDoorRows
import GoSem.ClaimSeven
namespace Go.Proofs.YtpigplnnmhjbkaaDoor
namespace Rows

/-- THE TIED CARD OF 'missivelaw01.TextTells'. -/
def textTellsCard : Claim7 := { stood := { row := textTellsRow, standIns := [], harness := (true, "3fbb3a3e5099a85e128b2ee075a8375c3b769be3d06b6435e4856227d11ce7ce"), looks := false }, kinds := [], alts := [], laidByText := true, laidKinds := [.data, .data, .data, .data, .pinned], laidTests := true, laidLooks := .later }
def TextTellsCardSaid : Prop := Claim7.holds Tryd.pinned (.plain (OpenSpec.ofChange textTellsSpec)) textTellsCard

/-- THE TIED CARD OF 'missivelaw01.TextCases'. -/
def textCasesCard : Claim7 := { stood := { row := textCasesRow, standIns := [], harness := (true, "3fbb3a3e5099a85e128b2ee075a8375c3b769be3d06b6435e4856227d11ce7ce"), looks := false }, kinds := [], alts := [], laidByText := true, laidKinds := [.data, .pinned], laidTests := true, laidLooks := .later }
def TextCasesCardSaid : Prop := Claim7.holds Tryd.pinned (.plain (OpenSpec.ofChange textCasesSpec)) textCasesCard

/-- THE TIED CARD OF 'missivelaw01.TextWords'. -/
def textWordsCard : Claim7 := { stood := { row := textWordsRow, standIns := [], harness := (true, "3fbb3a3e5099a85e128b2ee075a8375c3b769be3d06b6435e4856227d11ce7ce"), looks := false }, kinds := [], alts := [], laidByText := true, laidKinds := [.data, .pinned], laidTests := true, laidLooks := .later }
def TextWordsCardSaid : Prop := Claim7.holds Tryd.pinned (.plain (OpenSpec.ofChange textWordsSpec)) textWordsCard

/-- THE TIED CARD OF 'missivelaw01.TextLines'. -/
def textLinesCard : Claim7 := { stood := { row := textLinesRow, standIns := [], harness := (true, "3fbb3a3e5099a85e128b2ee075a8375c3b769be3d06b6435e4856227d11ce7ce"), looks := false }, kinds := [], alts := [], laidByText := true, laidKinds := [.data, .pinned], laidTests := true, laidLooks := .later }
def TextLinesCardSaid : Prop := Claim7.holds Tryd.pinned (.plain (OpenSpec.ofChange textLinesSpec)) textLinesCard

/-- THE TIED CARD OF 'missivelaw01.TextNumbers'. -/
def textNumbersCard : Claim7 := { stood := { row := textNumbersRow, standIns := [], harness := (true, "3fbb3a3e5099a85e128b2ee075a8375c3b769be3d06b6435e4856227d11ce7ce"), looks := false }, kinds := [], alts := [], laidByText := true, laidKinds := [.data, .data, .data, .data, .pinned], laidTests := true, laidLooks := .later }
def TextNumbersCardSaid : Prop := Claim7.holds Tryd.pinned (.plain (OpenSpec.ofChange textNumbersSpec)) textNumbersCard

/-- THE TIED CARD OF 'missivelaw01.TextGlobs'. -/
def textGlobsCard : Claim7 := { stood := { row := textGlobsRow, standIns := [], harness := (true, "3fbb3a3e5099a85e128b2ee075a8375c3b769be3d06b6435e4856227d11ce7ce"), looks := false }, kinds := [], alts := [], laidByText := true, laidKinds := [.data, .pinned], laidTests := true, laidLooks := .later }
def TextGlobsCardSaid : Prop := Claim7.holds Tryd.pinned (.plain (OpenSpec.ofChange textGlobsSpec)) textGlobsCard

/-- THE SECOND FORM's CARD OF 'missivelaw01.TextTells'. -/
def textTellsUptoCard : Claim7 := { stood := { row := textTellsUptoRow, standIns := [], harness := (true, "3fbb3a3e5099a85e128b2ee075a8375c3b769be3d06b6435e4856227d11ce7ce"), looks := false }, kinds := [], alts := [], laidByText := true, laidKinds := [.data, .data, .data, .data, .pinned], laidTests := true, laidLooks := .later }
def TextTellsUptoCardSaid : Prop := Claim7.holds Tryd.pinned (.plain (OpenSpec.upto textTellsSpec)) textTellsUptoCard

/-- THE SECOND FORM's CARD OF 'missivelaw01.TextCases'. -/
def textCasesUptoCard : Claim7 := { stood := { row := textCasesUptoRow, standIns := [], harness := (true, "3fbb3a3e5099a85e128b2ee075a8375c3b769be3d06b6435e4856227d11ce7ce"), looks := false }, kinds := [], alts := [], laidByText := true, laidKinds := [.data, .pinned], laidTests := true, laidLooks := .later }
def TextCasesUptoCardSaid : Prop := Claim7.holds Tryd.pinned (.plain (OpenSpec.upto textCasesSpec)) textCasesUptoCard

/-- THE SECOND FORM's CARD OF 'missivelaw01.TextWords'. -/
def textWordsUptoCard : Claim7 := { stood := { row := textWordsUptoRow, standIns := [], harness := (true, "3fbb3a3e5099a85e128b2ee075a8375c3b769be3d06b6435e4856227d11ce7ce"), looks := false }, kinds := [], alts := [], laidByText := true, laidKinds := [.data, .pinned], laidTests := true, laidLooks := .later }
def TextWordsUptoCardSaid : Prop := Claim7.holds Tryd.pinned (.plain (OpenSpec.upto textWordsSpec)) textWordsUptoCard

/-- THE SECOND FORM's CARD OF 'missivelaw01.TextLines'. -/
def textLinesUptoCard : Claim7 := { stood := { row := textLinesUptoRow, standIns := [], harness := (true, "3fbb3a3e5099a85e128b2ee075a8375c3b769be3d06b6435e4856227d11ce7ce"), looks := false }, kinds := [], alts := [], laidByText := true, laidKinds := [.data, .pinned], laidTests := true, laidLooks := .later }
def TextLinesUptoCardSaid : Prop := Claim7.holds Tryd.pinned (.plain (OpenSpec.upto textLinesSpec)) textLinesUptoCard

/-- THE SECOND FORM's CARD OF 'missivelaw01.TextNumbers'. -/
def textNumbersUptoCard : Claim7 := { stood := { row := textNumbersUptoRow, standIns := [], harness := (true, "3fbb3a3e5099a85e128b2ee075a8375c3b769be3d06b6435e4856227d11ce7ce"), looks := false }, kinds := [], alts := [], laidByText := true, laidKinds := [.data, .data, .data, .data, .pinned], laidTests := true, laidLooks := .later }
def TextNumbersUptoCardSaid : Prop := Claim7.holds Tryd.pinned (.plain (OpenSpec.upto textNumbersSpec)) textNumbersUptoCard

/-- THE SECOND FORM's CARD OF 'missivelaw01.TextGlobs'. -/
def textGlobsUptoCard : Claim7 := { stood := { row := textGlobsUptoRow, standIns := [], harness := (true, "3fbb3a3e5099a85e128b2ee075a8375c3b769be3d06b6435e4856227d11ce7ce"), looks := false }, kinds := [], alts := [], laidByText := true, laidKinds := [.data, .pinned], laidTests := true, laidLooks := .later }
def TextGlobsUptoCardSaid : Prop := Claim7.holds Tryd.pinned (.plain (OpenSpec.upto textGlobsSpec)) textGlobsUptoCard
end Rows
end Go.Proofs.YtpigplnnmhjbkaaDoor
