/-
  DERIVED. GIVEN WITH THE SEED: THE CARDS: each row of YtdkocjdhekomoaaGreatDoorRows.lean that lists a variable, with what it lists TIED to the program's text (the seventh form; the later family's looks); each row that meets fmt, with fmt's text TOLD by the authors' own Lean function (tested against real Go, not proved from fmt's source: count such statements apart). THE CARD IS WHAT COUNTS. Prove the row's statement (the work); the ties are given (YtdkocjdhekomoaaGreatDoorTie.lean); close each card by the builder's one call (the guide's Derived/Test/ToyasCard.lean, 'card_holds'). Laid BY PROGRAM, IN A SANDBOX (cutbox-door.mjs). By AI agents, Wed Nov 11 2026. No macro, syntax, notation, axiom, sorry.
-/
import Derived.Test.YtdkocjdhekomoaaGreatDoorRows
import GoSem.ClaimSeven
namespace Go.Proofs.YtdkocjdhekomoaaGreatDoor
namespace Rows

/-- THE TIED CARD OF 'missivelaw08.CharsetTells'. -/
def charsetTellsCard : Claim7 := { stood := { row := charsetTellsRow, standIns := [], harness := (true, "72e449d8c39910fe7966e23d3758a020e57e58b8462c9c3f9d90faadcd4a2e00"), looks := true }, kinds := [], alts := [], laidByText := true, laidKinds := [.data, .data, .data, .data, .sentinel, .sentinel, .data, .pinned], laidTests := true, laidLooks := .later }
def CharsetTellsCardSaid : Prop := Claim7.holds Tryz.pinned (.plain (OpenSpec.ofChange charsetTellsSpec)) charsetTellsCard

/-- THE TIED CARD OF 'missivelaw08.CharsetRepairs'. -/
def charsetRepairsCard : Claim7 := { stood := { row := charsetRepairsRow, standIns := [], harness := (true, "72e449d8c39910fe7966e23d3758a020e57e58b8462c9c3f9d90faadcd4a2e00"), looks := true }, kinds := [], alts := [], laidByText := true, laidKinds := [.data, .data, .data, .data, .sentinel, .sentinel, .data, .pinned], laidTests := true, laidLooks := .later }
def CharsetRepairsCardSaid : Prop := Claim7.holds Tryz.pinned (.plain (OpenSpec.ofChange charsetRepairsSpec)) charsetRepairsCard

/-- THE TIED CARD OF 'missivelaw08.CharsetSingles'. -/
def charsetSinglesCard : Claim7 := { stood := { row := charsetSinglesRow, standIns := [], harness := (true, "72e449d8c39910fe7966e23d3758a020e57e58b8462c9c3f9d90faadcd4a2e00"), looks := true }, kinds := [], alts := [], laidByText := true, laidKinds := [.data, .data, .data, .data, .sentinel, .sentinel, .data, .pinned], laidTests := true, laidLooks := .later }
def CharsetSinglesCardSaid : Prop := Claim7.holds Tryz.pinned (.plain (OpenSpec.ofChange charsetSinglesSpec)) charsetSinglesCard

/-- THE TIED CARD OF 'missivelaw08.CharsetEncodes'. -/
def charsetEncodesCard : Claim7 := { stood := { row := charsetEncodesRow, standIns := [], harness := (true, "72e449d8c39910fe7966e23d3758a020e57e58b8462c9c3f9d90faadcd4a2e00"), looks := true }, kinds := [], alts := [], laidByText := true, laidKinds := [.data, .data, .data, .data, .sentinel, .sentinel, .data, .pinned], laidTests := true, laidLooks := .later }
def CharsetEncodesCardSaid : Prop := Claim7.holds Tryz.pinned (.plain (OpenSpec.ofChange charsetEncodesSpec)) charsetEncodesCard

/-- THE TIED CARD OF 'missivelaw08.CharsetMeans'. -/
def charsetMeansCard : Claim7 := { stood := { row := charsetMeansRow, standIns := [], harness := (true, "72e449d8c39910fe7966e23d3758a020e57e58b8462c9c3f9d90faadcd4a2e00"), looks := true }, kinds := [], alts := [], laidByText := true, laidKinds := [.data, .data, .data, .data, .sentinel, .sentinel, .data, .pinned], laidTests := true, laidLooks := .later }
def CharsetMeansCardSaid : Prop := Claim7.holds Tryz.pinned (.plain (OpenSpec.ofChange charsetMeansSpec)) charsetMeansCard

/-- THE TIED CARD OF 'missivelaw08.CharsetKeeps'. -/
def charsetKeepsCard : Claim7 := { stood := { row := charsetKeepsRow, standIns := [], harness := (true, "72e449d8c39910fe7966e23d3758a020e57e58b8462c9c3f9d90faadcd4a2e00"), looks := true }, kinds := [], alts := [], laidByText := true, laidKinds := [.data, .data, .data, .data, .sentinel, .sentinel, .data, .pinned], laidTests := true, laidLooks := .later }
def CharsetKeepsCardSaid : Prop := Claim7.holds Tryz.pinned (.plain (OpenSpec.ofChange charsetKeepsSpec)) charsetKeepsCard

/-- THE SECOND FORM's CARD OF 'missivelaw08.CharsetTells'. -/
def charsetTellsUptoCard : Claim7 := { stood := { row := charsetTellsUptoRow, standIns := [], harness := (true, "72e449d8c39910fe7966e23d3758a020e57e58b8462c9c3f9d90faadcd4a2e00"), looks := true }, kinds := [], alts := [], laidByText := true, laidKinds := [.data, .data, .data, .data, .sentinel, .sentinel, .data, .pinned], laidTests := true, laidLooks := .later }
def CharsetTellsUptoCardSaid : Prop := Claim7.holds Tryz.pinned (.plain (OpenSpec.upto charsetTellsSpec)) charsetTellsUptoCard

/-- THE SECOND FORM's CARD OF 'missivelaw08.CharsetRepairs'. -/
def charsetRepairsUptoCard : Claim7 := { stood := { row := charsetRepairsUptoRow, standIns := [], harness := (true, "72e449d8c39910fe7966e23d3758a020e57e58b8462c9c3f9d90faadcd4a2e00"), looks := true }, kinds := [], alts := [], laidByText := true, laidKinds := [.data, .data, .data, .data, .sentinel, .sentinel, .data, .pinned], laidTests := true, laidLooks := .later }
def CharsetRepairsUptoCardSaid : Prop := Claim7.holds Tryz.pinned (.plain (OpenSpec.upto charsetRepairsSpec)) charsetRepairsUptoCard

/-- THE SECOND FORM's CARD OF 'missivelaw08.CharsetSingles'. -/
def charsetSinglesUptoCard : Claim7 := { stood := { row := charsetSinglesUptoRow, standIns := [], harness := (true, "72e449d8c39910fe7966e23d3758a020e57e58b8462c9c3f9d90faadcd4a2e00"), looks := true }, kinds := [], alts := [], laidByText := true, laidKinds := [.data, .data, .data, .data, .sentinel, .sentinel, .data, .pinned], laidTests := true, laidLooks := .later }
def CharsetSinglesUptoCardSaid : Prop := Claim7.holds Tryz.pinned (.plain (OpenSpec.upto charsetSinglesSpec)) charsetSinglesUptoCard

/-- THE SECOND FORM's CARD OF 'missivelaw08.CharsetEncodes'. -/
def charsetEncodesUptoCard : Claim7 := { stood := { row := charsetEncodesUptoRow, standIns := [], harness := (true, "72e449d8c39910fe7966e23d3758a020e57e58b8462c9c3f9d90faadcd4a2e00"), looks := true }, kinds := [], alts := [], laidByText := true, laidKinds := [.data, .data, .data, .data, .sentinel, .sentinel, .data, .pinned], laidTests := true, laidLooks := .later }
def CharsetEncodesUptoCardSaid : Prop := Claim7.holds Tryz.pinned (.plain (OpenSpec.upto charsetEncodesSpec)) charsetEncodesUptoCard

/-- THE SECOND FORM's CARD OF 'missivelaw08.CharsetMeans'. -/
def charsetMeansUptoCard : Claim7 := { stood := { row := charsetMeansUptoRow, standIns := [], harness := (true, "72e449d8c39910fe7966e23d3758a020e57e58b8462c9c3f9d90faadcd4a2e00"), looks := true }, kinds := [], alts := [], laidByText := true, laidKinds := [.data, .data, .data, .data, .sentinel, .sentinel, .data, .pinned], laidTests := true, laidLooks := .later }
def CharsetMeansUptoCardSaid : Prop := Claim7.holds Tryz.pinned (.plain (OpenSpec.upto charsetMeansSpec)) charsetMeansUptoCard

/-- THE SECOND FORM's CARD OF 'missivelaw08.CharsetKeeps'. -/
def charsetKeepsUptoCard : Claim7 := { stood := { row := charsetKeepsUptoRow, standIns := [], harness := (true, "72e449d8c39910fe7966e23d3758a020e57e58b8462c9c3f9d90faadcd4a2e00"), looks := true }, kinds := [], alts := [], laidByText := true, laidKinds := [.data, .data, .data, .data, .sentinel, .sentinel, .data, .pinned], laidTests := true, laidLooks := .later }
def CharsetKeepsUptoCardSaid : Prop := Claim7.holds Tryz.pinned (.plain (OpenSpec.upto charsetKeepsSpec)) charsetKeepsUptoCard
end Rows
end Go.Proofs.YtdkocjdhekomoaaGreatDoor
