/-
  DERIVED. GIVEN WITH THE SEED: THE CARDS: each row of YtehnjoggilomfaaDoorRows.lean that lists a variable, with what it lists TIED to the program's text (the seventh form; the later family's looks); each row that meets fmt, with fmt's text TOLD by the authors' own Lean function (tested against real Go, not proved from fmt's source: count such statements apart). THE CARD IS WHAT COUNTS. Prove the row's statement (the work); the ties are given (YtehnjoggilomfaaDoorTie.lean); close each card by the builder's one call (the guide's Derived/Test/ToyasCard.lean, 'card_holds'). Laid BY PROGRAM, IN A SANDBOX (cutbox-door.mjs). By AI agents, Wed Nov 11 2026. No macro, syntax, notation, axiom, sorry.
-/
import Derived.Test.YtehnjoggilomfaaDoorRows
import GoSem.ClaimSeven
namespace Go.Proofs.YtehnjoggilomfaaDoor
namespace Rows

/-- THE TIED CARD OF 'missivelaw07.CodecBack'. -/
def codecBackCard : Claim7 := { stood := { row := codecBackRow, standIns := [], harness := (true, "d9e3471405a578ceda32141393c023dbc79f7d4a182dc2c832fb230fd51290ed"), looks := false }, kinds := [], alts := [], laidByText := true, laidKinds := [.data, .pinned], laidTests := true, laidLooks := .later }
def CodecBackCardSaid : Prop := Claim7.holds Tryd.pinned (.plain (OpenSpec.ofChange codecBackSpec)) codecBackCard

/-- THE TIED CARD OF 'missivelaw07.CodecLines'. -/
def codecLinesCard : Claim7 := { stood := { row := codecLinesRow, standIns := [], harness := (true, "d9e3471405a578ceda32141393c023dbc79f7d4a182dc2c832fb230fd51290ed"), looks := false }, kinds := [], alts := [], laidByText := true, laidKinds := [.data, .pinned], laidTests := true, laidLooks := .later }
def CodecLinesCardSaid : Prop := Claim7.holds Tryd.pinned (.plain (OpenSpec.ofChange codecLinesSpec)) codecLinesCard

/-- THE TIED CARD OF 'missivelaw07.CodecWhite'. -/
def codecWhiteCard : Claim7 := { stood := { row := codecWhiteRow, standIns := [], harness := (true, "d9e3471405a578ceda32141393c023dbc79f7d4a182dc2c832fb230fd51290ed"), looks := false }, kinds := [], alts := [], laidByText := true, laidKinds := [.data, .pinned], laidTests := true, laidLooks := .later }
def CodecWhiteCardSaid : Prop := Claim7.holds Tryd.pinned (.plain (OpenSpec.ofChange codecWhiteSpec)) codecWhiteCard

/-- THE TIED CARD OF 'missivelaw07.CodecParts'. -/
def codecPartsCard : Claim7 := { stood := { row := codecPartsRow, standIns := [], harness := (true, "d9e3471405a578ceda32141393c023dbc79f7d4a182dc2c832fb230fd51290ed"), looks := false }, kinds := [], alts := [], laidByText := true, laidKinds := [.data, .pinned], laidTests := true, laidLooks := .later }
def CodecPartsCardSaid : Prop := Claim7.holds Tryd.pinned (.plain (OpenSpec.ofChange codecPartsSpec)) codecPartsCard

/-- THE TIED CARD OF 'missivelaw07.CodecStays'. -/
def codecStaysCard : Claim7 := { stood := { row := codecStaysRow, standIns := [], harness := (true, "d9e3471405a578ceda32141393c023dbc79f7d4a182dc2c832fb230fd51290ed"), looks := false }, kinds := [], alts := [], laidByText := true, laidKinds := [.data, .pinned], laidTests := true, laidLooks := .later }
def CodecStaysCardSaid : Prop := Claim7.holds Tryd.pinned (.plain (OpenSpec.ofChange codecStaysSpec)) codecStaysCard

/-- THE SECOND FORM's CARD OF 'missivelaw07.CodecBack'. -/
def codecBackUptoCard : Claim7 := { stood := { row := codecBackUptoRow, standIns := [], harness := (true, "d9e3471405a578ceda32141393c023dbc79f7d4a182dc2c832fb230fd51290ed"), looks := false }, kinds := [], alts := [], laidByText := true, laidKinds := [.data, .pinned], laidTests := true, laidLooks := .later }
def CodecBackUptoCardSaid : Prop := Claim7.holds Tryd.pinned (.plain (OpenSpec.upto codecBackSpec)) codecBackUptoCard

/-- THE SECOND FORM's CARD OF 'missivelaw07.CodecLines'. -/
def codecLinesUptoCard : Claim7 := { stood := { row := codecLinesUptoRow, standIns := [], harness := (true, "d9e3471405a578ceda32141393c023dbc79f7d4a182dc2c832fb230fd51290ed"), looks := false }, kinds := [], alts := [], laidByText := true, laidKinds := [.data, .pinned], laidTests := true, laidLooks := .later }
def CodecLinesUptoCardSaid : Prop := Claim7.holds Tryd.pinned (.plain (OpenSpec.upto codecLinesSpec)) codecLinesUptoCard

/-- THE SECOND FORM's CARD OF 'missivelaw07.CodecWhite'. -/
def codecWhiteUptoCard : Claim7 := { stood := { row := codecWhiteUptoRow, standIns := [], harness := (true, "d9e3471405a578ceda32141393c023dbc79f7d4a182dc2c832fb230fd51290ed"), looks := false }, kinds := [], alts := [], laidByText := true, laidKinds := [.data, .pinned], laidTests := true, laidLooks := .later }
def CodecWhiteUptoCardSaid : Prop := Claim7.holds Tryd.pinned (.plain (OpenSpec.upto codecWhiteSpec)) codecWhiteUptoCard

/-- THE SECOND FORM's CARD OF 'missivelaw07.CodecParts'. -/
def codecPartsUptoCard : Claim7 := { stood := { row := codecPartsUptoRow, standIns := [], harness := (true, "d9e3471405a578ceda32141393c023dbc79f7d4a182dc2c832fb230fd51290ed"), looks := false }, kinds := [], alts := [], laidByText := true, laidKinds := [.data, .pinned], laidTests := true, laidLooks := .later }
def CodecPartsUptoCardSaid : Prop := Claim7.holds Tryd.pinned (.plain (OpenSpec.upto codecPartsSpec)) codecPartsUptoCard

/-- THE SECOND FORM's CARD OF 'missivelaw07.CodecStays'. -/
def codecStaysUptoCard : Claim7 := { stood := { row := codecStaysUptoRow, standIns := [], harness := (true, "d9e3471405a578ceda32141393c023dbc79f7d4a182dc2c832fb230fd51290ed"), looks := false }, kinds := [], alts := [], laidByText := true, laidKinds := [.data, .pinned], laidTests := true, laidLooks := .later }
def CodecStaysUptoCardSaid : Prop := Claim7.holds Tryd.pinned (.plain (OpenSpec.upto codecStaysSpec)) codecStaysUptoCard
end Rows
end Go.Proofs.YtehnjoggilomfaaDoor
