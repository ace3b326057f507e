/-
  DERIVED. GIVEN WITH THE SEED: THE CARDS: each row of YtcbkafbchpjnoaaGreatDoorRows.lean that lists a variable, with what it lists TIED to the program's text (the seventh form; the later family's looks); each row that meets fmt, with fmt's text TOLD by the authors' own Lean function (tested against real Go, not proved from fmt's source: count such statements apart). THE CARD IS WHAT COUNTS. Prove the row's statement (the work); the ties are given (YtcbkafbchpjnoaaGreatDoorTie.lean); close each card by the builder's one call (the guide's Derived/Test/ToyasCard.lean, 'card_holds'). Laid BY PROGRAM, IN A SANDBOX (cutbox-door.mjs). By AI agents, Wed Nov 11 2026. No macro, syntax, notation, axiom, sorry.
-/
import Derived.Test.YtcbkafbchpjnoaaGreatDoorRows
import GoSem.ClaimSeven
namespace Go.Proofs.YtcbkafbchpjnoaaGreatDoor
namespace Rows

/-- THE TIED CARD OF 'rowlocklaw24.CallsPrograms'. -/
def callsProgramsCard : Claim7 := { stood := { row := callsProgramsRow, standIns := [], harness := (true, "7e748f8ca9f2dabf980081df934d8e1db3f09fd7538f07b189675c3a10d2264d"), looks := true }, kinds := [], alts := [], laidByText := true, laidKinds := [.data, .data, .data, .sentinel, .sentinel, .data], laidTests := true, laidLooks := .later }
def CallsProgramsCardSaid : Prop := Claim7.holds Tryz.pinned (.plain (OpenSpec.ofChange callsProgramsSpec)) callsProgramsCard

/-- THE TIED CARD OF 'rowlocklaw24.CallsShapes'. -/
def callsShapesCard : Claim7 := { stood := { row := callsShapesRow, standIns := [], harness := (true, "7e748f8ca9f2dabf980081df934d8e1db3f09fd7538f07b189675c3a10d2264d"), looks := true }, kinds := [], alts := [], laidByText := true, laidKinds := [.data, .data, .data, .sentinel, .sentinel, .data], laidTests := true, laidLooks := .later }
def CallsShapesCardSaid : Prop := Claim7.holds Tryz.pinned (.plain (OpenSpec.ofChange callsShapesSpec)) callsShapesCard

/-- THE TIED CARD OF 'rowlocklaw24.CallsMay'. -/
def callsMayCard : Claim7 := { stood := { row := callsMayRow, standIns := [], harness := (true, "7e748f8ca9f2dabf980081df934d8e1db3f09fd7538f07b189675c3a10d2264d"), looks := true }, kinds := [], alts := [], laidByText := true, laidKinds := [.data, .data, .data, .sentinel, .sentinel, .data], laidTests := true, laidLooks := .later }
def CallsMayCardSaid : Prop := Claim7.holds Tryz.pinned (.plain (OpenSpec.ofChange callsMaySpec)) callsMayCard

/-- THE TIED CARD OF 'rowlocklaw24.CallsAlone'. -/
def callsAloneCard : Claim7 := { stood := { row := callsAloneRow, standIns := [], harness := (true, "7e748f8ca9f2dabf980081df934d8e1db3f09fd7538f07b189675c3a10d2264d"), looks := true }, kinds := [], alts := [], laidByText := true, laidKinds := [.data, .data, .data, .sentinel, .sentinel, .data], laidTests := true, laidLooks := .later }
def CallsAloneCardSaid : Prop := Claim7.holds Tryz.pinned (.plain (OpenSpec.ofChange callsAloneSpec)) callsAloneCard

/-- THE TIED CARD OF 'rowlocklaw24.CallsBegins'. -/
def callsBeginsCard : Claim7 := { stood := { row := callsBeginsRow, standIns := [], harness := (true, "7e748f8ca9f2dabf980081df934d8e1db3f09fd7538f07b189675c3a10d2264d"), looks := true }, kinds := [], alts := [], laidByText := true, laidKinds := [.data, .data, .data, .sentinel, .sentinel, .data], laidTests := true, laidLooks := .later }
def CallsBeginsCardSaid : Prop := Claim7.holds Tryz.pinned (.plain (OpenSpec.ofChange callsBeginsSpec)) callsBeginsCard

/-- THE SECOND FORM's CARD OF 'rowlocklaw24.CallsPrograms'. -/
def callsProgramsUptoCard : Claim7 := { stood := { row := callsProgramsUptoRow, standIns := [], harness := (true, "7e748f8ca9f2dabf980081df934d8e1db3f09fd7538f07b189675c3a10d2264d"), looks := true }, kinds := [], alts := [], laidByText := true, laidKinds := [.data, .data, .data, .sentinel, .sentinel, .data], laidTests := true, laidLooks := .later }
def CallsProgramsUptoCardSaid : Prop := Claim7.holds Tryz.pinned (.plain (OpenSpec.upto callsProgramsSpec)) callsProgramsUptoCard

/-- THE SECOND FORM's CARD OF 'rowlocklaw24.CallsShapes'. -/
def callsShapesUptoCard : Claim7 := { stood := { row := callsShapesUptoRow, standIns := [], harness := (true, "7e748f8ca9f2dabf980081df934d8e1db3f09fd7538f07b189675c3a10d2264d"), looks := true }, kinds := [], alts := [], laidByText := true, laidKinds := [.data, .data, .data, .sentinel, .sentinel, .data], laidTests := true, laidLooks := .later }
def CallsShapesUptoCardSaid : Prop := Claim7.holds Tryz.pinned (.plain (OpenSpec.upto callsShapesSpec)) callsShapesUptoCard

/-- THE SECOND FORM's CARD OF 'rowlocklaw24.CallsMay'. -/
def callsMayUptoCard : Claim7 := { stood := { row := callsMayUptoRow, standIns := [], harness := (true, "7e748f8ca9f2dabf980081df934d8e1db3f09fd7538f07b189675c3a10d2264d"), looks := true }, kinds := [], alts := [], laidByText := true, laidKinds := [.data, .data, .data, .sentinel, .sentinel, .data], laidTests := true, laidLooks := .later }
def CallsMayUptoCardSaid : Prop := Claim7.holds Tryz.pinned (.plain (OpenSpec.upto callsMaySpec)) callsMayUptoCard

/-- THE SECOND FORM's CARD OF 'rowlocklaw24.CallsAlone'. -/
def callsAloneUptoCard : Claim7 := { stood := { row := callsAloneUptoRow, standIns := [], harness := (true, "7e748f8ca9f2dabf980081df934d8e1db3f09fd7538f07b189675c3a10d2264d"), looks := true }, kinds := [], alts := [], laidByText := true, laidKinds := [.data, .data, .data, .sentinel, .sentinel, .data], laidTests := true, laidLooks := .later }
def CallsAloneUptoCardSaid : Prop := Claim7.holds Tryz.pinned (.plain (OpenSpec.upto callsAloneSpec)) callsAloneUptoCard

/-- THE SECOND FORM's CARD OF 'rowlocklaw24.CallsBegins'. -/
def callsBeginsUptoCard : Claim7 := { stood := { row := callsBeginsUptoRow, standIns := [], harness := (true, "7e748f8ca9f2dabf980081df934d8e1db3f09fd7538f07b189675c3a10d2264d"), looks := true }, kinds := [], alts := [], laidByText := true, laidKinds := [.data, .data, .data, .sentinel, .sentinel, .data], laidTests := true, laidLooks := .later }
def CallsBeginsUptoCardSaid : Prop := Claim7.holds Tryz.pinned (.plain (OpenSpec.upto callsBeginsSpec)) callsBeginsUptoCard
end Rows
end Go.Proofs.YtcbkafbchpjnoaaGreatDoor
