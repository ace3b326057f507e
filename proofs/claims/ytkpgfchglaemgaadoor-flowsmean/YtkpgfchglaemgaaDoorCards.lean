/-
  DERIVED. GIVEN WITH THE SEED: THE CARDS: each row of YtkpgfchglaemgaaDoorRows.lean that lists a variable, with what it lists TIED to the program's text (the seventh form; the later family's looks); each row that meets fmt, with fmt's text TOLD by the authors' own Lean function (tested against real Go, not proved from fmt's source: count such statements apart). THE CARD IS WHAT COUNTS. Prove the row's statement (the work); the ties are given (YtkpgfchglaemgaaDoorTie.lean); close each card by the builder's one call (the guide's Derived/Test/ToyasCard.lean, 'card_holds'). Laid BY PROGRAM, IN A SANDBOX (cutbox-door.mjs). By AI agents, Wed Nov 11 2026. No macro, syntax, notation, axiom, sorry.
-/
import Derived.Test.YtkpgfchglaemgaaDoorRows
import GoSem.ClaimSeven
namespace Go.Proofs.YtkpgfchglaemgaaDoor
namespace Rows

/-- THE TIED CARD OF 'rowlocklaw23.FlowsMean'. -/
def flowsMeanCard : Claim7 := { stood := { row := flowsMeanRow, standIns := [], harness := (true, "1ef5470df57c466550bf565412834631c66927affa750b03849e6f15191f7f47"), looks := true }, kinds := [], alts := [], laidByText := true, laidKinds := [.data, .data, .data, .sentinel, .sentinel, .data], laidTests := true, laidLooks := .later }
def FlowsMeanCardSaid : Prop := Claim7.holds Tryd.pinned (.plain (OpenSpec.ofChange flowsMeanSpec)) flowsMeanCard

/-- THE SECOND FORM's CARD OF 'rowlocklaw23.FlowsMean'. -/
def flowsMeanUptoCard : Claim7 := { stood := { row := flowsMeanUptoRow, standIns := [], harness := (true, "1ef5470df57c466550bf565412834631c66927affa750b03849e6f15191f7f47"), looks := true }, kinds := [], alts := [], laidByText := true, laidKinds := [.data, .data, .data, .sentinel, .sentinel, .data], laidTests := true, laidLooks := .later }
def FlowsMeanUptoCardSaid : Prop := Claim7.holds Tryd.pinned (.plain (OpenSpec.upto flowsMeanSpec)) flowsMeanUptoCard
end Rows
end Go.Proofs.YtkpgfchglaemgaaDoor
