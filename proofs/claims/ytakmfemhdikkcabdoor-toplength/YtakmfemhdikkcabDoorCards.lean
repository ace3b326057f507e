/-
  DERIVED. GIVEN WITH THE SEED: THE CARDS: each row of YtakmfemhdikkcabDoorRows.lean that lists a variable, with what it lists TIED to the program's text (the seventh form; the later family's looks); each row that meets fmt, with fmt's text TOLD by the authors' own Lean function (tested against real Go, not proved from fmt's source: count such statements apart). THE CARD IS WHAT COUNTS. Prove the row's statement (the work); the ties are given (YtakmfemhdikkcabDoorTie.lean); close each card by the builder's one call (the guide's Derived/Test/ToyasCard.lean, 'card_holds'). Laid BY PROGRAM, IN A SANDBOX (cutbox-door.mjs). By AI agents, Wed Nov 11 2026. No macro, syntax, notation, axiom, sorry.
-/
import Derived.Test.YtakmfemhdikkcabDoorRows
import GoSem.ClaimSeven
namespace Go.Proofs.YtakmfemhdikkcabDoor
namespace Rows

/-- THE TIED CARD OF 'rowlocktop.TopLength'. -/
def topLengthCard : Claim7 := { stood := { row := topLengthRow, standIns := [], harness := (true, "75acee18c1d29d5bf9aa2aea25de309d924858221f550c8d7c01df6b19dd09cd"), looks := false }, kinds := [], alts := [], laidByText := true, laidKinds := [.data], laidTests := true, laidLooks := .later }
def TopLengthCardSaid : Prop := Claim7.holds Tryd.pinned (.plain (OpenSpec.ofChange topLengthSpec)) topLengthCard

/-- THE SECOND FORM's CARD OF 'rowlocktop.TopLength'. -/
def topLengthUptoCard : Claim7 := { stood := { row := topLengthUptoRow, standIns := [], harness := (true, "75acee18c1d29d5bf9aa2aea25de309d924858221f550c8d7c01df6b19dd09cd"), looks := false }, kinds := [], alts := [], laidByText := true, laidKinds := [.data], laidTests := true, laidLooks := .later }
def TopLengthUptoCardSaid : Prop := Claim7.holds Tryd.pinned (.plain (OpenSpec.upto topLengthSpec)) topLengthUptoCard
end Rows
end Go.Proofs.YtakmfemhdikkcabDoor
