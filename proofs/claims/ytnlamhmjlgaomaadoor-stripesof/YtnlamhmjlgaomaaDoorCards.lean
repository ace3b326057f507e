/-
  DERIVED. GIVEN WITH THE SEED: THE CARDS: each row of YtnlamhmjlgaomaaDoorRows.lean that lists a variable, with what it lists TIED to the program's text (the seventh form; the later family's looks); each row that meets fmt, with fmt's text TOLD by the authors' own Lean function (tested against real Go, not proved from fmt's source: count such statements apart). THE CARD IS WHAT COUNTS. Prove the row's statement (the work); the ties are given (YtnlamhmjlgaomaaDoorTie.lean); close each card by the builder's one call (the guide's Derived/Test/ToyasCard.lean, 'card_holds'). Laid BY PROGRAM, IN A SANDBOX (cutbox-door.mjs). By AI agents, Wed Nov 11 2026. No macro, syntax, notation, axiom, sorry.
-/
import Derived.Test.YtnlamhmjlgaomaaDoorRows
import GoSem.ClaimSeven
namespace Go.Proofs.YtnlamhmjlgaomaaDoor
namespace Rows

/-- THE TIED CARD OF 'rowlocklaw04.StripesOf'. -/
def stripesOfCard : Claim7 := { stood := { row := stripesOfRow, standIns := [], harness := (true, "45a3980191be905a37152ef76dd96bcd58c4736a11bceb4a2837d8e027029408"), looks := false }, kinds := [], alts := [], laidByText := true, laidKinds := [.data], laidTests := true, laidLooks := .later }
def StripesOfCardSaid : Prop := Claim7.holds Tryd.pinned (.plain (OpenSpec.ofChange stripesOfSpec)) stripesOfCard

/-- THE TIED CARD OF 'rowlocktop.TopGuarded'. -/
def topGuardedCard : Claim7 := { stood := { row := topGuardedRow, standIns := [], harness := (true, "45a3980191be905a37152ef76dd96bcd58c4736a11bceb4a2837d8e027029408"), looks := false }, kinds := [], alts := [], laidByText := true, laidKinds := [.data], laidTests := true, laidLooks := .later }
def TopGuardedCardSaid : Prop := Claim7.holds Tryd.pinned (.plain (OpenSpec.ofChange topGuardedSpec)) topGuardedCard

/-- THE SECOND FORM's CARD OF 'rowlocklaw04.StripesOf'. -/
def stripesOfUptoCard : Claim7 := { stood := { row := stripesOfUptoRow, standIns := [], harness := (true, "45a3980191be905a37152ef76dd96bcd58c4736a11bceb4a2837d8e027029408"), looks := false }, kinds := [], alts := [], laidByText := true, laidKinds := [.data], laidTests := true, laidLooks := .later }
def StripesOfUptoCardSaid : Prop := Claim7.holds Tryd.pinned (.plain (OpenSpec.upto stripesOfSpec)) stripesOfUptoCard

/-- THE SECOND FORM's CARD OF 'rowlocktop.TopGuarded'. -/
def topGuardedUptoCard : Claim7 := { stood := { row := topGuardedUptoRow, standIns := [], harness := (true, "45a3980191be905a37152ef76dd96bcd58c4736a11bceb4a2837d8e027029408"), looks := false }, kinds := [], alts := [], laidByText := true, laidKinds := [.data], laidTests := true, laidLooks := .later }
def TopGuardedUptoCardSaid : Prop := Claim7.holds Tryd.pinned (.plain (OpenSpec.upto topGuardedSpec)) topGuardedUptoCard
end Rows
end Go.Proofs.YtnlamhmjlgaomaaDoor
