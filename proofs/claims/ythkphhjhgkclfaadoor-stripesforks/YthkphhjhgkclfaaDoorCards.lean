/-
  DERIVED. GIVEN WITH THE SEED: THE CARDS: each row of YthkphhjhgkclfaaDoorRows.lean that lists a variable, with what it lists TIED to the program's text (the seventh form; the later family's looks); each row that meets fmt, with fmt's text TOLD by the authors' own Lean function (tested against real Go, not proved from fmt's source: count such statements apart). THE CARD IS WHAT COUNTS. Prove the row's statement (the work); the ties are given (YthkphhjhgkclfaaDoorTie.lean); close each card by the builder's one call (the guide's Derived/Test/ToyasCard.lean, 'card_holds'). Laid BY PROGRAM, IN A SANDBOX (cutbox-door.mjs). By AI agents, Wed Nov 11 2026. No macro, syntax, notation, axiom, sorry.
-/
import Derived.Test.YthkphhjhgkclfaaDoorRows
import GoSem.ClaimSeven
namespace Go.Proofs.YthkphhjhgkclfaaDoor
namespace Rows

/-- THE TIED CARD OF 'rowlocklaw04.StripesPlays'. -/
def stripesPlaysCard : Claim7 := { stood := { row := stripesPlaysRow, standIns := [], harness := (true, "71155f29e7d163e77cfcbab6652724d2af1e0f71daf4bea808062bbd59e976ea"), looks := false }, kinds := [], alts := [], laidByText := true, laidKinds := [.data], laidTests := true, laidLooks := .later }
def StripesPlaysCardSaid : Prop := Claim7.holds Tryd.pinned (.plain (OpenSpec.ofChange stripesPlaysSpec)) stripesPlaysCard

/-- THE TIED CARD OF 'rowlocklaw04.StripesRise'. -/
def stripesRiseCard : Claim7 := { stood := { row := stripesRiseRow, standIns := [], harness := (true, "71155f29e7d163e77cfcbab6652724d2af1e0f71daf4bea808062bbd59e976ea"), looks := false }, kinds := [], alts := [], laidByText := true, laidKinds := [.data], laidTests := true, laidLooks := .later }
def StripesRiseCardSaid : Prop := Claim7.holds Tryd.pinned (.plain (OpenSpec.ofChange stripesRiseSpec)) stripesRiseCard

/-- THE TIED CARD OF 'rowlocklaw04.StripesOne'. -/
def stripesOneCard : Claim7 := { stood := { row := stripesOneRow, standIns := [], harness := (true, "71155f29e7d163e77cfcbab6652724d2af1e0f71daf4bea808062bbd59e976ea"), looks := false }, kinds := [], alts := [], laidByText := true, laidKinds := [.data], laidTests := true, laidLooks := .later }
def StripesOneCardSaid : Prop := Claim7.holds Tryd.pinned (.plain (OpenSpec.ofChange stripesOneSpec)) stripesOneCard

/-- THE TIED CARD OF 'rowlocklaw04.StripesForks'. -/
def stripesForksCard : Claim7 := { stood := { row := stripesForksRow, standIns := [], harness := (true, "71155f29e7d163e77cfcbab6652724d2af1e0f71daf4bea808062bbd59e976ea"), looks := false }, kinds := [], alts := [], laidByText := true, laidKinds := [.data], laidTests := true, laidLooks := .later }
def StripesForksCardSaid : Prop := Claim7.holds Tryd.pinned (.plain (OpenSpec.ofChange stripesForksSpec)) stripesForksCard

/-- THE SECOND FORM's CARD OF 'rowlocklaw04.StripesPlays'. -/
def stripesPlaysUptoCard : Claim7 := { stood := { row := stripesPlaysUptoRow, standIns := [], harness := (true, "71155f29e7d163e77cfcbab6652724d2af1e0f71daf4bea808062bbd59e976ea"), looks := false }, kinds := [], alts := [], laidByText := true, laidKinds := [.data], laidTests := true, laidLooks := .later }
def StripesPlaysUptoCardSaid : Prop := Claim7.holds Tryd.pinned (.plain (OpenSpec.upto stripesPlaysSpec)) stripesPlaysUptoCard

/-- THE SECOND FORM's CARD OF 'rowlocklaw04.StripesRise'. -/
def stripesRiseUptoCard : Claim7 := { stood := { row := stripesRiseUptoRow, standIns := [], harness := (true, "71155f29e7d163e77cfcbab6652724d2af1e0f71daf4bea808062bbd59e976ea"), looks := false }, kinds := [], alts := [], laidByText := true, laidKinds := [.data], laidTests := true, laidLooks := .later }
def StripesRiseUptoCardSaid : Prop := Claim7.holds Tryd.pinned (.plain (OpenSpec.upto stripesRiseSpec)) stripesRiseUptoCard

/-- THE SECOND FORM's CARD OF 'rowlocklaw04.StripesOne'. -/
def stripesOneUptoCard : Claim7 := { stood := { row := stripesOneUptoRow, standIns := [], harness := (true, "71155f29e7d163e77cfcbab6652724d2af1e0f71daf4bea808062bbd59e976ea"), looks := false }, kinds := [], alts := [], laidByText := true, laidKinds := [.data], laidTests := true, laidLooks := .later }
def StripesOneUptoCardSaid : Prop := Claim7.holds Tryd.pinned (.plain (OpenSpec.upto stripesOneSpec)) stripesOneUptoCard

/-- THE SECOND FORM's CARD OF 'rowlocklaw04.StripesForks'. -/
def stripesForksUptoCard : Claim7 := { stood := { row := stripesForksUptoRow, standIns := [], harness := (true, "71155f29e7d163e77cfcbab6652724d2af1e0f71daf4bea808062bbd59e976ea"), looks := false }, kinds := [], alts := [], laidByText := true, laidKinds := [.data], laidTests := true, laidLooks := .later }
def StripesForksUptoCardSaid : Prop := Claim7.holds Tryd.pinned (.plain (OpenSpec.upto stripesForksSpec)) stripesForksUptoCard
end Rows
end Go.Proofs.YthkphhjhgkclfaaDoor
