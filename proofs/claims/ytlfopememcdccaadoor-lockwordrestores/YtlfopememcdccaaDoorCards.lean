/-
  DERIVED. GIVEN WITH THE SEED: THE CARDS: each row of YtlfopememcdccaaDoorRows.lean that lists a variable, with what it lists TIED to the program's text (the seventh form; the later family's looks); each row that meets fmt, with fmt's text TOLD by the authors' own Lean function (tested against real Go, not proved from fmt's source: count such statements apart). THE CARD IS WHAT COUNTS. Prove the row's statement (the work); the ties are given (YtlfopememcdccaaDoorTie.lean); close each card by the builder's one call (the guide's Derived/Test/ToyasCard.lean, 'card_holds'). Laid BY PROGRAM, IN A SANDBOX (cutbox-door.mjs). By AI agents, Wed Nov 11 2026. No macro, syntax, notation, axiom, sorry.
-/
import Derived.Test.YtlfopememcdccaaDoorRows
import GoSem.ClaimSeven
namespace Go.Proofs.YtlfopememcdccaaDoor
namespace Rows

/-- THE TIED CARD OF 'rowlocklaw03.LockwordForms'. -/
def lockwordFormsCard : Claim7 := { stood := { row := lockwordFormsRow, standIns := [], harness := (true, "87d8101f75cded4850313d3cd0bc5a8a167c7179e03f7df277e58aa89f992f5b"), looks := false }, kinds := [], alts := [], laidByText := true, laidKinds := [.data], laidTests := true, laidLooks := .later }
def LockwordFormsCardSaid : Prop := Claim7.holds Tryd.pinned (.plain (OpenSpec.ofChange lockwordFormsSpec)) lockwordFormsCard

/-- THE TIED CARD OF 'rowlocklaw03.LockwordTurns'. -/
def lockwordTurnsCard : Claim7 := { stood := { row := lockwordTurnsRow, standIns := [], harness := (true, "87d8101f75cded4850313d3cd0bc5a8a167c7179e03f7df277e58aa89f992f5b"), looks := false }, kinds := [], alts := [], laidByText := true, laidKinds := [.data], laidTests := true, laidLooks := .later }
def LockwordTurnsCardSaid : Prop := Claim7.holds Tryd.pinned (.plain (OpenSpec.ofChange lockwordTurnsSpec)) lockwordTurnsCard

/-- THE TIED CARD OF 'rowlocklaw03.LockwordBack'. -/
def lockwordBackCard : Claim7 := { stood := { row := lockwordBackRow, standIns := [], harness := (true, "87d8101f75cded4850313d3cd0bc5a8a167c7179e03f7df277e58aa89f992f5b"), looks := false }, kinds := [], alts := [], laidByText := true, laidKinds := [.data], laidTests := true, laidLooks := .later }
def LockwordBackCardSaid : Prop := Claim7.holds Tryd.pinned (.plain (OpenSpec.ofChange lockwordBackSpec)) lockwordBackCard

/-- THE TIED CARD OF 'rowlocklaw03.LockwordRestores'. -/
def lockwordRestoresCard : Claim7 := { stood := { row := lockwordRestoresRow, standIns := [], harness := (true, "87d8101f75cded4850313d3cd0bc5a8a167c7179e03f7df277e58aa89f992f5b"), looks := false }, kinds := [], alts := [], laidByText := true, laidKinds := [.data], laidTests := true, laidLooks := .later }
def LockwordRestoresCardSaid : Prop := Claim7.holds Tryd.pinned (.plain (OpenSpec.ofChange lockwordRestoresSpec)) lockwordRestoresCard

/-- THE TIED CARD OF 'rowlocklaw03.LockwordUnlike'. -/
def lockwordUnlikeCard : Claim7 := { stood := { row := lockwordUnlikeRow, standIns := [], harness := (true, "87d8101f75cded4850313d3cd0bc5a8a167c7179e03f7df277e58aa89f992f5b"), looks := false }, kinds := [], alts := [], laidByText := true, laidKinds := [.data], laidTests := true, laidLooks := .later }
def LockwordUnlikeCardSaid : Prop := Claim7.holds Tryd.pinned (.plain (OpenSpec.ofChange lockwordUnlikeSpec)) lockwordUnlikeCard

/-- THE SECOND FORM's CARD OF 'rowlocklaw03.LockwordForms'. -/
def lockwordFormsUptoCard : Claim7 := { stood := { row := lockwordFormsUptoRow, standIns := [], harness := (true, "87d8101f75cded4850313d3cd0bc5a8a167c7179e03f7df277e58aa89f992f5b"), looks := false }, kinds := [], alts := [], laidByText := true, laidKinds := [.data], laidTests := true, laidLooks := .later }
def LockwordFormsUptoCardSaid : Prop := Claim7.holds Tryd.pinned (.plain (OpenSpec.upto lockwordFormsSpec)) lockwordFormsUptoCard

/-- THE SECOND FORM's CARD OF 'rowlocklaw03.LockwordTurns'. -/
def lockwordTurnsUptoCard : Claim7 := { stood := { row := lockwordTurnsUptoRow, standIns := [], harness := (true, "87d8101f75cded4850313d3cd0bc5a8a167c7179e03f7df277e58aa89f992f5b"), looks := false }, kinds := [], alts := [], laidByText := true, laidKinds := [.data], laidTests := true, laidLooks := .later }
def LockwordTurnsUptoCardSaid : Prop := Claim7.holds Tryd.pinned (.plain (OpenSpec.upto lockwordTurnsSpec)) lockwordTurnsUptoCard

/-- THE SECOND FORM's CARD OF 'rowlocklaw03.LockwordBack'. -/
def lockwordBackUptoCard : Claim7 := { stood := { row := lockwordBackUptoRow, standIns := [], harness := (true, "87d8101f75cded4850313d3cd0bc5a8a167c7179e03f7df277e58aa89f992f5b"), looks := false }, kinds := [], alts := [], laidByText := true, laidKinds := [.data], laidTests := true, laidLooks := .later }
def LockwordBackUptoCardSaid : Prop := Claim7.holds Tryd.pinned (.plain (OpenSpec.upto lockwordBackSpec)) lockwordBackUptoCard

/-- THE SECOND FORM's CARD OF 'rowlocklaw03.LockwordRestores'. -/
def lockwordRestoresUptoCard : Claim7 := { stood := { row := lockwordRestoresUptoRow, standIns := [], harness := (true, "87d8101f75cded4850313d3cd0bc5a8a167c7179e03f7df277e58aa89f992f5b"), looks := false }, kinds := [], alts := [], laidByText := true, laidKinds := [.data], laidTests := true, laidLooks := .later }
def LockwordRestoresUptoCardSaid : Prop := Claim7.holds Tryd.pinned (.plain (OpenSpec.upto lockwordRestoresSpec)) lockwordRestoresUptoCard

/-- THE SECOND FORM's CARD OF 'rowlocklaw03.LockwordUnlike'. -/
def lockwordUnlikeUptoCard : Claim7 := { stood := { row := lockwordUnlikeUptoRow, standIns := [], harness := (true, "87d8101f75cded4850313d3cd0bc5a8a167c7179e03f7df277e58aa89f992f5b"), looks := false }, kinds := [], alts := [], laidByText := true, laidKinds := [.data], laidTests := true, laidLooks := .later }
def LockwordUnlikeUptoCardSaid : Prop := Claim7.holds Tryd.pinned (.plain (OpenSpec.upto lockwordUnlikeSpec)) lockwordUnlikeUptoCard
end Rows
end Go.Proofs.YtlfopememcdccaaDoor
