/-
  DERIVED. GIVEN WITH THE SEED: THE CARDS: each row of YtaebcigfinjeiaaDoorRows.lean that lists a variable, with what it lists TIED to the program's text (the seventh form; the later family's looks); each row that meets fmt, with fmt's text TOLD by the authors' own Lean function (tested against real Go, not proved from fmt's source: count such statements apart). THE CARD IS WHAT COUNTS. Prove the row's statement (the work); the ties are given (YtaebcigfinjeiaaDoorTie.lean); close each card by the builder's one call (the guide's Derived/Test/ToyasCard.lean, 'card_holds'). Laid BY PROGRAM, IN A SANDBOX (cutbox-door.mjs). By AI agents, Wed Nov 11 2026. No macro, syntax, notation, axiom, sorry.
-/
import Derived.Test.YtaebcigfinjeiaaDoorRows
import GoSem.ClaimSeven
namespace Go.Proofs.YtaebcigfinjeiaaDoor
namespace Rows

/-- THE TIED CARD OF 'rowlocklaw23.FlowsQueues'. -/
def flowsQueuesCard : Claim7 := { stood := { row := flowsQueuesRow, standIns := [], harness := (true, "7c87a683410a0249cbc0f175543f9f7687f6252c4793a19c798576dbf0541b56"), looks := true }, kinds := [], alts := [], laidByText := true, laidKinds := [.data, .data, .data, .sentinel, .sentinel, .data], laidTests := true, laidLooks := .later }
def FlowsQueuesCardSaid : Prop := Claim7.holds Tryd.pinned (.plain (OpenSpec.ofChange flowsQueuesSpec)) flowsQueuesCard

/-- THE TIED CARD OF 'rowlocklaw23.FlowsBarriers'. -/
def flowsBarriersCard : Claim7 := { stood := { row := flowsBarriersRow, standIns := [], harness := (true, "7c87a683410a0249cbc0f175543f9f7687f6252c4793a19c798576dbf0541b56"), looks := true }, kinds := [], alts := [], laidByText := true, laidKinds := [.data, .data, .data, .sentinel, .sentinel, .data], laidTests := true, laidLooks := .later }
def FlowsBarriersCardSaid : Prop := Claim7.holds Tryd.pinned (.plain (OpenSpec.ofChange flowsBarriersSpec)) flowsBarriersCard

/-- THE TIED CARD OF 'rowlocklaw23.FlowsMay'. -/
def flowsMayCard : Claim7 := { stood := { row := flowsMayRow, standIns := [], harness := (true, "7c87a683410a0249cbc0f175543f9f7687f6252c4793a19c798576dbf0541b56"), looks := true }, kinds := [], alts := [], laidByText := true, laidKinds := [.data, .data, .data, .sentinel, .sentinel, .data], laidTests := true, laidLooks := .later }
def FlowsMayCardSaid : Prop := Claim7.holds Tryd.pinned (.plain (OpenSpec.ofChange flowsMaySpec)) flowsMayCard

/-- THE TIED CARD OF 'rowlocklaw23.FlowsMean'. -/
def flowsMeanCard : Claim7 := { stood := { row := flowsMeanRow, standIns := [], harness := (true, "7c87a683410a0249cbc0f175543f9f7687f6252c4793a19c798576dbf0541b56"), looks := true }, kinds := [], alts := [], laidByText := true, laidKinds := [.data, .data, .data, .sentinel, .sentinel, .data], laidTests := true, laidLooks := .later }
def FlowsMeanCardSaid : Prop := Claim7.holds Tryd.pinned (.plain (OpenSpec.ofChange flowsMeanSpec)) flowsMeanCard

/-- THE SECOND FORM's CARD OF 'rowlocklaw23.FlowsQueues'. -/
def flowsQueuesUptoCard : Claim7 := { stood := { row := flowsQueuesUptoRow, standIns := [], harness := (true, "7c87a683410a0249cbc0f175543f9f7687f6252c4793a19c798576dbf0541b56"), looks := true }, kinds := [], alts := [], laidByText := true, laidKinds := [.data, .data, .data, .sentinel, .sentinel, .data], laidTests := true, laidLooks := .later }
def FlowsQueuesUptoCardSaid : Prop := Claim7.holds Tryd.pinned (.plain (OpenSpec.upto flowsQueuesSpec)) flowsQueuesUptoCard

/-- THE SECOND FORM's CARD OF 'rowlocklaw23.FlowsBarriers'. -/
def flowsBarriersUptoCard : Claim7 := { stood := { row := flowsBarriersUptoRow, standIns := [], harness := (true, "7c87a683410a0249cbc0f175543f9f7687f6252c4793a19c798576dbf0541b56"), looks := true }, kinds := [], alts := [], laidByText := true, laidKinds := [.data, .data, .data, .sentinel, .sentinel, .data], laidTests := true, laidLooks := .later }
def FlowsBarriersUptoCardSaid : Prop := Claim7.holds Tryd.pinned (.plain (OpenSpec.upto flowsBarriersSpec)) flowsBarriersUptoCard

/-- THE SECOND FORM's CARD OF 'rowlocklaw23.FlowsMay'. -/
def flowsMayUptoCard : Claim7 := { stood := { row := flowsMayUptoRow, standIns := [], harness := (true, "7c87a683410a0249cbc0f175543f9f7687f6252c4793a19c798576dbf0541b56"), looks := true }, kinds := [], alts := [], laidByText := true, laidKinds := [.data, .data, .data, .sentinel, .sentinel, .data], laidTests := true, laidLooks := .later }
def FlowsMayUptoCardSaid : Prop := Claim7.holds Tryd.pinned (.plain (OpenSpec.upto flowsMaySpec)) flowsMayUptoCard

/-- THE SECOND FORM's CARD OF 'rowlocklaw23.FlowsMean'. -/
def flowsMeanUptoCard : Claim7 := { stood := { row := flowsMeanUptoRow, standIns := [], harness := (true, "7c87a683410a0249cbc0f175543f9f7687f6252c4793a19c798576dbf0541b56"), looks := true }, kinds := [], alts := [], laidByText := true, laidKinds := [.data, .data, .data, .sentinel, .sentinel, .data], laidTests := true, laidLooks := .later }
def FlowsMeanUptoCardSaid : Prop := Claim7.holds Tryd.pinned (.plain (OpenSpec.upto flowsMeanSpec)) flowsMeanUptoCard
end Rows
end Go.Proofs.YtaebcigfinjeiaaDoor
