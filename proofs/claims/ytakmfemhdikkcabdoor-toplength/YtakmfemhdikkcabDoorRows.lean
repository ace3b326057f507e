/-
  NARROWER THAN 'FOR EVERY INPUT', by the rows' own cells (each row's printed sentence says how): TopLength: laid.
  DERIVED. THE GIVEN ROWS OF THIS SEAT. 1 by the template 'for every input the law returns true; each argument reads behind the call as it read before'; 0 by the template 'total and deterministic' (their statements: YtakmfemhdikkcabDoorTotals.lean).
  GIVEN WITH THE SEED: the statements are not yours to turn. If you find one false, say at which input.
  Laid BY PROGRAM, IN A SANDBOX (cutbox-rows.mjs): the forced cells as the released guide's own fill.sh prints them over the translation 8afa280b8b7658f6… (all of the seat's roots in one cut). By AI agents, Wed Nov 11 2026. No macro, syntax, notation, axiom, sorry.
-/
import Derived.Test.YtakmfemhdikkcabDoorChecked
import GoSem.Claim
import GoSem.ClaimJoined
import GoSem.ClaimMapViews
import Derived.JoinedTies
import Derived.KernelRfl
namespace Go.Proofs.YtakmfemhdikkcabDoor
/- THE CELL 'sum', in the pinned program and in every row, IS THE sha256 OF THE DUMP (.gsa) THAT YtakmfemhdikkcabDoorProg.lean LOADS. Nothing in Lean hashes anything: it is a label: what it is worth is what the hold of that sum in a sandbox is worth. -/
noncomputable def Tryd.pinned : Pinned := { name := "ytakmfemhdikkcabdoor", sum := "8afa280b8b7658f69ae076295ec929346f937de24116df6319e99f2def1695ce", checked := Tryd.checked }
namespace Rows
def none {H : Type} : Left H := { results := [], args := [] }

/- WHAT THE LISTED PACKAGE-LEVEL VARIABLES READ AS WHEN THE CALL BEGINS. Each datum BY PROGRAM (the guide's laid-datum.mjs) off the statement by which the dump's own 'gosem.cut.vars' lays the variable. In a bare row this is a premise. The card (YtakmfemhdikkcabDoorCards.lean) ties it to the program's text. -/
def laid_rowlock_code_words {H : Type} : DataW H := .agg [.lit (.string [110, 111, 112]), .lit (.string [112, 117, 115, 104]), .lit (.string [108, 111, 99, 97, 108]), .lit (.string [115, 101, 116]), .lit (.string [103, 101, 116]), .lit (.string [112, 117, 116]), .lit (.string [103, 101, 116, 97, 116]), .lit (.string [112, 117, 116, 97, 116]), .lit (.string [97, 100, 100]), .lit (.string [115, 117, 98]), .lit (.string [109, 117, 108]), .lit (.string [100, 105, 118]), .lit (.string [110, 101, 103]), .lit (.string [108, 101, 115, 115]), .lit (.string [115, 97, 109, 101]), .lit (.string [110, 111, 116]), .lit (.string [100, 117, 112]), .lit (.string [112, 111, 112]), .lit (.string [115, 119, 97, 112]), .lit (.string [106, 117, 109, 112]), .lit (.string [122, 101, 114, 111]), .lit (.string [97, 116, 111, 109, 105, 99]), .lit (.string [101, 110, 100]), .lit (.string [111, 114, 101, 108, 115, 101]), .lit (.string [101, 108, 115, 101]), .lit (.string [101, 110, 100, 111, 114]), .lit (.string [114, 101, 116, 114, 121]), .lit (.string [111, 117, 116]), .lit (.string [104, 97, 108, 116])]

/-- 'rowlocktop.TopLength': WHATEVER THE INPUT: true; the input reads as it did. -/
def topLengthSpec : ChangeSpec := { name := "topLength", fn := fun _ => fun
  | [d] => { results := [.lit (.bool true)], args := [d] }
  | _ => none }
def topLengthRow : OpenClaim := { program := "ytakmfemhdikkcabdoor", sum := "8afa280b8b7658f69ae076295ec929346f937de24116df6319e99f2def1695ce", func := "rowlock/rowlocktop.TopLength", spec := "topLength", inPlace := ["math.Float64frombits", "math.Float64bits"], named := ["rowlock/code.words"], apart := false, laid := [("rowlock/code.words", laid_rowlock_code_words)] }
def TopLengthSaid : Prop := topLengthRow.holds Tryd.pinned (OpenSpec.ofChange topLengthSpec)

/-- ITS FALSE NEIGHBOUR: 'it returns false'. Refute it at one input. -/
def topLengthWrong : ChangeSpec := { name := "topLength", fn := fun _ => fun
  | [d] => { results := [.lit (.bool false)], args := [d] }
  | _ => none }
def TopLengthWrongFalsely : Prop := topLengthRow.holds Tryd.pinned (OpenSpec.ofChange topLengthWrong)

/- THE SECOND FORM. 'bulk': how many values and letters a reading holds, each counted each time it is reached (what is shared counts as often as it is met; a slice's spare places count too). A statement '..UptoSaid' is the law's where the arguments, and the package variables that the reading takes, are together of bulk at most 1048576: NARROWER than '..Said'. Prove '..Said' where nothing that the law and all that it calls make is longer than what came in: it says more and counts as full. Else prove '..UptoSaid'. A law counts once. -/
mutual
def uptoBulk {H : Type} : DataW H → Nat
  | .lit (.string bytes) => bytes.length + 1
  | .lit _ => 1
  | .nil => 1
  | .ptr d => uptoBulk d + 1
  | .slice elems spare => uptoBulkAll elems + uptoBulkAll spare + 1
  | .agg parts => uptoBulkAll parts + 1
  | .iface _ d => uptoBulk d + 1
  | .map entries => uptoBulkEntries entries + 1
  | .held _ => 1
def uptoBulkAll {H : Type} : List (DataW H) → Nat
  | [] => 0
  | d :: r => uptoBulk d + uptoBulkAll r
def uptoBulkEntries {H : Type} : List (Lit × DataW H) → Nat
  | [] => 0
  | x :: r => uptoBulkEntry x + uptoBulkEntries r
def uptoBulkEntry {H : Type} : Lit × DataW H → Nat
  | (.string bytes, d) => bytes.length + uptoBulk d + 1
  | (_, d) => uptoBulk d + 1
 end
def uptoSmall : (H : Type) → List (DataW H) → Bool := fun _ ds => decide (uptoBulkAll ds ≤ 1048576)
def OpenSpec.upto (s : _root_.Go.ChangeSpec) : _root_.Go.OpenSpec := { _root_.Go.OpenSpec.ofChange s with cond := some uptoSmall }

/-- 'rowlocktop.TopLength', WHERE WHAT IT READS IS OF BULK AT MOST 1048576: true; the input reads as it did. -/
def topLengthUptoRow : OpenClaim := { program := "ytakmfemhdikkcabdoor", sum := "8afa280b8b7658f69ae076295ec929346f937de24116df6319e99f2def1695ce", func := "rowlock/rowlocktop.TopLength", spec := "topLength", inPlace := ["math.Float64frombits", "math.Float64bits"], named := ["rowlock/code.words"], apart := false, laid := [("rowlock/code.words", laid_rowlock_code_words)], narrowed := true }
def TopLengthUptoSaid : Prop := topLengthUptoRow.holds Tryd.pinned (OpenSpec.upto topLengthSpec)

end Rows
end Go.Proofs.YtakmfemhdikkcabDoor
