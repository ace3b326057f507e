/-
  No cell of these rows narrows 'for every input' (looked for: loops, veiled, ifaces, maps, wideKeys, modest, calm, conditions, laid).
  DERIVED. THE GIVEN ROWS OF THIS SEAT. 4 by the template 'for every input the law returns true; each argument reads behind the call as it read before'; 0 by the template 'total and deterministic' (their statements: YtonjbldnhbbdjaaTotals.lean).
  GIVEN WITH THE SEED: the statements are not yours to turn. If you find one false, say at which input.
  Laid BY PROGRAM, IN A SANDBOX (cutbox-rows.mjs): the forced cells as the released guide's own fill.sh prints them over the translation af0e850af7c8b3f9… (all of the seat's roots in one cut). By AI agents, Wed Nov 11 2026. No macro, syntax, notation, axiom, sorry.
-/
import Derived.Test.YtonjbldnhbbdjaaChecked
import GoSem.Claim
import GoSem.ClaimJoined
import GoSem.ClaimMapViews
import Derived.JoinedTies
import Derived.KernelRfl
namespace Go.Proofs.Ytonjbldnhbbdjaa
/- THE CELL 'sum', in the pinned program and in every row, IS THE sha256 OF THE DUMP (.gsa) THAT YtonjbldnhbbdjaaProg.lean LOADS. Nothing in Lean hashes anything: it is a label: what it is worth is what the hold of that sum in a sandbox is worth. -/
noncomputable def Try.pinned : Pinned := { name := "ytonjbldnhbbdjaa", sum := "af0e850af7c8b3f9a359e87fef56e1de38a76c2e3d94a15bd09439247d01d73f", checked := Try.checked }
namespace Rows
def none {H : Type} : Left H := { results := [], args := [] }

/-- 'rowlocklaw15.VerifyChecks': WHATEVER THE INPUT: true; the input reads as it did. -/
def verifyChecksSpec : ChangeSpec := { name := "verifyChecks", fn := fun _ => fun
  | [d1, d2] => { results := [.lit (.bool true)], args := [d1, d2] }
  | _ => none }
def verifyChecksRow : OpenClaim := { program := "ytonjbldnhbbdjaa", sum := "af0e850af7c8b3f9a359e87fef56e1de38a76c2e3d94a15bd09439247d01d73f", func := "rowlock/rowlocklaw15.VerifyChecks", spec := "verifyChecks", inPlace := ["math.Float64frombits", "math.Float64bits"], apart := false }
def VerifyChecksSaid : Prop := verifyChecksRow.holds Try.pinned (OpenSpec.ofChange verifyChecksSpec)

/-- ITS FALSE NEIGHBOUR: 'it returns false'. Refute it at one input. -/
def verifyChecksWrong : ChangeSpec := { name := "verifyChecks", fn := fun _ => fun
  | [d1, d2] => { results := [.lit (.bool false)], args := [d1, d2] }
  | _ => none }
def VerifyChecksWrongFalsely : Prop := verifyChecksRow.holds Try.pinned (OpenSpec.ofChange verifyChecksWrong)

/-- 'rowlocklaw15.VerifyBrackets': WHATEVER THE INPUT: true; the input reads as it did. -/
def verifyBracketsSpec : ChangeSpec := { name := "verifyBrackets", fn := fun _ => fun
  | [d] => { results := [.lit (.bool true)], args := [d] }
  | _ => none }
def verifyBracketsRow : OpenClaim := { program := "ytonjbldnhbbdjaa", sum := "af0e850af7c8b3f9a359e87fef56e1de38a76c2e3d94a15bd09439247d01d73f", func := "rowlock/rowlocklaw15.VerifyBrackets", spec := "verifyBrackets", inPlace := ["math.Float64frombits", "math.Float64bits"], apart := false }
def VerifyBracketsSaid : Prop := verifyBracketsRow.holds Try.pinned (OpenSpec.ofChange verifyBracketsSpec)

/-- ITS FALSE NEIGHBOUR: 'it returns false'. Refute it at one input. -/
def verifyBracketsWrong : ChangeSpec := { name := "verifyBrackets", fn := fun _ => fun
  | [d] => { results := [.lit (.bool false)], args := [d] }
  | _ => none }
def VerifyBracketsWrongFalsely : Prop := verifyBracketsRow.holds Try.pinned (OpenSpec.ofChange verifyBracketsWrong)

/-- 'rowlocklaw15.VerifyDepths': WHATEVER THE INPUT: true; the input reads as it did. -/
def verifyDepthsSpec : ChangeSpec := { name := "verifyDepths", fn := fun _ => fun
  | [d] => { results := [.lit (.bool true)], args := [d] }
  | _ => none }
def verifyDepthsRow : OpenClaim := { program := "ytonjbldnhbbdjaa", sum := "af0e850af7c8b3f9a359e87fef56e1de38a76c2e3d94a15bd09439247d01d73f", func := "rowlock/rowlocklaw15.VerifyDepths", spec := "verifyDepths", inPlace := ["math.Float64frombits", "math.Float64bits"], apart := false }
def VerifyDepthsSaid : Prop := verifyDepthsRow.holds Try.pinned (OpenSpec.ofChange verifyDepthsSpec)

/-- ITS FALSE NEIGHBOUR: 'it returns false'. Refute it at one input. -/
def verifyDepthsWrong : ChangeSpec := { name := "verifyDepths", fn := fun _ => fun
  | [d] => { results := [.lit (.bool false)], args := [d] }
  | _ => none }
def VerifyDepthsWrongFalsely : Prop := verifyDepthsRow.holds Try.pinned (OpenSpec.ofChange verifyDepthsWrong)

/-- 'rowlocklaw15.VerifyMore': WHATEVER THE INPUT: true; the input reads as it did. -/
def verifyMoreSpec : ChangeSpec := { name := "verifyMore", fn := fun _ => fun
  | [d1, d2, d3] => { results := [.lit (.bool true)], args := [d1, d2, d3] }
  | _ => none }
def verifyMoreRow : OpenClaim := { program := "ytonjbldnhbbdjaa", sum := "af0e850af7c8b3f9a359e87fef56e1de38a76c2e3d94a15bd09439247d01d73f", func := "rowlock/rowlocklaw15.VerifyMore", spec := "verifyMore", inPlace := ["math.Float64frombits", "math.Float64bits"], apart := false }
def VerifyMoreSaid : Prop := verifyMoreRow.holds Try.pinned (OpenSpec.ofChange verifyMoreSpec)

/-- ITS FALSE NEIGHBOUR: 'it returns false'. Refute it at one input. -/
def verifyMoreWrong : ChangeSpec := { name := "verifyMore", fn := fun _ => fun
  | [d1, d2, d3] => { results := [.lit (.bool false)], args := [d1, d2, d3] }
  | _ => none }
def VerifyMoreWrongFalsely : Prop := verifyMoreRow.holds Try.pinned (OpenSpec.ofChange verifyMoreWrong)

/- THE SECOND FORM. 'bulk': how many values and letters a reading holds, each counted each time it is reached (what is shared counts as often as it is met; a slice's spare places count too). A statement '..UptoSaid' is the law's where the arguments, and the package variables that the reading takes, are together of bulk at most 1048576: NARROWER than '..Said'. Prove '..Said' where nothing that the law and all that it calls make is longer than what came in: it says more and counts as full. Else prove '..UptoSaid'. A law counts once. -/
mutual
def uptoBulk {H : Type} : DataW H → Nat
  | .lit (.string bytes) => bytes.length + 1
  | .lit _ => 1
  | .nil => 1
  | .ptr d => uptoBulk d + 1
  | .slice elems spare => uptoBulkAll elems + uptoBulkAll spare + 1
  | .agg parts => uptoBulkAll parts + 1
  | .iface _ d => uptoBulk d + 1
  | .map entries => uptoBulkEntries entries + 1
  | .held _ => 1
def uptoBulkAll {H : Type} : List (DataW H) → Nat
  | [] => 0
  | d :: r => uptoBulk d + uptoBulkAll r
def uptoBulkEntries {H : Type} : List (Lit × DataW H) → Nat
  | [] => 0
  | x :: r => uptoBulkEntry x + uptoBulkEntries r
def uptoBulkEntry {H : Type} : Lit × DataW H → Nat
  | (.string bytes, d) => bytes.length + uptoBulk d + 1
  | (_, d) => uptoBulk d + 1
 end
def uptoSmall : (H : Type) → List (DataW H) → Bool := fun _ ds => decide (uptoBulkAll ds ≤ 1048576)
def OpenSpec.upto (s : _root_.Go.ChangeSpec) : _root_.Go.OpenSpec := { _root_.Go.OpenSpec.ofChange s with cond := some uptoSmall }

/-- 'rowlocklaw15.VerifyChecks', WHERE WHAT IT READS IS OF BULK AT MOST 1048576: true; the input reads as it did. -/
def verifyChecksUptoRow : OpenClaim := { program := "ytonjbldnhbbdjaa", sum := "af0e850af7c8b3f9a359e87fef56e1de38a76c2e3d94a15bd09439247d01d73f", func := "rowlock/rowlocklaw15.VerifyChecks", spec := "verifyChecks", inPlace := ["math.Float64frombits", "math.Float64bits"], apart := false, narrowed := true }
def VerifyChecksUptoSaid : Prop := verifyChecksUptoRow.holds Try.pinned (OpenSpec.upto verifyChecksSpec)

/-- 'rowlocklaw15.VerifyBrackets', WHERE WHAT IT READS IS OF BULK AT MOST 1048576: true; the input reads as it did. -/
def verifyBracketsUptoRow : OpenClaim := { program := "ytonjbldnhbbdjaa", sum := "af0e850af7c8b3f9a359e87fef56e1de38a76c2e3d94a15bd09439247d01d73f", func := "rowlock/rowlocklaw15.VerifyBrackets", spec := "verifyBrackets", inPlace := ["math.Float64frombits", "math.Float64bits"], apart := false, narrowed := true }
def VerifyBracketsUptoSaid : Prop := verifyBracketsUptoRow.holds Try.pinned (OpenSpec.upto verifyBracketsSpec)

/-- 'rowlocklaw15.VerifyDepths', WHERE WHAT IT READS IS OF BULK AT MOST 1048576: true; the input reads as it did. -/
def verifyDepthsUptoRow : OpenClaim := { program := "ytonjbldnhbbdjaa", sum := "af0e850af7c8b3f9a359e87fef56e1de38a76c2e3d94a15bd09439247d01d73f", func := "rowlock/rowlocklaw15.VerifyDepths", spec := "verifyDepths", inPlace := ["math.Float64frombits", "math.Float64bits"], apart := false, narrowed := true }
def VerifyDepthsUptoSaid : Prop := verifyDepthsUptoRow.holds Try.pinned (OpenSpec.upto verifyDepthsSpec)

/-- 'rowlocklaw15.VerifyMore', WHERE WHAT IT READS IS OF BULK AT MOST 1048576: true; the input reads as it did. -/
def verifyMoreUptoRow : OpenClaim := { program := "ytonjbldnhbbdjaa", sum := "af0e850af7c8b3f9a359e87fef56e1de38a76c2e3d94a15bd09439247d01d73f", func := "rowlock/rowlocklaw15.VerifyMore", spec := "verifyMore", inPlace := ["math.Float64frombits", "math.Float64bits"], apart := false, narrowed := true }
def VerifyMoreUptoSaid : Prop := verifyMoreUptoRow.holds Try.pinned (OpenSpec.upto verifyMoreSpec)

end Rows
end Go.Proofs.Ytonjbldnhbbdjaa
