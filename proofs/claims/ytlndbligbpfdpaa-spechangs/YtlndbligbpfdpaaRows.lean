/-
  No cell of these rows narrows 'for every input' (looked for: loops, veiled, ifaces, maps, wideKeys, modest, calm, conditions, laid).
  DERIVED. THE GIVEN ROWS OF THIS SEAT. 5 by the template 'for every input the law returns true; each argument reads behind the call as it read before'; 0 by the template 'total and deterministic' (their statements: YtlndbligbpfdpaaTotals.lean).
  GIVEN WITH THE SEED: the statements are not yours to turn. If you find one false, say at which input.
  Laid BY PROGRAM, IN A SANDBOX (cutbox-rows.mjs): the forced cells as the released guide's own fill.sh prints them over the translation 6cdb2e981f1fcd32… (all of the seat's roots in one cut). By AI agents, Wed Nov 11 2026. No macro, syntax, notation, axiom, sorry.
-/
import Derived.Test.YtlndbligbpfdpaaChecked
import GoSem.Claim
import GoSem.ClaimJoined
import GoSem.ClaimMapViews
import Derived.JoinedTies
import Derived.KernelRfl
namespace Go.Proofs.Ytlndbligbpfdpaa
/- THE CELL 'sum', in the pinned program and in every row, IS THE sha256 OF THE DUMP (.gsa) THAT YtlndbligbpfdpaaProg.lean LOADS. Nothing in Lean hashes anything: it is a label: what it is worth is what the hold of that sum in a sandbox is worth. -/
noncomputable def Try.pinned : Pinned := { name := "ytlndbligbpfdpaa", sum := "6cdb2e981f1fcd3230c60665ea581c7c5f1eb0c23d0ed0ead9fe518193a99f79", checked := Try.checked }
namespace Rows
def none {H : Type} : Left H := { results := [], args := [] }

/-- 'rowlocklaw17.SpecSteps': WHATEVER THE INPUT: true; the input reads as it did. -/
def specStepsSpec : ChangeSpec := { name := "specSteps", fn := fun _ => fun
  | [d1, d2] => { results := [.lit (.bool true)], args := [d1, d2] }
  | _ => none }
def specStepsRow : OpenClaim := { program := "ytlndbligbpfdpaa", sum := "6cdb2e981f1fcd3230c60665ea581c7c5f1eb0c23d0ed0ead9fe518193a99f79", func := "rowlock/rowlocklaw17.SpecSteps", spec := "specSteps", inPlace := ["math.Float64frombits", "math.Float64bits", "math.archTrunc"], unfollowed := true, recurses := true, apart := false }
def SpecStepsSaid : Prop := specStepsRow.holds Try.pinned (OpenSpec.ofChange specStepsSpec)

/-- ITS FALSE NEIGHBOUR: 'it returns false'. Refute it at one input. -/
def specStepsWrong : ChangeSpec := { name := "specSteps", fn := fun _ => fun
  | [d1, d2] => { results := [.lit (.bool false)], args := [d1, d2] }
  | _ => none }
def SpecStepsWrongFalsely : Prop := specStepsRow.holds Try.pinned (OpenSpec.ofChange specStepsWrong)

/-- 'rowlocklaw17.SpecNothing': WHATEVER THE INPUT: true; the input reads as it did. -/
def specNothingSpec : ChangeSpec := { name := "specNothing", fn := fun _ => fun
  | [d1, d2, d3] => { results := [.lit (.bool true)], args := [d1, d2, d3] }
  | _ => none }
def specNothingRow : OpenClaim := { program := "ytlndbligbpfdpaa", sum := "6cdb2e981f1fcd3230c60665ea581c7c5f1eb0c23d0ed0ead9fe518193a99f79", func := "rowlock/rowlocklaw17.SpecNothing", spec := "specNothing", inPlace := ["math.Float64frombits", "math.Float64bits", "math.archTrunc"], unfollowed := true, recurses := true, apart := false }
def SpecNothingSaid : Prop := specNothingRow.holds Try.pinned (OpenSpec.ofChange specNothingSpec)

/-- ITS FALSE NEIGHBOUR: 'it returns false'. Refute it at one input. -/
def specNothingWrong : ChangeSpec := { name := "specNothing", fn := fun _ => fun
  | [d1, d2, d3] => { results := [.lit (.bool false)], args := [d1, d2, d3] }
  | _ => none }
def SpecNothingWrongFalsely : Prop := specNothingRow.holds Try.pinned (OpenSpec.ofChange specNothingWrong)

/-- 'rowlocklaw17.SpecHangs': WHATEVER THE INPUT: true; the input reads as it did. -/
def specHangsSpec : ChangeSpec := { name := "specHangs", fn := fun _ => fun
  | [d1, d2, d3] => { results := [.lit (.bool true)], args := [d1, d2, d3] }
  | _ => none }
def specHangsRow : OpenClaim := { program := "ytlndbligbpfdpaa", sum := "6cdb2e981f1fcd3230c60665ea581c7c5f1eb0c23d0ed0ead9fe518193a99f79", func := "rowlock/rowlocklaw17.SpecHangs", spec := "specHangs", inPlace := ["math.Float64frombits", "math.Float64bits", "math.archTrunc"], unfollowed := true, recurses := true, apart := false }
def SpecHangsSaid : Prop := specHangsRow.holds Try.pinned (OpenSpec.ofChange specHangsSpec)

/-- ITS FALSE NEIGHBOUR: 'it returns false'. Refute it at one input. -/
def specHangsWrong : ChangeSpec := { name := "specHangs", fn := fun _ => fun
  | [d1, d2, d3] => { results := [.lit (.bool false)], args := [d1, d2, d3] }
  | _ => none }
def SpecHangsWrongFalsely : Prop := specHangsRow.holds Try.pinned (OpenSpec.ofChange specHangsWrong)

/-- 'rowlocklaw17.SpecSafe': WHATEVER THE INPUT: true; the input reads as it did. -/
def specSafeSpec : ChangeSpec := { name := "specSafe", fn := fun _ => fun
  | [d1, d2] => { results := [.lit (.bool true)], args := [d1, d2] }
  | _ => none }
def specSafeRow : OpenClaim := { program := "ytlndbligbpfdpaa", sum := "6cdb2e981f1fcd3230c60665ea581c7c5f1eb0c23d0ed0ead9fe518193a99f79", func := "rowlock/rowlocklaw17.SpecSafe", spec := "specSafe", inPlace := ["math.Float64frombits", "math.Float64bits", "math.archTrunc"], unfollowed := true, recurses := true, apart := false }
def SpecSafeSaid : Prop := specSafeRow.holds Try.pinned (OpenSpec.ofChange specSafeSpec)

/-- ITS FALSE NEIGHBOUR: 'it returns false'. Refute it at one input. -/
def specSafeWrong : ChangeSpec := { name := "specSafe", fn := fun _ => fun
  | [d1, d2] => { results := [.lit (.bool false)], args := [d1, d2] }
  | _ => none }
def SpecSafeWrongFalsely : Prop := specSafeRow.holds Try.pinned (OpenSpec.ofChange specSafeWrong)

/-- 'rowlocklaw17.SpecStack': WHATEVER THE INPUT: true; the input reads as it did. -/
def specStackSpec : ChangeSpec := { name := "specStack", fn := fun _ => fun
  | [d1, d2] => { results := [.lit (.bool true)], args := [d1, d2] }
  | _ => none }
def specStackRow : OpenClaim := { program := "ytlndbligbpfdpaa", sum := "6cdb2e981f1fcd3230c60665ea581c7c5f1eb0c23d0ed0ead9fe518193a99f79", func := "rowlock/rowlocklaw17.SpecStack", spec := "specStack", inPlace := ["math.Float64frombits", "math.Float64bits", "math.archTrunc"], unfollowed := true, recurses := true, apart := false }
def SpecStackSaid : Prop := specStackRow.holds Try.pinned (OpenSpec.ofChange specStackSpec)

/-- ITS FALSE NEIGHBOUR: 'it returns false'. Refute it at one input. -/
def specStackWrong : ChangeSpec := { name := "specStack", fn := fun _ => fun
  | [d1, d2] => { results := [.lit (.bool false)], args := [d1, d2] }
  | _ => none }
def SpecStackWrongFalsely : Prop := specStackRow.holds Try.pinned (OpenSpec.ofChange specStackWrong)

/- THE SECOND FORM. 'bulk': how many values and letters a reading holds, each counted each time it is reached (what is shared counts as often as it is met; a slice's spare places count too). A statement '..UptoSaid' is the law's where the arguments, and the package variables that the reading takes, are together of bulk at most 1048576: NARROWER than '..Said'. Prove '..Said' where nothing that the law and all that it calls make is longer than what came in: it says more and counts as full. Else prove '..UptoSaid'. A law counts once. -/
mutual
def uptoBulk {H : Type} : DataW H → Nat
  | .lit (.string bytes) => bytes.length + 1
  | .lit _ => 1
  | .nil => 1
  | .ptr d => uptoBulk d + 1
  | .slice elems spare => uptoBulkAll elems + uptoBulkAll spare + 1
  | .agg parts => uptoBulkAll parts + 1
  | .iface _ d => uptoBulk d + 1
  | .map entries => uptoBulkEntries entries + 1
  | .held _ => 1
def uptoBulkAll {H : Type} : List (DataW H) → Nat
  | [] => 0
  | d :: r => uptoBulk d + uptoBulkAll r
def uptoBulkEntries {H : Type} : List (Lit × DataW H) → Nat
  | [] => 0
  | x :: r => uptoBulkEntry x + uptoBulkEntries r
def uptoBulkEntry {H : Type} : Lit × DataW H → Nat
  | (.string bytes, d) => bytes.length + uptoBulk d + 1
  | (_, d) => uptoBulk d + 1
 end
def uptoSmall : (H : Type) → List (DataW H) → Bool := fun _ ds => decide (uptoBulkAll ds ≤ 1048576)
def OpenSpec.upto (s : _root_.Go.ChangeSpec) : _root_.Go.OpenSpec := { _root_.Go.OpenSpec.ofChange s with cond := some uptoSmall }

/-- 'rowlocklaw17.SpecSteps', WHERE WHAT IT READS IS OF BULK AT MOST 1048576: true; the input reads as it did. -/
def specStepsUptoRow : OpenClaim := { program := "ytlndbligbpfdpaa", sum := "6cdb2e981f1fcd3230c60665ea581c7c5f1eb0c23d0ed0ead9fe518193a99f79", func := "rowlock/rowlocklaw17.SpecSteps", spec := "specSteps", inPlace := ["math.Float64frombits", "math.Float64bits", "math.archTrunc"], unfollowed := true, recurses := true, apart := false, narrowed := true }
def SpecStepsUptoSaid : Prop := specStepsUptoRow.holds Try.pinned (OpenSpec.upto specStepsSpec)

/-- 'rowlocklaw17.SpecNothing', WHERE WHAT IT READS IS OF BULK AT MOST 1048576: true; the input reads as it did. -/
def specNothingUptoRow : OpenClaim := { program := "ytlndbligbpfdpaa", sum := "6cdb2e981f1fcd3230c60665ea581c7c5f1eb0c23d0ed0ead9fe518193a99f79", func := "rowlock/rowlocklaw17.SpecNothing", spec := "specNothing", inPlace := ["math.Float64frombits", "math.Float64bits", "math.archTrunc"], unfollowed := true, recurses := true, apart := false, narrowed := true }
def SpecNothingUptoSaid : Prop := specNothingUptoRow.holds Try.pinned (OpenSpec.upto specNothingSpec)

/-- 'rowlocklaw17.SpecHangs', WHERE WHAT IT READS IS OF BULK AT MOST 1048576: true; the input reads as it did. -/
def specHangsUptoRow : OpenClaim := { program := "ytlndbligbpfdpaa", sum := "6cdb2e981f1fcd3230c60665ea581c7c5f1eb0c23d0ed0ead9fe518193a99f79", func := "rowlock/rowlocklaw17.SpecHangs", spec := "specHangs", inPlace := ["math.Float64frombits", "math.Float64bits", "math.archTrunc"], unfollowed := true, recurses := true, apart := false, narrowed := true }
def SpecHangsUptoSaid : Prop := specHangsUptoRow.holds Try.pinned (OpenSpec.upto specHangsSpec)

/-- 'rowlocklaw17.SpecSafe', WHERE WHAT IT READS IS OF BULK AT MOST 1048576: true; the input reads as it did. -/
def specSafeUptoRow : OpenClaim := { program := "ytlndbligbpfdpaa", sum := "6cdb2e981f1fcd3230c60665ea581c7c5f1eb0c23d0ed0ead9fe518193a99f79", func := "rowlock/rowlocklaw17.SpecSafe", spec := "specSafe", inPlace := ["math.Float64frombits", "math.Float64bits", "math.archTrunc"], unfollowed := true, recurses := true, apart := false, narrowed := true }
def SpecSafeUptoSaid : Prop := specSafeUptoRow.holds Try.pinned (OpenSpec.upto specSafeSpec)

/-- 'rowlocklaw17.SpecStack', WHERE WHAT IT READS IS OF BULK AT MOST 1048576: true; the input reads as it did. -/
def specStackUptoRow : OpenClaim := { program := "ytlndbligbpfdpaa", sum := "6cdb2e981f1fcd3230c60665ea581c7c5f1eb0c23d0ed0ead9fe518193a99f79", func := "rowlock/rowlocklaw17.SpecStack", spec := "specStack", inPlace := ["math.Float64frombits", "math.Float64bits", "math.archTrunc"], unfollowed := true, recurses := true, apart := false, narrowed := true }
def SpecStackUptoSaid : Prop := specStackUptoRow.holds Try.pinned (OpenSpec.upto specStackSpec)

end Rows
end Go.Proofs.Ytlndbligbpfdpaa
