/-
  package verify: belongs, reaches BY THEIR CONTRACTS.
-/
import Derived.Test.YtlndbligbpfdpaaVfDeps
namespace Go.Proofs.Ytlndbligbpfdpaa
set_option linter.unusedVariables false
set_option linter.unusedSimpArgs false
open Go.RowKit
attribute [local go_sem] Oper.semAt_some

def varV (o : Int) : Bool := decide (o = 4 ∨ o = 5 ∨ o = 6 ∨ o = 7)
def belV (o : Int) (inside : Bool) : Bool := if o = 4 ∨ o = 5 ∨ o = 6 ∨ o = 7 ∨ o = 26 then inside else if o = 27 ∨ o = 28 then !inside else true
/-- Does the instruction at a place reach what it names? -/
def rchV (l : List InsD) (ins : List Int) (tvars : Int) (k : Nat) : Bool :=
  if varV (opAt l k) then decide (argAt l k < tvars) else if opAt l k = 19 ∨ opAt l k = 20 then decide (0 ≤ argAt l k ∧ argAt l k < l.length) && (ins.getD (argAt l k).toNat 0 == ins.getD k 0) else true

end Go.Proofs.Ytlndbligbpfdpaa
