/-
  package verify: Regions, Blocks BY THEIR CONTRACTS.
-/
import Derived.Test.YtlndbligbpfdpaaVfOf
namespace Go.Proofs.Ytlndbligbpfdpaa
set_option linter.unusedVariables false
set_option linter.unusedSimpArgs false
open Go.RowKit
attribute [local go_sem] Oper.semAt_some

abbrev intOwnV (w : World) (B : Nat) (v : Value) (xs : List Int) : Prop := w.ownsRow B 3 1 v xs.length (xs.map (Value.int .i64))
def ansK (s : MD) : Int := match endV s with | some k => (k : Int) | none => 0
def ansE (s : MD) : Int := match endV s with | some _ => 8 | none => 0
def ansI (s : MD) (xs : List Int) : List Int := match endV s with | some _ => [] | none => xs
/-- What Regions answers. -/
def RegPost (w : World) (l : List InsD) (e : Ending) (w' : World) : Prop :=
  ∃ v, e = .returned (.tuple #[v, .int .i64 (ansK (runV true mayV l l.length)), .int .i64 (ansE (runV true mayV l l.length))]) ∧ intOwnV w' w.heap.size v (ansI (runV true mayV l l.length) (insV l l.length)) ∧ Touch w w' []

end Go.Proofs.Ytlndbligbpfdpaa
