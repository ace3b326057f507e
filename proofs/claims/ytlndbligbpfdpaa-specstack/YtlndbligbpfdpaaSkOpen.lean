/-
  SpecStack's ARGUMENTS.
-/
import Derived.Test.YtlndbligbpfdpaaSkWalk
import Derived.OpenShut
import Derived.Lib.SmallJoins
namespace Go.Proofs.Ytlndbligbpfdpaa
set_option linter.unusedVariables false
set_option linter.unusedSimpArgs false
set_option maxRecDepth 100000
open Go.ChangeShapes Go.WideShapes Go.ChangeAt Go.RowKit Go.Joins Go.Deep

theorem skwf_u8 {n : Int} (h : (Lit.int .u8 n).wf = true) : 0 ≤ n ∧ n ≤ 255 := by
  simp [Lit.wf, IntKind.min, IntKind.max, IntKind.signed, IntKind.bits] at h
  omega
theorem specstack_open {W : World} {ap : Option Addr} {cp : Nat} {l : List InsD} (hl : InsRow W (.slice ap l.length cp) l) (hlw : ∀ i ∈ l, i.Wf) (hn : l.length ≤ cp ∧ cp ≤ maxLen) (f : Int) (hf : (Lit.int .u8 f).wf = true) :
    Calls Try.prog 7 #[.slice ap l.length cp, .int .u8 f] W fun e w' => e = .returned (.bool true) ∧ Touch W w' [] :=
  specstack_any hl hlw ⟨hn.1, by have := hn.2; unfold maxLen at this; omega⟩ f (skwf_u8 hf)

end Go.Proofs.Ytlndbligbpfdpaa
