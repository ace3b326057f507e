/-
  WHAT THE FRAMES OF THE PROOFS ON locks STAND ON.
-/
import Derived.Test.YtjbbjbbkembknaaAllC
import Derived.OpenShut
namespace Go.Proofs.Ytjbbjbbkembknaa
set_option linter.unusedVariables false
set_option linter.unusedSimpArgs false
open Go.ChangeShapes Go.WideShapes Go.ChangeAt Go.RowKit Go.Joins Go.Deep

theorem Try.own : ownKnob Try.prog.godebug = none := by kernel_rfl
theorem Try.laidOut : laidOutB Try.prog = true := by kernel_rfl

end Go.Proofs.Ytjbbjbbkembknaa
