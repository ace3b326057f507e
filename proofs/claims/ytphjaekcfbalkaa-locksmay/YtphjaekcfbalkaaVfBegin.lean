/-
  package verify: begin BY ITS CONTRACT.
-/
import Derived.Test.YtphjaekcfbalkaaVfOps
namespace Go.Proofs.Ytphjaekcfbalkaa
set_option linter.unusedVariables false
set_option linter.unusedSimpArgs false
open Go.RowKit
attribute [local go_sem] Oper.semAt_some

end Go.Proofs.Ytphjaekcfbalkaa
