/-
  package verify: begin BY ITS CONTRACT.
-/
import Derived.Test.YtaebcigfinjeiaaDoorVfOps
namespace Go.Proofs.YtaebcigfinjeiaaDoor
set_option linter.unusedVariables false
set_option linter.unusedSimpArgs false
open Go.RowKit
attribute [local go_sem] Oper.semAt_some

end Go.Proofs.YtaebcigfinjeiaaDoor
