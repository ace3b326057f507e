/-
  package verify: through BY ITS CONTRACT.
-/
import Derived.Test.YtaebcigfinjeiaaDoorVfNext
namespace Go.Proofs.YtaebcigfinjeiaaDoor
set_option linter.unusedVariables false
set_option linter.unusedSimpArgs false
open Go.RowKit
attribute [local go_sem] Oper.semAt_some

end Go.Proofs.YtaebcigfinjeiaaDoor
