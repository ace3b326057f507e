/-
  package code: Parse BY ITS CONTRACT, OF A RIGHT INSTRUCTION THAT HAS AN Arg.
-/
import Derived.Test.YtaebcigfinjeiaaDoorCdSaid
import Derived.Test.YtaebcigfinjeiaaDoorCdCut
import Derived.Test.YtaebcigfinjeiaaDoorAllA
namespace Go.Proofs.YtaebcigfinjeiaaDoor
set_option linter.unusedVariables false
set_option linter.unusedSimpArgs false
open Go.RowKit
attribute [local go_sem] Oper.semAt_some

end Go.Proofs.YtaebcigfinjeiaaDoor
