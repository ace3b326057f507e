/-
  package code: Parse BY ITS CONTRACT, OF A RIGHT INSTRUCTION THAT HAS AN Arg.
-/
import Derived.Test.YtphjaekcfbalkaaCdSaid
import Derived.Test.YtphjaekcfbalkaaCdCut
import Derived.Test.YtphjaekcfbalkaaCdRight
namespace Go.Proofs.Ytphjaekcfbalkaa
set_option linter.unusedVariables false
set_option linter.unusedSimpArgs false
open Go.RowKit
attribute [local go_sem] Oper.semAt_some

end Go.Proofs.Ytphjaekcfbalkaa
