/-
  package code: Parse BY ITS CONTRACT, OF A RIGHT INSTRUCTION THAT HAS AN Arg.
-/
import Derived.Test.YtcbkafbchpjnoaaGreatDoorCdSaid
import Derived.Test.YtcbkafbchpjnoaaGreatDoorCdCut
import Derived.Test.YtcbkafbchpjnoaaGreatDoorAllA
namespace Go.Proofs.YtcbkafbchpjnoaaGreatDoor
set_option linter.unusedVariables false
set_option linter.unusedSimpArgs false
open Go.RowKit
attribute [local go_sem] Oper.semAt_some

end Go.Proofs.YtcbkafbchpjnoaaGreatDoor
