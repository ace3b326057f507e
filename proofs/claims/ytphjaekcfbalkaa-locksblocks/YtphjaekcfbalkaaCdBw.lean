/-
  package code: byWord BY ITS CONTRACT.
-/
import Derived.Test.YtphjaekcfbalkaaCdBy
import Derived.Deep.MidRow
namespace Go.Proofs.Ytphjaekcfbalkaa
set_option linter.unusedVariables false
set_option linter.unusedSimpArgs false
open Go.RowKit Go.Maps
attribute [local go_sem] Oper.semAt_some

def wordsL : List Value := (List.range 29).map fun k => Value.string (wordB k)
end Go.Proofs.Ytphjaekcfbalkaa
