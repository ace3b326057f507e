/-
  package code: said BY ITS CONTRACT, OF AN OPERATION THAT HAS AN Arg.
-/
import Derived.Test.YtcbkafbchpjnoaaGreatDoorAllA
import Derived.Test.YtcbkafbchpjnoaaGreatDoorCdNum
namespace Go.Proofs.YtcbkafbchpjnoaaGreatDoor
set_option linter.unusedVariables false
set_option linter.unusedSimpArgs false
open Go.RowKit
attribute [local go_sem] Oper.semAt_some

theorem arg_not_val {o : Int} (h : argP o = true) : valP o = false := by
  have : o = 2 ∨ o = 3 ∨ o = 4 ∨ o = 5 ∨ o = 6 ∨ o = 7 ∨ o = 19 ∨ o = 20 ∨ o = 21 ∨ o = 23 ∨ o = 24 := by simpa [argP] using h
  simp [valP]; omega

end Go.Proofs.YtcbkafbchpjnoaaGreatDoor
