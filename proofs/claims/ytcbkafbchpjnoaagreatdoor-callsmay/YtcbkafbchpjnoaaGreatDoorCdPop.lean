/-
  package code: WHAT OPERATIONS POP AND PUSH, AS PLAIN DATA. No walk.
-/
import Derived.Test.YtcbkafbchpjnoaaGreatDoorAllA
namespace Go.Proofs.YtcbkafbchpjnoaaGreatDoor
set_option linter.unusedVariables false
set_option linter.unusedSimpArgs false
open Go.RowKit

def popV (o : Int) : Int := if o = 3 ∨ o = 5 ∨ o = 17 ∨ o = 20 ∨ o = 27 ∨ o = 6 ∨ o = 12 ∨ o = 15 ∨ o = 16 then 1 else if o = 7 ∨ o = 8 ∨ o = 9 ∨ o = 10 ∨ o = 11 ∨ o = 13 ∨ o = 14 ∨ o = 18 then 2 else 0
def pushV (o : Int) : Int := if o = 1 ∨ o = 2 ∨ o = 4 ∨ o = 6 ∨ o = 12 ∨ o = 15 ∨ o = 8 ∨ o = 9 ∨ o = 10 ∨ o = 11 ∨ o = 13 ∨ o = 14 then 1 else if o = 16 ∨ o = 18 then 2 else 0
theorem pop_le (o : Int) : 0 ≤ popV o ∧ popV o ≤ 2 := by unfold popV; split <;> (try split) <;> omega
theorem push_le (o : Int) : 0 ≤ pushV o ∧ pushV o ≤ 2 := by unfold pushV; split <;> (try split) <;> omega

end Go.Proofs.YtcbkafbchpjnoaaGreatDoor
