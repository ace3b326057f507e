/-
  live OF THE SIX STATEMENTS ON code.
-/
import Derived.Test.YtcbkafbchpjnoaaGreatDoorAllA
import Derived.Test.YtcbkafbchpjnoaaGreatDoorCdParse
import Derived.Test.YtcbkafbchpjnoaaGreatDoorVfEff
import Derived.Test.YtcbkafbchpjnoaaGreatDoorCdRRead
namespace Go.Proofs.YtcbkafbchpjnoaaGreatDoor
set_option linter.unusedVariables false
set_option linter.unusedSimpArgs false
open Go.RowKit
attribute [local go_sem] Oper.semAt_some

/-- jump 17 -/
def jump17 : ByteArray := ⟨#[106, 117, 109, 112, 32, 49, 55]⟩
theorem jump_blank : blankAt jump17 = some 4 := by decide +kernel
theorem jump_w : cutW jump17 = ⟨#[106, 117, 109, 112]⟩ := by unfold cutW; rw [jump_blank]; rfl
theorem jump_r : cutR jump17 = ⟨#[49, 55]⟩ := by unfold cutR; rw [jump_blank]; rfl
theorem jump_n : numN ⟨#[49, 55]⟩ = 17 := by decide +kernel
theorem jump_ok : numOk ⟨#[49, 55]⟩ = true := by decide +kernel
end Go.Proofs.YtcbkafbchpjnoaaGreatDoor
