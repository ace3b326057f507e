/-
  THE STATEMENTS ON package locks, WALKED: LocksBlocks, LocksCounts.
-/
import Derived.Test.YtcbkafbchpjnoaaGreatDoorLkRefs
namespace Go.Proofs.YtcbkafbchpjnoaaGreatDoor
set_option linter.unusedVariables false
set_option linter.unusedSimpArgs false
open Go.RowKit
attribute [local go_sem] Oper.semAt_some

def lkL (er : Int) (L : List InsD) : List InsD := if er = 0 then L else []
/-- What the blocks come to, in the same words. -/
def LkQ (w : World) (er : Int) (n : Nat) (l : List InsD) (e : Ending) (w' : World) : Prop := ∃ ao cap, e = .returned (.tuple #[.slice ao n cap, .int .i64 er]) ∧ InsIn w' ao n cap l ∧ Touch w w' []
theorem LkP.q {w : World} {er : Int} {L : List InsD} {e : Ending} {w' : World} (h : LkP w er L e w') : LkQ w er (lkL er L).length (lkL er L) e w' := by
  rcases h with ⟨rfl, ao, cap, h2, h3, h4⟩ | ⟨h1, h2, h4⟩
  · exact ⟨ao, cap, h2, h3, h4⟩
  · have e : lkL er L = [] := by unfold lkL; rw [if_neg h1]
    rw [e]
    exact ⟨none, 0, h2, ⟨rfl, ⟨none, 0, rfl, fun h => absurd rfl h⟩, Nat.le_refl _, by omega, by simp⟩, h4⟩
theorem lkL_len {er : Int} {L : List InsD} (h : L.length ≤ 1000) : (lkL er L).length ≤ 1000 := by
  unfold lkL; split
  · exact h
  · simp

end Go.Proofs.YtcbkafbchpjnoaaGreatDoor
