/-
  TopFirst: its program, and what Block comes to there, RECKONED.
-/
import Derived.Test.YtmncidlfikgmkaaSpBlock
namespace Go.Proofs.Ytmncidlfikgmkaa
set_option linter.unusedVariables false
set_option linter.unusedSimpArgs false
open Go.RowKit

def oneF : Int := 4607182418800017408
def armL (k at_ : Int) : List InsD := [⟨4, k, 0⟩, ⟨16, 0, 0⟩, ⟨20, at_ + 7, 0⟩, ⟨1, 0, oneF⟩, ⟨9, 0, 0⟩, ⟨5, k, 0⟩, ⟨19, at_ + 8, 0⟩, ⟨26, 0, 0⟩]
def firstL : List InsD := [⟨21, 20, 0⟩, ⟨23, 10, 0⟩] ++ armL 0 2 ++ [⟨24, 19, 0⟩] ++ armL 1 11 ++ [⟨25, 0, 0⟩, ⟨22, 0, 0⟩, ⟨28, 0, 0⟩]
def smallV (n : Nat) : Int := if n = 0 then 0 else if n = 1 then oneF else 4611686018427387904
theorem smallV_eq : ∀ n : Nat, n < 3 → ofB (floatOfInt .f64 (n : Int)) = smallV n := by decide +kernel
theorem first_retry : (outX firstL zWD [smallV 0, smallV 0] 60).1 = -1 := by decide +kernel
theorem first_one : ∀ x, x < 3 → ∀ y, y < 3 → x ≠ 0 → (outX firstL zWD [smallV x, smallV y] 60).1 = 0 ∧ (outX firstL zWD [smallV x, smallV y] 60).2.arms = [true] ∧ (outX firstL zWD [smallV x, smallV y] 60).2.h = [smallV (x - 1), smallV y] := by decide +kernel
theorem first_two : ∀ y, y < 3 → y ≠ 0 → (outX firstL zWD [smallV 0, smallV y] 60).1 = 0 ∧ (outX firstL zWD [smallV 0, smallV y] 60).2.arms = [false] ∧ (outX firstL zWD [smallV 0, smallV y] 60).2.h = [smallV 0, smallV (y - 1)] := by decide +kernel

theorem smallV_wf : ∀ n, n < 3 → 0 ≤ smallV n ∧ smallV n < 18446744073709551616 := by decide +kernel

end Go.Proofs.Ytmncidlfikgmkaa
