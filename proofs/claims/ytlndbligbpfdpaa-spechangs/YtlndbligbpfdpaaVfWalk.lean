/-
  package verify: walk BY ITS CONTRACT.
-/
import Derived.Test.YtlndbligbpfdpaaVfWays
import Derived.WalkMore
import Derived.ScopeJumps
namespace Go.Proofs.Ytlndbligbpfdpaa
set_option linter.unusedVariables false
set_option linter.unusedSimpArgs false
open Go.RowKit
attribute [local go_sem] Oper.semAt_some

def isUn : Value → Bool
  | .int _ x => x == -1
  | _ => false
/-- How many places have no number. -/
def unC (w : World) (g : Nat) : Nat := match w.heap[g]? with
  | some (.cells cs _ _) => cs.toList.countP isUn
  | _ => 0
def cntU (D : List Int) : Nat := D.countP (· == -1)
theorem cnt_le : ∀ (D D' : List Int), D'.length = D.length → (∀ j, dAt D j ≠ -1 → dAt D' j ≠ -1) → cntU D' ≤ cntU D
  | [], D', hl, _ => by
    have : D' = [] := List.eq_nil_of_length_eq_zero hl
    subst this; exact Nat.le_refl _
  | x :: D, [], hl, _ => by simp at hl
  | x :: D, y :: D', hl, h => by
    have ih := cnt_le D D' (by simpa using hl) (fun j hj => by have := h (j + 1); simpa [dAt] using this (by simpa [dAt] using hj))
    have h0 := h 0
    simp only [dAt, List.getD_cons_zero] at h0
    unfold cntU at ih ⊢
    rw [List.countP_cons, List.countP_cons]
    by_cases hx : x = -1
    · subst hx; simp; split <;> omega
    · have := h0 hx
      simp [hx, this]; exact ih
theorem cnt_lt : ∀ (D D' : List Int), D'.length = D.length → (∀ j, dAt D j ≠ -1 → dAt D' j ≠ -1) → (∃ j, j < D.length ∧ dAt D j = -1 ∧ dAt D' j ≠ -1) → cntU D' < cntU D
  | [], D', hl, _, ⟨j, hj, _⟩ => by simp at hj
  | x :: D, [], hl, _, _ => by simp at hl
  | x :: D, y :: D', hl, h, ⟨j, hj, h1, h2⟩ => by
    have hs : ∀ j, dAt D j ≠ -1 → dAt D' j ≠ -1 := fun j hj => by have := h (j + 1); simpa [dAt] using this (by simpa [dAt] using hj)
    have hle := cnt_le D D' (by simpa using hl) hs
    cases j with
    | zero =>
      simp only [dAt, List.getD_cons_zero] at h1 h2
      unfold cntU at hle ⊢
      rw [List.countP_cons, List.countP_cons]
      simp [h1, h2]
      omega
    | succ j =>
      have ih := cnt_lt D D' (by simpa using hl) hs ⟨j, by simpa using hj, by simpa [dAt] using h1, by simpa [dAt] using h2⟩
      have h0 := h 0
      simp only [dAt, List.getD_cons_zero] at h0
      unfold cntU at ih ⊢
      rw [List.countP_cons, List.countP_cons]
      by_cases hx : x = -1
      · subst hx; simp; split <;> omega
      · have := h0 hx
        simp [hx, this]; exact ih

end Go.Proofs.Ytlndbligbpfdpaa
