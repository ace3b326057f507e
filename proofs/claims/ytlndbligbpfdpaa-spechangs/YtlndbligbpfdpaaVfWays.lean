/-
  package verify: waysOf BY ITS CONTRACT.
-/
import Derived.Test.YtlndbligbpfdpaaVfThru
namespace Go.Proofs.Ytlndbligbpfdpaa
set_option linter.unusedVariables false
set_option linter.unusedSimpArgs false
open Go.RowKit
attribute [local go_sem] Oper.semAt_some

def unZ (N k : Nat) : List Int := List.replicate k (-1) ++ List.replicate (N - k) 0
theorem unZ_len {N k : Nat} (h : k ≤ N) : (unZ N k).length = N := by simp [unZ]; omega
theorem unZ_set {N k : Nat} (h : k < N) : (unZ N k).set k (-1) = unZ N (k + 1) := by
  unfold unZ
  rw [List.set_append_right _ _ (by simp), List.length_replicate, Nat.sub_self, show N - k = (N - (k + 1)) + 1 by omega, List.replicate_succ, List.set_cons_zero, List.replicate_succ', List.append_assoc]
  rfl
theorem unZ_begin (N : Nat) (h : 0 < N) : (unZ N N).set 0 0 = beginD N := by
  unfold unZ beginD
  cases N with
  | zero => omega
  | succ n => simp [List.replicate_succ]

end Go.Proofs.Ytlndbligbpfdpaa
