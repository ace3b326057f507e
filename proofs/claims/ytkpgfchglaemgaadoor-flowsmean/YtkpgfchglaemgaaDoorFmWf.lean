/-
  FlowsMean: the second variable behind a block is a value's bits.
-/
import Derived.Test.YtkpgfchglaemgaaDoorFmBlk
namespace Go.Proofs.YtkpgfchglaemgaaDoor
set_option linter.unusedVariables false
set_option linter.unusedSimpArgs false
open Go.RowKit

def fmWfB (x : Int) : Bool := decide (0 ≤ x) && decide (x < 18446744073709551616)
set_option maxRecDepth 100000 in
theorem fmWfE_fin : ∀ (n : Fin 4) (v : Fin 5) (c : Fin 5) (f : Fin 4), c.val ≤ n.val + 1 → f.val < n.val + 1 → fmWfB ((fmR 0 ((n.val + 1 : Nat) : Int) (numV (v.val : Nat)) (fmQ (n.val + 1) c.val f.val)).2.2.getD 1 0) = true := by decide +kernel
set_option maxRecDepth 100000 in
theorem fmWfT_fin : ∀ (n : Fin 4) (v : Fin 5) (c : Fin 5) (f : Fin 4), c.val ≤ n.val + 1 → f.val < n.val + 1 → fmWfB ((fmR 1 ((n.val + 1 : Nat) : Int) (numV (v.val : Nat)) (fmQ (n.val + 1) c.val f.val)).2.2.getD 1 0) = true := by decide +kernel
theorem fm_wfE (N V c f : Nat) (N1 : 1 ≤ N) (N4 : N ≤ 4) (V4 : V ≤ 4) (cN : c ≤ N) (fN : f < N) : Wf64 ((fmR 0 N (numV V) (fmQ N c f)).2.2.getD 1 0) := by
  have := fmWfE_fin ⟨N - 1, by omega⟩ ⟨V, by omega⟩ ⟨c, by omega⟩ ⟨f, by omega⟩ (by show c ≤ N - 1 + 1; omega) (by show f < N - 1 + 1; omega)
  simp only [show N - 1 + 1 = N by omega] at this
  unfold fmWfB at this
  simp only [Bool.and_eq_true, decide_eq_true_eq] at this
  exact this
theorem fm_wfT (N V c f : Nat) (N1 : 1 ≤ N) (N4 : N ≤ 4) (V4 : V ≤ 4) (cN : c ≤ N) (fN : f < N) : Wf64 ((fmR 1 N (numV V) (fmQ N c f)).2.2.getD 1 0) := by
  have := fmWfT_fin ⟨N - 1, by omega⟩ ⟨V, by omega⟩ ⟨c, by omega⟩ ⟨f, by omega⟩ (by show c ≤ N - 1 + 1; omega) (by show f < N - 1 + 1; omega)
  simp only [show N - 1 + 1 = N by omega] at this
  unfold fmWfB at this
  simp only [Bool.and_eq_true, decide_eq_true_eq] at this
  exact this

end Go.Proofs.YtkpgfchglaemgaaDoor
