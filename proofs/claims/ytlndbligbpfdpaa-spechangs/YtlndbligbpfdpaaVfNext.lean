/-
  package verify: isPlace, nexts BY THEIR CONTRACTS.
-/
import Derived.Test.YtlndbligbpfdpaaVfReg
import Derived.Test.YtlndbligbpfdpaaVfEff
import Derived.Test.YtlndbligbpfdpaaVfDep
namespace Go.Proofs.Ytlndbligbpfdpaa
set_option linter.unusedVariables false
set_option linter.unusedSimpArgs false
open Go.RowKit
attribute [local go_sem] Oper.semAt_some

theorem lit_own (w : World) (xs : List Int) (hx : xs.length ≤ 1000) : intOwnV (w.alloc (.cells (xs.map (Value.int .i64)).toArray 3)) w.heap.size (.slice (some ⟨w.heap.size, 0, none⟩) xs.length xs.length) xs := by
  refine ⟨by simp, .inr ⟨w.heap.size, xs.length, (xs.map (Value.int .i64)).toArray, rfl, Nat.le_refl _, heap_alloc_new w _, Nat.le_refl _, by unfold maxLen; omega, by simp, ?_⟩⟩
  rw [List.take_of_length_le (by simp)]

end Go.Proofs.Ytlndbligbpfdpaa
