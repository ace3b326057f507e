/-
  package verify: around, mayBegin, begin BY THEIR CONTRACTS.
-/
import Derived.Test.YtlndbligbpfdpaaVfMatch
namespace Go.Proofs.Ytlndbligbpfdpaa
set_option linter.unusedVariables false
set_option linter.unusedSimpArgs false
open Go.RowKit
attribute [local go_sem] Oper.semAt_some

theorem kind_ne {w : World} {B n k : Nat} {e T : TypeId} {v : Value} {xs : List Value} {b : Nat} {cs : Array Value} {f : Nat × Nat} (h : w.ownsRow B e n v k xs) (hb : w.heap[b]? = some (.cells cs T f)) (ht : e ≠ T) : v.ownBlock ≠ some b := fun hv => by
  obtain ⟨c, fz, h1⟩ := Lib.ownsRow_kind h b hv
  rw [hb] at h1
  simp only [Option.some.injEq, Obj.cells.injEq] at h1
  exact ht h1.2.1.symm
end Go.Proofs.Ytlndbligbpfdpaa
