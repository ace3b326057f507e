/-
  package spec: Step BY ITS CONTRACT.
-/
import Derived.Test.YtkpgfchglaemgaaDoorAllB
namespace Go.Proofs.YtkpgfchglaemgaaDoor
set_option linter.unusedVariables false
set_option linter.unusedSimpArgs false
open Go.RowKit
attribute [local go_sem] Oper.semAt_some

theorem res_cell_slot {fn : Func} {p q : Tmp} {ty : TypeId} (h : fn.results = #[.cell p ty, .tmp q]) (tmps : Array Value) (P : Program) (w : World) {v : Value} {a : Addr} (hp : tmps.getD p undef = .pointer (some a)) (hl : (loadVar ty a).run P w = .ok v w) :
    (results fn tmps).run P w = .ok (.tuple #[v, tmps.getD q undef]) w := by
  rw [Array.getD_eq_getD_getElem?] at hp
  simp only [results, h]
  simp [Sem.run_bind, Result.andThen, hp, asAddr, hl]
/-- Behind Step: a State and no error, or the error. -/
def StpP (w : World) (r : Int × WD) (e : Ending) (w' : World) : Prop :=
  (r.1 = 0 ∧ ∃ sa sc oa oc, e = .returned (.tuple #[stV r.2 (.slice sa r.2.st.length sc) (.slice oa r.2.out.length oc), .int .i64 0]) ∧ VRow w' (.slice sa r.2.st.length sc) r.2.st ∧ VRow w' (.slice oa r.2.out.length oc) r.2.out ∧ Touch w w' [] ∧ (∀ g, (Value.slice sa r.2.st.length sc).ownBlock = some g → w.heap.size ≤ g) ∧ (∀ g, (Value.slice oa r.2.out.length oc).ownBlock = some g → w.heap.size ≤ g)) ∨
  (r.1 ≠ 0 ∧ e = .returned (.tuple #[stV zWD (.slice none 0 0) (.slice none 0 0), .int .i64 r.1]) ∧ Touch w w' [])

end Go.Proofs.YtkpgfchglaemgaaDoor
