/-
  From the row's condition (lockword.shifts reads as it is laid) to what the walks ask; the door's own heap meets the condition.
-/
import Derived.Test.YthkphhjhgkclfaaDoorLockBase
import Derived.Test.YthkphhjhgkclfaaDoorTie
import Derived.Test.YthkphhjhgkclfaaDoorCards
import Derived.ProofKit
import Derived.LaidMore
import Derived.OpenShut
import Derived.Stop.Joined
import Derived.Lib.LaidTab
import Derived.Lib.SmallJoins
namespace Go.Proofs.YthkphhjhgkclfaaDoor
set_option linter.unusedVariables false
set_option linter.unusedSimpArgs false
open Go.ChangeShapes Go.WideShapes Go.ChangeAt Go.RowKit Go.Joins

theorem Tryd.own : ownKnob Tryd.prog.godebug = none := by kernel_rfl
theorem Tryd.laidOut : laidOutB Tryd.prog = true := by kernel_rfl
theorem Tryd.gShifts : Tryd.prog.globalNamed "rowlock/lockword.shifts" = some 0 := by kernel_rfl
theorem Tryd.tShifts : (Tryd.prog.globals[0]?).map (·.type) = some 89 := by kernel_rfl
theorem Tryd.cellsUint : Tryd.prog.cellsOf 88 = 1 := by kernel_rfl
theorem Tryd.cellsShifts : Tryd.prog.cellsOf 89 = 3 := by kernel_rfl

/-- What the rows list. -/
def laid1 : List (String × DataW Unit) := [("rowlock/lockword.shifts", Rows.laid_rowlock_lockword_shifts)]

theorem wf_u8 {x : Int} (h : (Lit.int .u8 x).wf = true) : 0 ≤ x ∧ x ≤ 255 := by
  simp [Lit.wf, IntKind.min, IntKind.max, IntKind.signed, IntKind.bits] at h; omega
theorem wf_u64 {x : Int} (h : (Lit.int .u64 x).wf = true) : 0 ≤ x ∧ x < 18446744073709551616 := by
  simp [Lit.wf, IntKind.min, IntKind.max, IntKind.signed, IntKind.bits] at h; omega
theorem wf_i64 {x : Int} (h : (Lit.int .i64 x).wf = true) : -9223372036854775808 ≤ x ∧ x ≤ 9223372036854775807 := by
  simp [Lit.wf, IntKind.min, IntKind.max, IntKind.signed, IntKind.bits] at h; omega

theorem lt_of_cell {w : World} {p : Addr} {v : Value} (h : w.cell? p = some v) : p.block < w.heap.size := by
  apply Classical.byContradiction
  intro hn
  have : w.heap[p.block]? = none := by simpa using hn
  simp [World.cell?, this] at h

theorem sh_of_laid {W : World} (h : laidMetH Tryd.prog laid1 W) : Sh W := by
  rw [MakeChecks.laidMetH_plain _ _ _ (by kernel_rfl)] at h
  have hT := Lib.tabIs_of_head (k := .u64) (zs := [0, 1, 5]) (rest := []) Tryd.gShifts Tryd.tShifts Tryd.underlying89 Tryd.underlying88 Tryd.cellsUint Tryd.cellsShifts h
  have h0 := hT.cell Tryd.gShifts 0 (by decide)
  exact ⟨lt_of_cell h0, h0, hT.cell Tryd.gShifts 1 (by decide), hT.cell Tryd.gShifts 2 (by decide)⟩

/-- The door's own heap meets the condition. -/
theorem door_met (os : Os) (args : Array Value) : laidMetH Tryd.prog laid1 ((World.doorLaid Tryd.prog 400 os).forCall (fun _ _ => 0) ⟨#[], args, []⟩).memory :=
  laidMetH_of_parts3 (fuel := 8) (laidMet_of_run' 8 (by kernel_rfl) (by kernel_rfl)) (by kernel_rfl) (by kernel_rfl)

end Go.Proofs.YthkphhjhgkclfaaDoor
