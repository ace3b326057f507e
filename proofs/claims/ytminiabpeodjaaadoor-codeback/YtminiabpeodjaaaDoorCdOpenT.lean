/-
  The statements on code: from the row's condition to the table that is read, and to the two errors that ParseUint names.
-/
import Derived.Test.YtminiabpeodjaaaDoorCdOpen
import Derived.Test.YtminiabpeodjaaaDoorValueParse2
import Derived.Stop.LaidErr
namespace Go.Proofs.YtminiabpeodjaaaDoor
set_option linter.unusedVariables false
set_option linter.unusedSimpArgs false
open Go.ChangeShapes Go.WideShapes Go.ChangeAt Go.RowKit Go.Joins

theorem Tryd.gTab : Tryd.prog.globalNamed "math/bits.deBruijn64tab" = some 5 := by kernel_rfl
theorem Tryd.tTab : (Tryd.prog.globals[5]?).map (·.type) = some 133 := by kernel_rfl
theorem Tryd.cellsU8 : Tryd.prog.cellsOf 5 = 1 := by kernel_rfl
theorem Tryd.cellsTab : Tryd.prog.cellsOf 133 = 64 := by kernel_rfl
theorem lt_of_cell {w : World} {p : Addr} {v : Value} (h : w.cell? p = some v) : p.block < w.heap.size := by
  apply Classical.byContradiction
  intro hn
  have : w.heap[p.block]? = none := by simpa using hn
  simp [World.cell?, this] at h
theorem tz_of_laid {W : World} (h : laidMetH Tryd.prog laid6 W) : Tz W := by
  rw [MakeChecks.laidMetH_plain _ _ _ (by kernel_rfl)] at h
  have hT := Lib.tabIs_of_head (k := .u8) (zs := [0, 1, 56, 2, 57, 49, 28, 3, 61, 58, 42, 50, 38, 29, 17, 4, 62, 47, 59, 36, 45, 43, 51, 22, 53, 39, 33, 30, 24, 18, 12, 5, 63, 55, 48, 27, 60, 41, 37, 16, 46, 35, 44, 21, 52, 32, 23, 11, 54, 26, 40, 15, 34, 20, 31, 10, 25, 14, 19, 9, 13, 8, 7, 6]) Tryd.gTab Tryd.tTab Tryd.underlying133 Tryd.underlying5 Tryd.cellsU8 Tryd.cellsTab (laidMet_tail h)
  have h0 := hT.cell Tryd.gTab 15 (by decide)
  exact ⟨lt_of_cell h0, h0⟩

theorem Tryd.gSyn : Tryd.prog.globalNamed "strconv.ErrSyntax" = some 6 := by kernel_rfl
theorem Tryd.gRng : Tryd.prog.globalNamed "strconv.ErrRange" = some 7 := by kernel_rfl
theorem Tryd.gSynT : (Tryd.prog.globals[6]?).map (·.type) = some 88 := by kernel_rfl
theorem Tryd.gRngT : (Tryd.prog.globals[7]?).map (·.type) = some 88 := by kernel_rfl
theorem Tryd.cellsES : Tryd.prog.cellsOf 139 = 1 := by kernel_rfl
theorem Tryd.cellsStr : Tryd.prog.cellsOf 9 = 1 := by kernel_rfl
theorem Tryd.star : "*" ++ "errors.errorString" = "*errors.errorString" := by decide
theorem Tryd.rowES (u : TypeId) (h : Tryd.prog.typeName? 3 u = some "*errors.errorString") : u = 137 :=
  typeName_ptr_named (nm := "errors.errorString") (by rw [Tryd.star]; kernel_rfl) (by kernel_rfl) (by decide) u (by rw [Tryd.star]; exact h)
theorem ev_of_laid {W : World} (h : laidMetH Tryd.prog laid6 W) : Ev W := by
  have hz := tz_of_laid h
  rw [MakeChecks.laidMetH_plain _ _ _ (by kernel_rfl)] at h
  have h3 := laidMet_tail (laidMet_tail (laidMet_tail h))
  have h4 := laidMet_tail h3
  obtain ⟨a1, s1, hv1, _⟩ := laid_sentinel h3 Tryd.gRng Tryd.gRngT Tryd.underlying88 Tryd.rowES Tryd.underlying137 Tryd.underlying139 rfl rfl Tryd.underlying9 Tryd.cellsES Tryd.cellsStr
  obtain ⟨a2, s2, hv2, _⟩ := laid_sentinel h4 Tryd.gSyn Tryd.gSynT Tryd.underlying88 Tryd.rowES Tryd.underlying137 Tryd.underlying139 rfl rfl Tryd.underlying9 Tryd.cellsES Tryd.cellsStr
  have c1 : W.cell? ⟨7, 0, none⟩ = some (.iface 137 (.pointer (some a1))) := by simpa using World.var?_cell Tryd.gRng hv1 0
  have c2 : W.cell? ⟨6, 0, none⟩ = some (.iface 137 (.pointer (some a2))) := by simpa using World.var?_cell Tryd.gSyn hv2 0
  exact ⟨⟨_, _, c2, lt_of_cell c2⟩, ⟨_, _, c1, lt_of_cell c1⟩, hz⟩

end Go.Proofs.YtminiabpeodjaaaDoor
