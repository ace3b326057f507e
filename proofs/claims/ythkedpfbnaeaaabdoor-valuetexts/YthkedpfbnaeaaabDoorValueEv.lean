/-
  From the row's condition to the two errors that ParseUint names.
-/
import Derived.Test.YthkedpfbnaeaaabDoorValueLaid
import Derived.Test.YthkedpfbnaeaaabDoorValueParse2
import Derived.Stop.LaidErr
import Derived.SizedLaws
import Derived.ChangeMaps5
namespace Go.Proofs.YthkedpfbnaeaaabDoor
set_option linter.unusedVariables false
set_option linter.unusedSimpArgs false
open Go.ChangeShapes Go.WideShapes Go.ChangeAt Go.RowKit Go.Joins

theorem Tryd.gSyn : Tryd.prog.globalNamed "strconv.ErrSyntax" = some 2 := by kernel_rfl
theorem Tryd.gRng : Tryd.prog.globalNamed "strconv.ErrRange" = some 3 := by kernel_rfl
theorem Tryd.gSynT : (Tryd.prog.globals[2]?).map (·.type) = some 57 := by kernel_rfl
theorem Tryd.gRngT : (Tryd.prog.globals[3]?).map (·.type) = some 57 := by kernel_rfl
theorem Tryd.cellsES : Tryd.prog.cellsOf 108 = 1 := by kernel_rfl
theorem Tryd.cellsStr : Tryd.prog.cellsOf 9 = 1 := by kernel_rfl
theorem Tryd.star : "*" ++ "errors.errorString" = "*errors.errorString" := by decide
theorem Tryd.rowES (u : TypeId) (h : Tryd.prog.typeName? 3 u = some "*errors.errorString") : u = 106 :=
  typeName_ptr_named (nm := "errors.errorString") (by rw [Tryd.star]; kernel_rfl) (by kernel_rfl) (by decide) u (by rw [Tryd.star]; exact h)

theorem ev_of_laid {W : World} (h : laidMetH Tryd.prog laid5 W) : Ev W := by
  have hz := tz_of_laid h
  rw [MakeChecks.laidMetH_plain _ _ _ (by kernel_rfl)] at h
  have h3 := laidMet_tail (laidMet_tail (laidMet_tail h))
  have h4 := laidMet_tail h3
  obtain ⟨a1, s1, hv1, _⟩ := laid_sentinel h3 Tryd.gRng Tryd.gRngT Tryd.underlying57 Tryd.rowES Tryd.underlying106 Tryd.underlying108 rfl rfl Tryd.underlying9 Tryd.cellsES Tryd.cellsStr
  obtain ⟨a2, s2, hv2, _⟩ := laid_sentinel h4 Tryd.gSyn Tryd.gSynT Tryd.underlying57 Tryd.rowES Tryd.underlying106 Tryd.underlying108 rfl rfl Tryd.underlying9 Tryd.cellsES Tryd.cellsStr
  have c1 : W.cell? ⟨3, 0, none⟩ = some (.iface 106 (.pointer (some a1))) := by simpa using World.var?_cell Tryd.gRng hv1 0
  have c2 : W.cell? ⟨2, 0, none⟩ = some (.iface 106 (.pointer (some a2))) := by simpa using World.var?_cell Tryd.gSyn hv2 0
  exact ⟨⟨_, _, c2, lt_of_cell c2⟩, ⟨_, _, c1, lt_of_cell c1⟩, hz⟩

theorem str_lim {t : ByteArray} (h : t.data.toList.length ≤ reachBytes) : t.size ≤ 281474976710656 := by
  have := reachBytes_lt
  rw [Lib.size_eq]
  omega

end Go.Proofs.YthkedpfbnaeaaabDoor
