/-
  slices.Sort AT THIS PROGRAM, BY THE SHELF's CONTRACT.
-/
import Derived.Test.YtbiinldodhkkbaaReadsTvars
import Derived.Test.YtbiinldodhkkbaaSortLays
import Derived.Sort.OwnSortedInts
import Derived.Lib.OwnBridge
namespace Go.Proofs.Ytbiinldodhkkbaa
set_option linter.unusedVariables false
set_option linter.unusedSimpArgs false
open Go.RowKit Go.Sort

theorem sort_none (w : World) : Calls Try.prog 39 #[.slice none 0 0] w fun e w' => e = .returned (.tuple #[]) ∧ w = w' :=
  Calls.mono (Any.slices_Sort_int_none Try.Lays_n189 none 0 w) fun e w' h => ⟨h.1, h.2.symm⟩

theorem sort_own {w : World} {base g cap : Nat} {zs : List Int} (h : w.ownsRow base 3 1 (.slice (some ⟨g, 0, none⟩) zs.length cap) zs.length (zs.map (Value.int .i64))) (hz : zs.length ≤ 1000) :
    Calls Try.prog 39 #[.slice (some ⟨g, 0, none⟩) zs.length cap] w fun e w' => e = .returned (.tuple #[]) ∧ w'.ownsRow base 3 1 (.slice (some ⟨g, 0, none⟩) zs.length cap) zs.length ((zs.mergeSort fun x y => decide (x ≤ y)).map (Value.int .i64)) ∧ w.grownBy w' (some g) := by
  rcases h.2 with ⟨e0, _⟩ | ⟨g', cap', cur, e0, hbase, hb, h1, h2, h3, h4⟩
  · cases e0
  · injection e0 with e1 _ e3
    injection e1 with e1
    injection e1 with e1
    subst e1; subst e3
    refine Calls.mono (Any.slices_Sort_int Try.Lays_n189 g 0 cap zs w (holds_of_blockI hb (by simpa using h4)) (lt_of_heap hb) (by omega)) ?_
    rintro e w' ⟨rfl, n, os, rfl⟩
    exact ⟨rfl, ownsRow_sortedI (by simp) hbase hb h1 h2 h3, grownBy_sortedI _⟩

theorem sort_ok : SortOk := ⟨sort_none, sort_own⟩

end Go.Proofs.Ytbiinldodhkkbaa
