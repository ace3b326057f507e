/-
  package trace: Merge, the program's and the document's, BY THEIR CONTRACTS.
-/
import Derived.Test.YtmiaibpdeofokaaGreatDoorTrBase
import Derived.Lib.AppendZeros
namespace Go.Proofs.YtmiaibpdeofokaaGreatDoor
set_option linter.unusedVariables false
set_option linter.unusedSimpArgs false
open Go.RowKit Go.Maps
attribute [local go_sem] Oper.semAt_some

/-- An event with a higher number. -/
def shE (n : Int) (e : EvD) : EvD := ⟨e.k, e.a + n, e.t, e.v⟩
/-- Two histories, one behind the other. -/
def mergeT (a b : List EvD) : Int × List EvD :=
  if rightS a = true ∧ rightS b = true then (if 400 < a.length + b.length ∨ 64 < abvS a + abvS b then (4, []) else (0, a ++ b.map (shE (abvS a)))) else (3, [])
theorem map_snoc {n : Int} {b : List EvD} {k : Nat} (hk : k < b.length) : (b.take (k + 1)).map (shE n) = (b.take k).map (shE n) ++ [shE n b[k]] := by
  rw [List.take_succ_eq_append_getElem hk, List.map_append]; rfl
def MrgP (w : World) (r : Int × List EvD) (e : Ending) (w' : World) : Prop := ∃ mo mc, e = .returned (.tuple #[.slice mo r.2.length mc, .int .i64 r.1]) ∧ EvRow w' (.slice mo r.2.length mc) r.2 ∧ Touch w w' []
theorem MrgP.nil {w w' : World} {er : Int} (t : Touch w w' []) : MrgP w (er, []) (.returned (.tuple #[.slice none 0 0, .int .i64 er])) w' := ⟨none, 0, rfl, ⟨none, 0, rfl, fun h => absurd rfl h⟩, t⟩
theorem ev_one (x : EvD) : ∀ u ∈ x.cells, u.oneCell' = true := by intro u hu; simp [EvD.cells] at hu; rcases hu with rfl | rfl | rfl | rfl <;> rfl
theorem own_low {w : World} {B B' : Nat} {e : TypeId} {size : Nat} {v : Value} {n : Nat} {xs : List Value} (h : w.ownsRow B e size v n xs) (hB : B' ≤ B) : w.ownsRow B' e size v n xs := by
  refine ⟨h.1, ?_⟩
  rcases h.2 with hn | ⟨g', cap', cur, e, hb, r⟩
  · exact .inl hn
  · exact .inr ⟨g', cap', cur, e, Nat.le_trans hB hb, r⟩

end Go.Proofs.YtmiaibpdeofokaaGreatDoor
