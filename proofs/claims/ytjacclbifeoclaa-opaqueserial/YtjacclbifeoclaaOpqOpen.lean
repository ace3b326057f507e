/-
  FROM AN ARGUMENT's READING TO VALUES AND NUMBERS THAT CAN BE READ.
-/
import Derived.Test.YtjacclbifeoclaaHistOpen
import Derived.Test.YtjacclbifeoclaaOpqBase
namespace Go.Proofs.Ytjacclbifeoclaa
set_option linter.unusedVariables false
set_option linter.unusedSimpArgs false
set_option maxRecDepth 100000
open Go.ChangeShapes Go.WideShapes Go.ChangeAt Go.RowKit Go.Joins Go.Deep

theorem oval_of_trod {H : Type} {enc : TypeId × Value → H} {w : World} {base : Nat} {spare : Nat → Bool} {held : Bool} {fuel : Nat} {cs : List Value} {x : DataW H × List MemPlace} (h : DataW.trod enc Try.prog w base spare held fuel 49 cs = some x) :
    ∃ o : Int, Wf64 o ∧ cs = [Value.int .u64 o] := by
  obtain ⟨k, e0, _, wk⟩ := DataW.trod_int Try.underlying49 h
  exact ⟨k, wf_u64 wk, e0⟩
/-- A slice of values that came in. -/
theorem ovals_of_trod {H : Type} {enc : TypeId × Value → H} {W : World} {ao : Option Addr} {len cap : Nat} {d : DataW H} {p : List MemPlace} (h : DataW.Trod enc Try.prog W 0 (fun _ => true) true 23 (.slice ao len cap) d p) :
    ∃ l : List Int, VRow W (.slice ao len cap) l ∧ (∀ o ∈ l, Wf64 o) ∧ l.length ≤ maxLen :=
  rows_of_trod (α := Int) (n := 1) (cells := fun x : Int => [Value.int .u64 x]) (Wf := Wf64) 0 (by decide) (fun _ => rfl) Try.underlying23 Try.cells_val (fun h => oval_of_trod h) h
theorem oint_of_trod {H : Type} {enc : TypeId × Value → H} {w : World} {base : Nat} {spare : Nat → Bool} {held : Bool} {fuel : Nat} {cs : List Value} {x : DataW H × List MemPlace} (h : DataW.trod enc Try.prog w base spare held fuel 3 cs = some x) :
    ∃ o : Int, W64 o ∧ cs = [Value.int .i64 o] := by
  obtain ⟨k, e0, _, wk⟩ := DataW.trod_int Try.underlying3 h
  exact ⟨k, wf_i64 wk, e0⟩
/-- A slice of numbers that came in. -/
theorem oints_of_trod {H : Type} {enc : TypeId × Value → H} {W : World} {ao : Option Addr} {len cap : Nat} {d : DataW H} {p : List MemPlace} (h : DataW.Trod enc Try.prog W 0 (fun _ => true) true 24 (.slice ao len cap) d p) :
    ∃ l : List Int, IRow W (.slice ao len cap) l ∧ (∀ o ∈ l, W64 o) ∧ l.length ≤ maxLen :=
  rows_of_trod (α := Int) (n := 1) (cells := fun x : Int => [Value.int .i64 x]) (Wf := W64) 0 (by decide) (fun _ => rfl) Try.underlying24 Try.cells_int (fun h => oint_of_trod h) h

end Go.Proofs.Ytjacclbifeoclaa
