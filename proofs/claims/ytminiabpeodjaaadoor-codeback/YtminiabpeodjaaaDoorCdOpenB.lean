/-
  FROM AN ARGUMENT's READING TO BYTES THAT CAN BE READ.
-/
import Derived.Test.YtminiabpeodjaaaDoorCdOpen
import Derived.Test.YtminiabpeodjaaaDoorCdOne
namespace Go.Proofs.YtminiabpeodjaaaDoor
set_option linter.unusedVariables false
set_option linter.unusedSimpArgs false
open Go.ChangeShapes Go.WideShapes Go.ChangeAt Go.RowKit Go.Joins Go.Deep

theorem Tryd.cells_byte : Tryd.prog.cellsOf 5 = 1 := by kernel_rfl
theorem byte_of_trod {H : Type} {enc : TypeId × Value → H} {w : World} {base : Nat} {spare : Nat → Bool} {held : Bool} {fuel : Nat} {cs : List Value} {x : DataW H × List MemPlace} (h : DataW.trod enc Tryd.prog w base spare held fuel 5 cs = some x) :
    ∃ o : Int, (0 ≤ o ∧ o < 256) ∧ cs = ucell o := by
  obtain ⟨k, e0, _, wk⟩ := DataW.trod_int Tryd.underlying5 h
  have := wf_u8 wk
  exact ⟨k, by omega, e0⟩
theorem bytes_of_trod {H : Type} {enc : TypeId × Value → H} {W : World} {ao : Option Addr} {len cap : Nat} {d : DataW H} {p : List MemPlace} (h : DataW.Trod enc Tryd.prog W 0 (fun _ => true) true 39 (.slice ao len cap) d p) :
    ∃ l : List Int, BRow W (.slice ao len cap) l ∧ (∀ o ∈ l, 0 ≤ o ∧ o < 256) ∧ l.length ≤ maxLen :=
  rows_of_trod (α := Int) (n := 1) (cells := ucell) (Wf := fun o => 0 ≤ o ∧ o < 256) 0 (by decide) (fun _ => rfl) Tryd.underlying39 Tryd.cells_byte (fun h => byte_of_trod h) h

end Go.Proofs.YtminiabpeodjaaaDoor
