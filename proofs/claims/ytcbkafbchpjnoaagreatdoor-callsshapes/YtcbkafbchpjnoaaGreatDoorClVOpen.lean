/-
  The statements on calls: a row of values that came in.
-/
import Derived.Test.YtcbkafbchpjnoaaGreatDoorAllB
import Derived.Test.YtcbkafbchpjnoaaGreatDoorClOpen
namespace Go.Proofs.YtcbkafbchpjnoaaGreatDoor
set_option linter.unusedVariables false
set_option linter.unusedSimpArgs false
set_option maxRecDepth 100000
open Go.ChangeShapes Go.WideShapes Go.ChangeAt Go.RowKit Go.Joins Go.Deep

theorem clval_of_trod {H : Type} {enc : TypeId × Value → H} {w : World} {base : Nat} {spare : Nat → Bool} {held : Bool} {fuel : Nat} {cs : List Value} {x : DataW H × List MemPlace} (h : DataW.trod enc Tryz.prog w base spare held fuel 50 cs = some x) :
    ∃ o : Int, Wf64 o ∧ cs = clc o := by
  obtain ⟨k, e0, _, wk⟩ := DataW.trod_int Tryz.underlying50 h
  simp [Lit.wf, IntKind.min, IntKind.max, IntKind.signed, IntKind.bits] at wk
  exact ⟨k, by unfold Wf64; omega, e0⟩
theorem clvals_of_trod {H : Type} {enc : TypeId × Value → H} {W : World} {ao : Option Addr} {len cap : Nat} {d : DataW H} {p : List MemPlace} (h : DataW.Trod enc Tryz.prog W 0 (fun _ => true) true 33 (.slice ao len cap) d p) :
    ∃ l : List Int, SRow 1 clc W (.slice ao len cap) l ∧ (∀ o ∈ l, Wf64 o) ∧ l.length ≤ maxLen :=
  rows_of_trod (α := Int) (n := 1) (cells := clc) (Wf := Wf64) 0 (by decide) (fun _ => rfl) Tryz.underlying33 Tryz.cells_val (fun h => clval_of_trod h) h
theorem clV_of {W : World} {ao : Option Addr} {cap : Nat} {l : List Int} (hr : SRow 1 clc W (.slice ao l.length cap) l) (hw : ∀ o ∈ l, Wf64 o) (hc : l.length ≤ cap) : ClV W ao l.length cap l := ⟨rfl, hr, hc, hw⟩
theorem clmax {n : Nat} (h : n ≤ maxLen) : n ≤ 9223372036854775807 := by unfold maxLen at h; omega

end Go.Proofs.YtcbkafbchpjnoaaGreatDoor
