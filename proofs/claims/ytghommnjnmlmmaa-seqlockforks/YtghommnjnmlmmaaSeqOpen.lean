/-
  FROM AN ARGUMENT's READING TO DEEDS THAT CAN BE READ.
-/
import Derived.Test.YtghommnjnmlmmaaSeqLaws
namespace Go.Proofs.Ytghommnjnmlmmaa
set_option linter.unusedVariables false
set_option linter.unusedSimpArgs false
open Go.ChangeShapes Go.WideShapes Go.ChangeAt Go.RowKit Go.Joins Go.Deep

theorem Try.own : ownKnob Try.prog.godebug = none := by kernel_rfl
theorem Try.laidOut : laidOutB Try.prog = true := by kernel_rfl
theorem Try.cells_deed : Try.prog.cellsOf 46 = 3 := by kernel_rfl

theorem deed_of_trod {H : Type} {enc : TypeId × Value → H} {w : World} {base : Nat} {spare : Nat → Bool} {held : Bool} {fuel : Nat} {cs : List Value} {x : DataW H × List MemPlace} (h : DataW.trod enc Try.prog w base spare held fuel 46 cs = some x) :
    ∃ o : DeedD, True ∧ cs = o.cells := by
  obtain ⟨y0, y1, y2, n, _, hl, h0, h1, h2⟩ := trod_struct3 Try.underlying46 h
  rw [Try.cells_deed] at hl
  match cs, hl with
  | [c0, c1, c2], _ =>
    simp only [Try.cells_int, Try.cells_u64, List.drop_zero, List.drop_succ_cons, List.take_succ_cons, List.take_zero] at h0 h1 h2
    obtain ⟨k, e0, _, wk⟩ := DataW.trod_int Try.underlying3 h0
    obtain ⟨c, e1, _, wc⟩ := DataW.trod_int Try.underlying3 h1
    obtain ⟨a, e2, _, wa⟩ := DataW.trod_int Try.underlying23 h2
    simp at e0 e1 e2
    subst e0 e1 e2
    exact ⟨⟨k, c, a⟩, trivial, rfl⟩

/-- A slice of deeds that came in. -/
theorem deeds_of_trod {H : Type} {enc : TypeId × Value → H} {W : World} {ao : Option Addr} {len cap : Nat} {d : DataW H} {p : List MemPlace} (h : DataW.Trod enc Try.prog W 0 (fun _ => true) true 22 (.slice ao len cap) d p) :
    ∃ l : List DeedD, DeedRow W (.slice ao len cap) l ∧ (∀ o ∈ l, True) ∧ l.length ≤ maxLen :=
  rows_of_trod (α := DeedD) (n := 3) (cells := DeedD.cells) (Wf := fun _ => True) ⟨0, 0, 0⟩ (by decide) (fun _ => rfl) Try.underlying22 Try.cells_deed (fun h => deed_of_trod h) h

end Go.Proofs.Ytghommnjnmlmmaa
