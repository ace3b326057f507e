/-
  FROM AN ARGUMENT's READING TO EVENTS THAT CAN BE READ, and numbers by value.
-/
import Derived.Test.YtmiaibpdeofokaaDoorAllA
import Derived.Test.YtmiaibpdeofokaaDoorCapsOf
import Derived.OpenShut
namespace Go.Proofs.YtmiaibpdeofokaaDoor
set_option linter.unusedVariables false
set_option linter.unusedSimpArgs false
set_option maxRecDepth 100000
open Go.ChangeShapes Go.WideShapes Go.ChangeAt Go.RowKit Go.Joins Go.Deep

theorem Tryd.own : ownKnob Tryd.prog.godebug = none := by kernel_rfl
theorem Tryd.laidOut : laidOutB Tryd.prog = true := by kernel_rfl
theorem Tryd.cells_val : Tryd.prog.cellsOf 41 = 1 := by kernel_rfl
theorem Tryd.cells_kind : Tryd.prog.cellsOf 39 = 1 := by kernel_rfl
theorem Tryd.cells_ev : Tryd.prog.cellsOf 43 = 4 := by kernel_rfl

theorem ev_of_trod {H : Type} {enc : TypeId × Value → H} {w : World} {base : Nat} {spare : Nat → Bool} {held : Bool} {fuel : Nat} {cs : List Value} {x : DataW H × List MemPlace} (h : DataW.trod enc Tryd.prog w base spare held fuel 43 cs = some x) :
    ∃ o : EvD, o.Wf ∧ cs = o.cells := by
  obtain ⟨y0, y1, y2, y3, n, _, hl, h0, h1, h2, h3⟩ := trod_struct4 Tryd.underlying43 h
  rw [Tryd.cells_ev] at hl
  match cs, hl with
  | [c0, c1, c2, c3], _ =>
    simp only [Tryd.cells_int, Tryd.cells_val, Tryd.cells_kind, List.drop_zero, List.drop_succ_cons, List.take_succ_cons, List.take_zero] at h0 h1 h2 h3
    obtain ⟨k, e0, _, wk⟩ := DataW.trod_int Tryd.underlying39 h0
    obtain ⟨c, e1, _, wc⟩ := DataW.trod_int Tryd.underlying3 h1
    obtain ⟨t, e2, _, wt⟩ := DataW.trod_int Tryd.underlying3 h2
    obtain ⟨a, e3, _, wa⟩ := DataW.trod_int Tryd.underlying41 h3
    simp at e0 e1 e2 e3
    subst e0 e1 e2 e3
    exact ⟨⟨k, c, t, a⟩, ⟨wf_u8 wk, wf_i64 wc, wf_i64 wt, wf_u64 wa⟩, rfl⟩

/-- A slice of events that came in. -/
theorem events_of_trod {H : Type} {enc : TypeId × Value → H} {W : World} {ao : Option Addr} {len cap : Nat} {d : DataW H} {p : List MemPlace} (h : DataW.Trod enc Tryd.prog W 0 (fun _ => true) true 22 (.slice ao len cap) d p) :
    ∃ l : List EvD, EvRow W (.slice ao len cap) l ∧ (∀ o ∈ l, o.Wf) ∧ l.length ≤ maxLen :=
  rows_of_trod (α := EvD) (n := 4) (cells := EvD.cells) (Wf := EvD.Wf) ⟨0, 0, 0, 0⟩ (by decide) (fun _ => rfl) Tryd.underlying22 Tryd.cells_ev (fun h => ev_of_trod h) h


end Go.Proofs.YtmiaibpdeofokaaDoor
