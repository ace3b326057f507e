/-
  FROM AN ARGUMENT's READING TO EVENTS THAT CAN BE READ, and numbers by value.
-/
import Derived.Test.YtmiaibpdeofokaaGreatDoorAllA
import Derived.Test.YtmiaibpdeofokaaGreatDoorCapsOf
import Derived.OpenShut
namespace Go.Proofs.YtmiaibpdeofokaaGreatDoor
set_option linter.unusedVariables false
set_option linter.unusedSimpArgs false
set_option maxRecDepth 100000
open Go.ChangeShapes Go.WideShapes Go.ChangeAt Go.RowKit Go.Joins Go.Deep

theorem Tryz.own : ownKnob Tryz.prog.godebug = none := by kernel_rfl
theorem Tryz.laidOut : laidOutB Tryz.prog = true := by kernel_rfl
theorem Tryz.cells_val : Tryz.prog.cellsOf 48 = 1 := by kernel_rfl
theorem Tryz.cells_kind : Tryz.prog.cellsOf 46 = 1 := by kernel_rfl
theorem Tryz.cells_ev : Tryz.prog.cellsOf 50 = 4 := by kernel_rfl

theorem ev_of_trod {H : Type} {enc : TypeId × Value → H} {w : World} {base : Nat} {spare : Nat → Bool} {held : Bool} {fuel : Nat} {cs : List Value} {x : DataW H × List MemPlace} (h : DataW.trod enc Tryz.prog w base spare held fuel 50 cs = some x) :
    ∃ o : EvD, o.Wf ∧ cs = o.cells := by
  obtain ⟨y0, y1, y2, y3, n, _, hl, h0, h1, h2, h3⟩ := trod_struct4 Tryz.underlying50 h
  rw [Tryz.cells_ev] at hl
  match cs, hl with
  | [c0, c1, c2, c3], _ =>
    simp only [Tryz.cells_int, Tryz.cells_val, Tryz.cells_kind, List.drop_zero, List.drop_succ_cons, List.take_succ_cons, List.take_zero] at h0 h1 h2 h3
    obtain ⟨k, e0, _, wk⟩ := DataW.trod_int Tryz.underlying46 h0
    obtain ⟨c, e1, _, wc⟩ := DataW.trod_int Tryz.underlying3 h1
    obtain ⟨t, e2, _, wt⟩ := DataW.trod_int Tryz.underlying3 h2
    obtain ⟨a, e3, _, wa⟩ := DataW.trod_int Tryz.underlying48 h3
    simp at e0 e1 e2 e3
    subst e0 e1 e2 e3
    exact ⟨⟨k, c, t, a⟩, ⟨wf_u8 wk, wf_i64 wc, wf_i64 wt, wf_u64 wa⟩, rfl⟩

/-- A slice of events that came in. -/
theorem events_of_trod {H : Type} {enc : TypeId × Value → H} {W : World} {ao : Option Addr} {len cap : Nat} {d : DataW H} {p : List MemPlace} (h : DataW.Trod enc Tryz.prog W 0 (fun _ => true) true 22 (.slice ao len cap) d p) :
    ∃ l : List EvD, EvRow W (.slice ao len cap) l ∧ (∀ o ∈ l, o.Wf) ∧ l.length ≤ maxLen :=
  rows_of_trod (α := EvD) (n := 4) (cells := EvD.cells) (Wf := EvD.Wf) ⟨0, 0, 0, 0⟩ (by decide) (fun _ => rfl) Tryz.underlying22 Tryz.cells_ev (fun h => ev_of_trod h) h


end Go.Proofs.YtmiaibpdeofokaaGreatDoor
