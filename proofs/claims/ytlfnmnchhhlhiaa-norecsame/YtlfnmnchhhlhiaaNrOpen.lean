/-
  FROM AN ARGUMENT's READING TO DEEDS THAT CAN BE READ.
-/
import Derived.Test.YtlfnmnchhhlhiaaNrAlone
import Derived.OpenShut
namespace Go.Proofs.Ytlfnmnchhhlhiaa
set_option linter.unusedVariables false
set_option linter.unusedSimpArgs false
set_option maxRecDepth 100000
open Go.ChangeShapes Go.WideShapes Go.ChangeAt Go.RowKit Go.Joins Go.Deep

theorem Try.own : ownKnob Try.prog.godebug = none := by kernel_rfl
theorem Try.laidOut : laidOutB Try.prog = true := by kernel_rfl
theorem Try.cells_deed : Try.prog.cellsOf 34 = 5 := by kernel_rfl
theorem Try.cells_ask : Try.prog.cellsOf 32 = 3 := by kernel_rfl
theorem Try.cells_akind : Try.prog.cellsOf 28 = 1 := by kernel_rfl
theorem Try.cells_aval : Try.prog.cellsOf 30 = 1 := by kernel_rfl

theorem deed_of_trod {H : Type} {enc : TypeId × Value → H} {w : World} {base : Nat} {spare : Nat → Bool} {held : Bool} {fuel : Nat} {cs : List Value} {x : DataW H × List MemPlace} (h : DataW.trod enc Try.prog w base spare held fuel 34 cs = some x) :
    ∃ o : Nr.DeedN, o.Wf ∧ cs = o.cells := by
  obtain ⟨y0, y1, y2, n, _, hl, h0, h1, h2⟩ := trod_struct3 Try.underlying34 h
  rw [Try.cells_deed] at hl
  match cs, hl with
  | [c0, c1, c2, c3, c4], _ =>
    simp only [Try.cells_int, Try.cells_ask, List.drop_zero, List.drop_succ_cons, List.take_succ_cons, List.take_zero] at h0 h1 h2
    obtain ⟨k, e0, _, wk⟩ := DataW.trod_int Try.underlying3 h0
    obtain ⟨c, e1, _, wc⟩ := DataW.trod_int Try.underlying3 h1
    obtain ⟨z0, z1, z2, m, _, hl2, q0, q1, q2⟩ := trod_struct3 Try.underlying32 h2
    simp only [Try.cells_int, Try.cells_akind, Try.cells_aval, List.drop_zero, List.drop_succ_cons, List.take_succ_cons, List.take_zero] at q0 q1 q2
    obtain ⟨ak, e2, _, wa⟩ := DataW.trod_int Try.underlying28 q0
    obtain ⟨at', e3, _, wt⟩ := DataW.trod_int Try.underlying3 q1
    obtain ⟨av, e4, _, wv⟩ := DataW.trod_int Try.underlying30 q2
    simp at e0 e1 e2 e3 e4
    subst e0 e1 e2 e3 e4
    exact ⟨⟨k, c, ⟨ak, at', av⟩⟩, ⟨wf_u8 wa, wf_i64 wt, wf_u64 wv⟩, rfl⟩

/-- A slice of deeds that came in. -/
theorem deeds_of_trod {H : Type} {enc : TypeId × Value → H} {W : World} {ao : Option Addr} {len cap : Nat} {d : DataW H} {p : List MemPlace} (h : DataW.Trod enc Try.prog W 0 (fun _ => true) true 22 (.slice ao len cap) d p) :
    ∃ l : List Nr.DeedN, Nr.DeedNRow W (.slice ao len cap) l ∧ (∀ o ∈ l, o.Wf) ∧ l.length ≤ maxLen :=
  rows_of_trod (α := Nr.DeedN) (n := 5) (cells := Nr.DeedN.cells) (Wf := Nr.DeedN.Wf) ⟨0, 0, ⟨0, 0, 0⟩⟩ (by decide) (fun _ => rfl) Try.underlying22 Try.cells_deed (fun h => deed_of_trod h) h

end Go.Proofs.Ytlfnmnchhhlhiaa
