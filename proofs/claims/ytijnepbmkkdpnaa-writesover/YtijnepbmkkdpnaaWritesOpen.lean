/-
  FROM AN ARGUMENT's READING TO DEEDS THAT CAN BE READ.
-/
import Derived.Test.YtijnepbmkkdpnaaRowsOf
import Derived.Test.YtijnepbmkkdpnaaReadsVal
namespace Go.Proofs.Ytijnepbmkkdpnaa
set_option linter.unusedVariables false
set_option linter.unusedSimpArgs false
open Go.ChangeShapes Go.WideShapes Go.ChangeAt Go.RowKit Go.Joins Go.Deep

theorem Try.own : ownKnob Try.prog.godebug = none := by kernel_rfl
theorem Try.laidOut : laidOutB Try.prog = true := by kernel_rfl
theorem Try.cells_val : Try.prog.cellsOf 38 = 1 := by kernel_rfl
theorem Try.cells_deed : Try.prog.cellsOf 52 = 3 := by kernel_rfl

/-- A deed. -/
structure DeedD where
  kind : Int
  tvar : Int
  v : Int
def DeedD.cells (x : DeedD) : List Value := [.int .i64 x.kind, .int .i64 x.tvar, .int .u64 x.v]
structure DeedD.Wf (x : DeedD) : Prop where
  k : -9223372036854775808 ≤ x.kind ∧ x.kind ≤ 9223372036854775807
  t : -9223372036854775808 ≤ x.tvar ∧ x.tvar ≤ 9223372036854775807
  v : Wf64 x.v

theorem deed_of_trod {H : Type} {enc : TypeId × Value → H} {w : World} {base : Nat} {spare : Nat → Bool} {held : Bool} {fuel : Nat} {cs : List Value} {x : DataW H × List MemPlace} (h : DataW.trod enc Try.prog w base spare held fuel 52 cs = some x) :
    ∃ o : DeedD, o.Wf ∧ cs = o.cells := by
  obtain ⟨y0, y1, y2, n, _, hl, h0, h1, h2⟩ := trod_struct3 Try.underlying52 h
  rw [Try.cells_deed] at hl
  match cs, hl with
  | [c0, c1, c2], _ =>
    simp only [Try.cells_int, Try.cells_val, List.drop_zero, List.drop_succ_cons, List.take_succ_cons, List.take_zero] at h0 h1 h2
    obtain ⟨k, e0, _, wk⟩ := DataW.trod_int Try.underlying3 h0
    obtain ⟨c, e1, _, wc⟩ := DataW.trod_int Try.underlying3 h1
    obtain ⟨a, e2, _, wa⟩ := DataW.trod_int Try.underlying38 h2
    simp at e0 e1 e2
    subst e0 e1 e2
    exact ⟨⟨k, c, a⟩, ⟨wf_i64 wk, wf_i64 wc, wf_u64 wa⟩, rfl⟩

abbrev DeedRow := SRow 3 DeedD.cells
/-- A slice of deeds that came in. -/
theorem deeds_of_trod {H : Type} {enc : TypeId × Value → H} {W : World} {ao : Option Addr} {len cap : Nat} {d : DataW H} {p : List MemPlace} (h : DataW.Trod enc Try.prog W 0 (fun _ => true) true 22 (.slice ao len cap) d p) :
    ∃ l : List DeedD, DeedRow W (.slice ao len cap) l ∧ (∀ o ∈ l, o.Wf) ∧ l.length ≤ maxLen :=
  rows_of_trod (α := DeedD) (n := 3) (cells := DeedD.cells) (Wf := DeedD.Wf) ⟨0, 0, 0⟩ (by decide) (fun _ => rfl) Try.underlying22 Try.cells_deed (fun h => deed_of_trod h) h

end Go.Proofs.Ytijnepbmkkdpnaa
