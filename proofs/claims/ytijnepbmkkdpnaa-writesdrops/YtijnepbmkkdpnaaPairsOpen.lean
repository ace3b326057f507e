/-
  FROM AN ARGUMENT's READING TO PAIRS THAT CAN BE READ.
-/
import Derived.Test.YtijnepbmkkdpnaaWritesOpen
import Derived.Test.YtijnepbmkkdpnaaWritesLaws
namespace Go.Proofs.Ytijnepbmkkdpnaa
set_option linter.unusedVariables false
set_option linter.unusedSimpArgs false
open Go.ChangeShapes Go.WideShapes Go.ChangeAt Go.RowKit Go.Joins Go.Deep

theorem Try.cells_pair : Try.prog.cellsOf 40 = 2 := by kernel_rfl

theorem pair_of_trod {H : Type} {enc : TypeId × Value → H} {w : World} {base : Nat} {spare : Nat → Bool} {held : Bool} {fuel : Nat} {cs : List Value} {x : DataW H × List MemPlace} (h : DataW.trod enc Try.prog w base spare held fuel 40 cs = some x) :
    ∃ o : Int × Int, ((-9223372036854775808 ≤ o.1 ∧ o.1 ≤ 9223372036854775807) ∧ Wf64 o.2) ∧ cs = pairC o := by
  obtain ⟨y0, y1, n, _, hl, h0, h1⟩ := trod_struct2 Try.underlying40 h
  rw [Try.cells_pair] at hl
  match cs, hl with
  | [c0, c1], _ =>
    simp only [Try.cells_int, Try.cells_val, List.drop_zero, List.drop_succ_cons, List.take_succ_cons, List.take_zero] at h0 h1
    obtain ⟨k, e0, _, wk⟩ := DataW.trod_int Try.underlying3 h0
    obtain ⟨c, e1, _, wc⟩ := DataW.trod_int Try.underlying38 h1
    simp at e0 e1
    subst e0 e1
    exact ⟨⟨k, c⟩, ⟨wf_i64 wk, wf_u64 wc⟩, rfl⟩

/-- A slice of pairs that came in. -/
theorem pairs_of_trod {H : Type} {enc : TypeId × Value → H} {W : World} {ao : Option Addr} {len cap : Nat} {d : DataW H} {p : List MemPlace} (h : DataW.Trod enc Try.prog W 0 (fun _ => true) true 32 (.slice ao len cap) d p) :
    ∃ l : List (Int × Int), PairRow W (.slice ao len cap) l ∧ (∀ o ∈ l, (-9223372036854775808 ≤ o.1 ∧ o.1 ≤ 9223372036854775807) ∧ Wf64 o.2) ∧ l.length ≤ maxLen :=
  rows_of_trod (α := Int × Int) (n := 2) (cells := pairC) (Wf := fun o => (-9223372036854775808 ≤ o.1 ∧ o.1 ≤ 9223372036854775807) ∧ Wf64 o.2) (0, 0) (by decide) (fun _ => rfl) Try.underlying32 Try.cells_pair (fun h => pair_of_trod h) h

end Go.Proofs.Ytijnepbmkkdpnaa
