/-
  FROM AN ARGUMENT's READING TO PAIRS OF BYTES THAT CAN BE READ.
-/
import Derived.Test.YtdnbfgejahlbpaaArmsLaw
import Derived.OpenShut
namespace Go.Proofs.Ytdnbfgejahlbpaa
set_option linter.unusedVariables false
set_option linter.unusedSimpArgs false
set_option maxRecDepth 100000
open Go.ChangeShapes Go.WideShapes Go.ChangeAt Go.RowKit Go.Joins Go.Deep

theorem Try.own : ownKnob Try.prog.godebug = none := by kernel_rfl
theorem Try.laidOut : laidOutB Try.prog = true := by kernel_rfl
theorem Try.cells_two : Try.prog.cellsOf 32 = 2 := by kernel_rfl
theorem Try.cells_u8 : Try.prog.cellsOf 5 = 1 := by kernel_rfl

theorem twob_of_trod {H : Type} {enc : TypeId × Value → H} {w : World} {base : Nat} {spare : Nat → Bool} {held : Bool} {fuel : Nat} {cs : List Value} {x : DataW H × List MemPlace} (h : DataW.trod enc Try.prog w base spare held fuel 32 cs = some x) :
    ∃ o : Int × Int, ((0 ≤ o.1 ∧ o.1 ≤ 255) ∧ (0 ≤ o.2 ∧ o.2 ≤ 255)) ∧ cs = twoC o := by
  obtain ⟨xs, m, hq1, hq2, hl, hlen, hx⟩ := DataW.trod_array Try.underlying32 h
  rw [Try.cells_u8] at hx
  have key : ∀ i, i < 2 → ∃ n : Int, ((cs.drop (i * 1)).take 1) = [.int .u8 n] ∧ (0 ≤ n ∧ n ≤ 255) := fun i hi => by
    have h1 := hx i hi
    obtain ⟨y, hy⟩ : ∃ y, xs[i]? = some y := ⟨xs[i], List.getElem?_eq_getElem (by omega)⟩
    rw [hy] at h1
    obtain ⟨k, e0, _, wk⟩ := DataW.trod_int Try.underlying5 h1
    exact ⟨k, e0, wf_u8 wk⟩
  obtain ⟨n0, e0, w0⟩ := key 0 (by omega)
  obtain ⟨n1, e1, w1⟩ := key 1 (by omega)
  have hcl : cs.length = 2 := hl.trans Try.cells_two
  match cs, hcl with
  | [c0, c1], _ =>
    simp at e0 e1
    subst e0 e1
    exact ⟨(n0, n1), ⟨w0, w1⟩, rfl⟩

/-- A slice of pairs of bytes that came in. -/
theorem twobs_of_trod {H : Type} {enc : TypeId × Value → H} {W : World} {ao : Option Addr} {len cap : Nat} {d : DataW H} {p : List MemPlace} (h : DataW.Trod enc Try.prog W 0 (fun _ => true) true 22 (.slice ao len cap) d p) :
    ∃ l : List (Int × Int), TwoRow W (.slice ao len cap) l ∧ (∀ o ∈ l, (0 ≤ o.1 ∧ o.1 ≤ 255) ∧ (0 ≤ o.2 ∧ o.2 ≤ 255)) ∧ l.length ≤ maxLen :=
  rows_of_trod (α := Int × Int) (n := 2) (cells := twoC) (Wf := fun o => (0 ≤ o.1 ∧ o.1 ≤ 255) ∧ (0 ≤ o.2 ∧ o.2 ≤ 255)) (0, 0) (by decide) (fun _ => rfl) Try.underlying22 Try.cells_two (fun h => twob_of_trod h) h

end Go.Proofs.Ytdnbfgejahlbpaa
