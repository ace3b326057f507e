/-
  FROM AN ARGUMENT's READING TO A DEED BY VALUE, AND TO VALUES THAT CAN BE READ.
-/
import Derived.Test.YtlfnmnchhhlhiabGreatNrNone
import Derived.OpenShut
namespace Go.Proofs.YtlfnmnchhhlhiabGreat
set_option linter.unusedVariables false
set_option linter.unusedSimpArgs false
set_option maxRecDepth 100000
open Go.ChangeShapes Go.WideShapes Go.ChangeAt Go.RowKit Go.Joins Go.Deep

theorem Tryz.own : ownKnob Tryz.prog.godebug = none := by kernel_rfl
theorem Tryz.laidOut : laidOutB Tryz.prog = true := by kernel_rfl
theorem Tryz.cells_val : Tryz.prog.cellsOf 33 = 1 := by kernel_rfl
theorem Tryz.cells_deed : Tryz.prog.cellsOf 37 = 5 := by kernel_rfl
theorem Tryz.cells_ask : Tryz.prog.cellsOf 35 = 3 := by kernel_rfl
theorem Tryz.cells_akind : Tryz.prog.cellsOf 31 = 1 := by kernel_rfl

theorem nval_of_trod {H : Type} {enc : TypeId × Value → H} {w : World} {base : Nat} {spare : Nat → Bool} {held : Bool} {fuel : Nat} {cs : List Value} {x : DataW H × List MemPlace} (h : DataW.trod enc Tryz.prog w base spare held fuel 33 cs = some x) :
    ∃ o : Int, Wf64 o ∧ cs = [Value.int .u64 o] := by
  obtain ⟨k, e0, _, wk⟩ := DataW.trod_int Tryz.underlying33 h
  exact ⟨k, wf_u64 wk, e0⟩
/-- A slice of values that came in. -/
theorem nvals_of_trod {H : Type} {enc : TypeId × Value → H} {W : World} {ao : Option Addr} {len cap : Nat} {d : DataW H} {p : List MemPlace} (h : DataW.Trod enc Tryz.prog W 0 (fun _ => true) true 40 (.slice ao len cap) d p) :
    ∃ l : List Int, Nr.VRow0 W (.slice ao len cap) l ∧ (∀ o ∈ l, Wf64 o) ∧ l.length ≤ maxLen :=
  rows_of_trod (α := Int) (n := 1) (cells := fun x : Int => [Value.int .u64 x]) (Wf := Wf64) 0 (by decide) (fun _ => rfl) Tryz.underlying40 Tryz.cells_val (fun h => nval_of_trod h) h

theorem deedcs_of_trod {H : Type} {enc : TypeId × Value → H} {w : World} {base : Nat} {spare : Nat → Bool} {held : Bool} {fuel : Nat} {cs : List Value} {x : DataW H × List MemPlace} (h : DataW.trod enc Tryz.prog w base spare held fuel 37 cs = some x) :
    ∃ d0 d1 d2 d3 d4 : Int, cs = [.int .i64 d0, .int .i64 d1, .int .u8 d2, .int .i64 d3, .int .u64 d4] := by
  obtain ⟨y0, y1, y2, n, _, hl, h0, h1, h2⟩ := trod_struct3 Tryz.underlying37 h
  rw [Tryz.cells_deed] at hl
  match cs, hl with
  | [c0, c1, c2, c3, c4], _ =>
    simp only [Tryz.cells_int, Tryz.cells_ask, List.drop_zero, List.drop_succ_cons, List.take_succ_cons, List.take_zero] at h0 h1 h2
    obtain ⟨k, e0, _, wk⟩ := DataW.trod_int Tryz.underlying3 h0
    obtain ⟨c, e1, _, wc⟩ := DataW.trod_int Tryz.underlying3 h1
    obtain ⟨z0, z1, z2, m, _, hl2, q0, q1, q2⟩ := trod_struct3 Tryz.underlying35 h2
    simp only [Tryz.cells_int, Tryz.cells_akind, Tryz.cells_val, List.drop_zero, List.drop_succ_cons, List.take_succ_cons, List.take_zero] at q0 q1 q2
    obtain ⟨ak, e2, _, wa⟩ := DataW.trod_int Tryz.underlying31 q0
    obtain ⟨at', e3, _, wt⟩ := DataW.trod_int Tryz.underlying3 q1
    obtain ⟨av, e4, _, wv⟩ := DataW.trod_int Tryz.underlying33 q2
    simp at e0 e1 e2 e3 e4
    subst e0 e1 e2 e3 e4
    exact ⟨k, c, ak, at', av, rfl⟩

/-- One deed, by value. -/
theorem onedeed_of_trod {H : Type} {enc : TypeId × Value → H} {W : World} {r : Reach} {b0 : Nat} {v : Value} {d : DataW H} {p : List MemPlace} (hv : Value.okWide Tryz.prog W r b0 37 v) (h : DataW.Trod enc Tryz.prog W 0 (fun _ => true) true 37 v d p) :
    ∃ d0 d1 d2 d3 d4 : Int, v = .agg #[.int .i64 d0, .int .i64 d1, .int .u8 d2, .int .i64 d3, .int .u64 d4] := by
  have hu := Tryz.underlying37
  simp only [Value.okWide, hu] at hv
  obtain ⟨cs, rfl, hsz, _⟩ := hv
  obtain ⟨fuel, hf⟩ := h
  obtain ⟨d0, d1, d2, d3, d4, e⟩ := deedcs_of_trod hf
  refine ⟨d0, d1, d2, d3, d4, ?_⟩
  simp only [Value.cells] at e
  rw [← e]

end Go.Proofs.YtlfnmnchhhlhiabGreat
