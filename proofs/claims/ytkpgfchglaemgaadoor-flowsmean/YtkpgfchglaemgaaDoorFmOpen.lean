/-
  FlowsMean: six bytes by value, as an argument.
-/
import Derived.Test.YtkpgfchglaemgaaDoorFmWalk
import Derived.Test.YtkpgfchglaemgaaDoorFlOpen
namespace Go.Proofs.YtkpgfchglaemgaaDoor
set_option linter.unusedVariables false
set_option linter.unusedSimpArgs false
set_option maxRecDepth 100000
open Go.ChangeShapes Go.WideShapes Go.ChangeAt Go.RowKit Go.Joins Go.Deep

theorem Tryd.cells_six : Tryd.prog.cellsOf 22 = 6 := by kernel_rfl
theorem array6 {α : Type} {cs : Array α} (h : cs.size = 6) : ∃ c0 c1 c2 c3 c4 c5, cs = #[c0, c1, c2, c3, c4, c5] := by
  obtain ⟨l⟩ := cs
  match l, h with
  | [c0, c1, c2, c3, c4, c5], _ => exact ⟨c0, c1, c2, c3, c4, c5, rfl⟩
theorem Tryd.cells_u80 : Tryd.prog.cellsOf 5 = 1 := by kernel_rfl
/-- Six bytes, by value. -/
theorem sixu_of_trod {H : Type} {enc : TypeId × Value → H} {W : World} {r : Reach} {b0 : Nat} {v : Value} {d : DataW H} {p : List MemPlace} (hv : Value.okWide Tryd.prog W r b0 22 v) (h : DataW.Trod enc Tryd.prog W 0 (fun _ => true) true 22 v d p) :
    ∃ x0 x1 x2 x3 x4 x5 : Int, v = .agg #[.int .u8 x0, .int .u8 x1, .int .u8 x2, .int .u8 x3, .int .u8 x4, .int .u8 x5] ∧ (0 ≤ x0 ∧ x0 ≤ 255) ∧ (0 ≤ x1 ∧ x1 ≤ 255) ∧ (0 ≤ x2 ∧ x2 ≤ 255) := by
  have hu := Tryd.underlying22
  simp only [Value.okWide, hu] at hv
  obtain ⟨cs, rfl, hsz, _⟩ := hv
  obtain ⟨c0, c1, c2, c3, c4, c5, rfl⟩ := array6 (hsz.trans Tryd.cells_six)
  obtain ⟨fuel, hf⟩ := h
  obtain ⟨xs, m, _, _, _, hlen, hx⟩ := DataW.trod_array hu hf
  rw [Tryd.cells_u80] at hx
  have key : ∀ i, i < 6 → ∃ n : Int, (((Value.agg #[c0, c1, c2, c3, c4, c5]).cells.toList.drop (i * 1)).take 1) = [.int .u8 n] ∧ (0 ≤ n ∧ n ≤ 255) := fun i hi => by
    have h1 := hx i hi
    obtain ⟨y, hy⟩ : ∃ y, xs[i]? = some y := ⟨xs[i], List.getElem?_eq_getElem (by omega)⟩
    rw [hy] at h1
    obtain ⟨k, e0, _, wk⟩ := DataW.trod_int Tryd.underlying5 h1
    exact ⟨k, e0, flwf_u8 wk⟩
  obtain ⟨n0, e0, k0⟩ := key 0 (by omega)
  obtain ⟨n1, e1, k1⟩ := key 1 (by omega)
  obtain ⟨n2, e2, k2⟩ := key 2 (by omega)
  obtain ⟨n3, e3, k3⟩ := key 3 (by omega)
  obtain ⟨n4, e4, k4⟩ := key 4 (by omega)
  obtain ⟨n5, e5, k5⟩ := key 5 (by omega)
  simp [Value.cells] at e0 e1 e2 e3 e4 e5
  subst e0 e1 e2 e3 e4 e5
  exact ⟨n0, n1, n2, n3, n4, n5, rfl, k0, k1, k2⟩

end Go.Proofs.YtkpgfchglaemgaaDoor
