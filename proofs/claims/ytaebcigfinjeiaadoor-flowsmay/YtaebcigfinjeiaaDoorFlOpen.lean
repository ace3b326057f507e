/-
  The statements on flows: the arguments.
-/
import Derived.Test.YtaebcigfinjeiaaDoorFlLaws
import Derived.Test.YtaebcigfinjeiaaDoorCdOpen
namespace Go.Proofs.YtaebcigfinjeiaaDoor
set_option linter.unusedVariables false
set_option linter.unusedSimpArgs false
set_option maxRecDepth 100000
open Go.ChangeShapes Go.WideShapes Go.ChangeAt Go.RowKit Go.Joins Go.Deep

theorem Tryd.cells_twoi : Tryd.prog.cellsOf 22 = 2 := by kernel_rfl
theorem flwf_u8 {n : Int} (h : (Lit.int .u8 n).wf = true) : 0 ≤ n ∧ n ≤ 255 := by
  simp [Lit.wf, IntKind.min, IntKind.max, IntKind.signed, IntKind.bits] at h
  omega
theorem flwf_val {n : Int} (h : (Lit.int .u64 n).wf = true) : Wf64 n := by
  simp [Lit.wf, IntKind.min, IntKind.max, IntKind.signed, IntKind.bits] at h
  unfold Wf64
  omega
theorem array2 {α : Type} {cs : Array α} (h : cs.size = 2) : ∃ c0 c1, cs = #[c0, c1] := by
  obtain ⟨l⟩ := cs
  match l, h with
  | [c0, c1], _ => exact ⟨c0, c1, rfl⟩

/-- Two bytes, by value. -/
theorem twoi_of_trod {H : Type} {enc : TypeId × Value → H} {W : World} {r : Reach} {b0 : Nat} {v : Value} {d : DataW H} {p : List MemPlace} (hv : Value.okWide Tryd.prog W r b0 22 v) (h : DataW.Trod enc Tryd.prog W 0 (fun _ => true) true 22 v d p) :
    ∃ h0 h1 : Int, v = .agg #[.int .i64 h0, .int .i64 h1] := by
  have hu := Tryd.underlying22
  simp only [Value.okWide, hu] at hv
  obtain ⟨cs, rfl, hsz, _⟩ := hv
  obtain ⟨c0, c1, rfl⟩ := array2 (hsz.trans Tryd.cells_twoi)
  obtain ⟨fuel, hf⟩ := h
  obtain ⟨xs, m, _, _, _, hlen, hx⟩ := DataW.trod_array hu hf
  rw [Tryd.cells_int0] at hx
  have key : ∀ i, i < 2 → ∃ n : Int, (((Value.agg #[c0, c1]).cells.toList.drop (i * 1)).take 1) = [.int .i64 n] := fun i hi => by
    have h1 := hx i hi
    obtain ⟨y, hy⟩ : ∃ y, xs[i]? = some y := ⟨xs[i], List.getElem?_eq_getElem (by omega)⟩
    rw [hy] at h1
    obtain ⟨k, e0, _, wk⟩ := DataW.trod_int Tryd.underlying3 h1
    exact ⟨k, e0⟩
  obtain ⟨n0, e0⟩ := key 0 (by omega)
  obtain ⟨n1, e1⟩ := key 1 (by omega)
  simp [Value.cells] at e0 e1
  subst e0 e1
  exact ⟨n0, n1, rfl⟩

end Go.Proofs.YtaebcigfinjeiaaDoor
