/-
  SpecLeft's ARGUMENTS.
-/
import Derived.Test.YtmncidlfikgmkaaSlWalk
import Derived.OpenShut
namespace Go.Proofs.Ytmncidlfikgmkaa
set_option linter.unusedVariables false
set_option linter.unusedSimpArgs false
set_option maxRecDepth 100000
open Go.ChangeShapes Go.WideShapes Go.ChangeAt Go.RowKit Go.Joins Go.Deep

theorem Try.own : ownKnob Try.prog.godebug = none := by kernel_rfl
theorem Try.laidOut : laidOutB Try.prog = true := by kernel_rfl
theorem Try.cells_val : Try.prog.cellsOf 25 = 1 := by kernel_rfl
theorem Try.cells_u8 : Try.prog.cellsOf 5 = 1 := by kernel_rfl
theorem Try.cells_two : Try.prog.cellsOf 45 = 2 := by kernel_rfl
theorem Try.cells_twov : Try.prog.cellsOf 46 = 2 := by kernel_rfl
theorem vwf_u8 {n : Int} (h : (Lit.int .u8 n).wf = true) : 0 ≤ n ∧ n ≤ 255 := by
  simp [Lit.wf, IntKind.min, IntKind.max, IntKind.signed, IntKind.bits] at h
  omega
theorem vwf_u64 {n : Int} (h : (Lit.int .u64 n).wf = true) : Wf64 n := by
  simp [Lit.wf, IntKind.min, IntKind.max, IntKind.signed, IntKind.bits] at h
  unfold Wf64
  omega
theorem array2 {α : Type} {cs : Array α} (h : cs.size = 2) : ∃ c0 c1, cs = #[c0, c1] := by
  obtain ⟨l⟩ := cs
  match l, h with
  | [c0, c1], _ => exact ⟨c0, c1, rfl⟩
theorem two_of_trod {H : Type} {enc : TypeId × Value → H} {W : World} {r : Reach} {b0 : Nat} {v : Value} {d : DataW H} {p : List MemPlace} (hv : Value.okWide Try.prog W r b0 45 v) (h : DataW.Trod enc Try.prog W 0 (fun _ => true) true 45 v d p) :
    ∃ h0 h1 : Int, v = .agg #[.int .u8 h0, .int .u8 h1] ∧ (0 ≤ h0 ∧ h0 ≤ 255) ∧ (0 ≤ h1 ∧ h1 ≤ 255) := by
  have hu := Try.underlying45
  simp only [Value.okWide, hu] at hv
  obtain ⟨cs, rfl, hsz, _⟩ := hv
  obtain ⟨c0, c1, rfl⟩ := array2 (hsz.trans Try.cells_two)
  obtain ⟨fuel, hf⟩ := h
  obtain ⟨xs, m, _, _, _, hlen, hx⟩ := DataW.trod_array hu hf
  rw [Try.cells_u8] at hx
  have key : ∀ i, i < 2 → ∃ n : Int, (((Value.agg #[c0, c1]).cells.toList.drop (i * 1)).take 1) = [.int .u8 n] ∧ (0 ≤ n ∧ n ≤ 255) := fun i hi => by
    have h1 := hx i hi
    obtain ⟨y, hy⟩ : ∃ y, xs[i]? = some y := ⟨xs[i], List.getElem?_eq_getElem (by omega)⟩
    rw [hy] at h1
    obtain ⟨k, e0, _, wk⟩ := DataW.trod_int Try.underlying5 h1
    exact ⟨k, e0, vwf_u8 wk⟩
  obtain ⟨n0, e0, w0⟩ := key 0 (by omega)
  obtain ⟨n1, e1, w1⟩ := key 1 (by omega)
  simp [Value.cells] at e0 e1
  subst e0 e1
  exact ⟨n0, n1, rfl, w0, w1⟩
theorem twov_of_trod {H : Type} {enc : TypeId × Value → H} {W : World} {r : Reach} {b0 : Nat} {v : Value} {d : DataW H} {p : List MemPlace} (hv : Value.okWide Try.prog W r b0 46 v) (h : DataW.Trod enc Try.prog W 0 (fun _ => true) true 46 v d p) :
    ∃ h0 h1 : Int, v = .agg #[.int .u64 h0, .int .u64 h1] ∧ Wf64 h0 ∧ Wf64 h1 := by
  have hu := Try.underlying46
  simp only [Value.okWide, hu] at hv
  obtain ⟨cs, rfl, hsz, _⟩ := hv
  obtain ⟨c0, c1, rfl⟩ := array2 (hsz.trans Try.cells_twov)
  obtain ⟨fuel, hf⟩ := h
  obtain ⟨xs, m, _, _, _, hlen, hx⟩ := DataW.trod_array hu hf
  rw [Try.cells_val] at hx
  have key : ∀ i, i < 2 → ∃ n : Int, (((Value.agg #[c0, c1]).cells.toList.drop (i * 1)).take 1) = [.int .u64 n] ∧ Wf64 n := fun i hi => by
    have h1 := hx i hi
    obtain ⟨y, hy⟩ : ∃ y, xs[i]? = some y := ⟨xs[i], List.getElem?_eq_getElem (by omega)⟩
    rw [hy] at h1
    obtain ⟨k, e0, _, wk⟩ := DataW.trod_int Try.underlying25 h1
    exact ⟨k, e0, vwf_u64 wk⟩
  obtain ⟨n0, e0, w0⟩ := key 0 (by omega)
  obtain ⟨n1, e1, w1⟩ := key 1 (by omega)
  simp [Value.cells] at e0 e1
  subst e0 e1
  exact ⟨n0, n1, rfl, w0, w1⟩

end Go.Proofs.Ytmncidlfikgmkaa
