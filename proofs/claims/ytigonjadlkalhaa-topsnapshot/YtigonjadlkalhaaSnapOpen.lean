/-
  FROM TopSnapshot's ARGUMENTS' READING TO NUMBERS.
-/
import Derived.Test.YtigonjadlkalhaaTopSnap
import Derived.Test.YtigonjadlkalhaaRowsOf
import Derived.OpenShut
namespace Go.Proofs.Ytigonjadlkalhaa
set_option linter.unusedVariables false
set_option linter.unusedSimpArgs false
open Go.ChangeShapes Go.WideShapes Go.ChangeAt Go.RowKit Go.Joins Go.Deep

theorem Try.own : ownKnob Try.prog.godebug = none := by kernel_rfl
theorem Try.laidOut : laidOutB Try.prog = true := by kernel_rfl
theorem Try.cells_val : Try.prog.cellsOf 23 = 1 := by kernel_rfl
theorem Try.cells_u8 : Try.prog.cellsOf 5 = 1 := by kernel_rfl
theorem Try.cells_five : Try.prog.cellsOf 24 = 5 := by kernel_rfl

theorem array5 {α : Type} {cs : Array α} (h : cs.size = 5) : ∃ c0 c1 c2 c3 c4, cs = #[c0, c1, c2, c3, c4] := by
  obtain ⟨l⟩ := cs
  match l, h with
  | [c0, c1, c2, c3, c4], _ => exact ⟨c0, c1, c2, c3, c4, rfl⟩

/-- Five values, by value. -/
theorem five_of_trod {H : Type} {enc : TypeId × Value → H} {W : World} {r : Reach} {b0 : Nat} {v : Value} {d : DataW H} {p : List MemPlace} (hv : Value.okWide Try.prog W r b0 24 v) (h : DataW.Trod enc Try.prog W 0 (fun _ => true) true 24 v d p) :
    ∃ h0 h1 h2 h3 h4 : Int, v = .agg #[.int .u64 h0, .int .u64 h1, .int .u64 h2, .int .u64 h3, .int .u64 h4] ∧ Wf64 h0 ∧ Wf64 h1 ∧ Wf64 h2 ∧ Wf64 h3 ∧ Wf64 h4 := by
  have hu := Try.underlying24
  simp only [Value.okWide, hu] at hv
  obtain ⟨cs, rfl, hsz, _⟩ := hv
  obtain ⟨c0, c1, c2, c3, c4, rfl⟩ := array5 (hsz.trans Try.cells_five)
  obtain ⟨fuel, hf⟩ := h
  obtain ⟨xs, m, _, _, _, hlen, hx⟩ := DataW.trod_array hu hf
  rw [Try.cells_val] at hx
  have key : ∀ i, i < 5 → ∃ n : Int, (((Value.agg #[c0, c1, c2, c3, c4]).cells.toList.drop (i * 1)).take 1) = [.int .u64 n] ∧ Wf64 n := fun i hi => by
    have h1 := hx i hi
    obtain ⟨y, hy⟩ : ∃ y, xs[i]? = some y := ⟨xs[i], List.getElem?_eq_getElem (by omega)⟩
    rw [hy] at h1
    obtain ⟨k, e0, _, wk⟩ := DataW.trod_int Try.underlying23 h1
    exact ⟨k, e0, wf_u64 wk⟩
  obtain ⟨n0, e0, w0⟩ := key 0 (by omega)
  obtain ⟨n1, e1, w1⟩ := key 1 (by omega)
  obtain ⟨n2, e2, w2⟩ := key 2 (by omega)
  obtain ⟨n3, e3, w3⟩ := key 3 (by omega)
  obtain ⟨n4, e4, w4⟩ := key 4 (by omega)
  simp [Value.cells] at e0 e1 e2 e3 e4
  subst e0 e1 e2 e3 e4
  exact ⟨n0, n1, n2, n3, n4, rfl, w0, w1, w2, w3, w4⟩

theorem byte_of_trod {H : Type} {enc : TypeId × Value → H} {w : World} {base : Nat} {spare : Nat → Bool} {held : Bool} {fuel : Nat} {cs : List Value} {x : DataW H × List MemPlace} (h : DataW.trod enc Try.prog w base spare held fuel 5 cs = some x) :
    ∃ o : Int, (0 ≤ o ∧ o ≤ 255) ∧ cs = [Value.int .u8 o] := by
  obtain ⟨k, e0, _, wk⟩ := DataW.trod_int Try.underlying5 h
  exact ⟨k, wf_u8 wk, e0⟩

/-- A slice of bytes that came in. -/
theorem bytes_of_trod {H : Type} {enc : TypeId × Value → H} {W : World} {ao : Option Addr} {len cap : Nat} {d : DataW H} {p : List MemPlace} (h : DataW.Trod enc Try.prog W 0 (fun _ => true) true 25 (.slice ao len cap) d p) :
    ∃ l : List Int, SRow 1 (fun x : Int => [Value.int .u8 x]) W (.slice ao len cap) l ∧ (∀ o ∈ l, 0 ≤ o ∧ o ≤ 255) ∧ l.length ≤ maxLen :=
  rows_of_trod (α := Int) (n := 1) (cells := fun x : Int => [Value.int .u8 x]) (Wf := fun o => 0 ≤ o ∧ o ≤ 255) 0 (by decide) (fun _ => rfl) Try.underlying25 Try.cells_u8 (fun h => byte_of_trod h) h

end Go.Proofs.Ytigonjadlkalhaa
