/-
  FROM THE ARGUMENTS' READINGS TO BYTES AND TRUTH VALUES.
-/
import Derived.Test.YteffdibdnoppjabRowsOf
import Derived.OpenShut
namespace Go.Proofs.Yteffdibdnoppjab
set_option linter.unusedVariables false
set_option linter.unusedSimpArgs false
open Go.ChangeShapes Go.WideShapes Go.ChangeAt Go.RowKit Go.Joins Go.Deep

theorem Try.own : ownKnob Try.prog.godebug = none := by kernel_rfl
theorem Try.laidOut : laidOutB Try.prog = true := by kernel_rfl
theorem Try.cells_u8 : Try.prog.cellsOf 5 = 1 := by kernel_rfl
theorem Try.cells_bool : Try.prog.cellsOf 4 = 1 := by kernel_rfl
theorem Try.cells_two : Try.prog.cellsOf 22 = 2 := by kernel_rfl
theorem Try.cells_eight : Try.prog.cellsOf 23 = 8 := by kernel_rfl
theorem Try.cells_four : Try.prog.cellsOf 24 = 4 := by kernel_rfl

theorem array8 {α : Type} {cs : Array α} (h : cs.size = 8) : ∃ c0 c1 c2 c3 c4 c5 c6 c7, cs = #[c0, c1, c2, c3, c4, c5, c6, c7] := by
  obtain ⟨l⟩ := cs
  match l, h with
  | [c0, c1, c2, c3, c4, c5, c6, c7], _ => exact ⟨c0, c1, c2, c3, c4, c5, c6, c7, rfl⟩
theorem array4 {α : Type} {cs : Array α} (h : cs.size = 4) : ∃ c0 c1 c2 c3, cs = #[c0, c1, c2, c3] := by
  obtain ⟨l⟩ := cs
  match l, h with
  | [c0, c1, c2, c3], _ => exact ⟨c0, c1, c2, c3, rfl⟩

theorem pair_of_trod {H : Type} {enc : TypeId × Value → H} {w : World} {base : Nat} {spare : Nat → Bool} {held : Bool} {fuel : Nat} {c0 c1 : Value} {x : DataW H × List MemPlace} (h : DataW.trod enc Try.prog w base spare held fuel 22 [c0, c1] = some x) :
    ∃ a b : Int, c0 = .int .u8 a ∧ c1 = .int .u8 b ∧ (0 ≤ a ∧ a ≤ 255) ∧ (0 ≤ b ∧ b ≤ 255) := by
  obtain ⟨xs, m, _, _, _, hlen, hx⟩ := DataW.trod_array Try.underlying22 h
  rw [Try.cells_u8] at hx
  have key : ∀ i, i < 2 → ∃ n : Int, (([c0, c1].drop (i * 1)).take 1) = [.int .u8 n] ∧ (0 ≤ n ∧ n ≤ 255) := fun i hi => by
    have h1 := hx i hi
    obtain ⟨y, hy⟩ : ∃ y, xs[i]? = some y := ⟨xs[i], List.getElem?_eq_getElem (by omega)⟩
    rw [hy] at h1
    obtain ⟨k, e0, _, wk⟩ := DataW.trod_int Try.underlying5 h1
    exact ⟨k, e0, wf_u8 wk⟩
  obtain ⟨n0, e0, w0⟩ := key 0 (by omega)
  obtain ⟨n1, e1, w1⟩ := key 1 (by omega)
  simp at e0 e1
  exact ⟨n0, n1, e0, e1, w0, w1⟩

/-- Four pairs of bytes, by value. -/
theorem eight_of_trod {H : Type} {enc : TypeId × Value → H} {W : World} {r : Reach} {b0 : Nat} {v : Value} {d : DataW H} {p : List MemPlace} (hv : Value.okWide Try.prog W r b0 23 v) (h : DataW.Trod enc Try.prog W 0 (fun _ => true) true 23 v d p) :
    ∃ x : Nat → Int, v = .agg #[.int .u8 (x 0), .int .u8 (x 1), .int .u8 (x 2), .int .u8 (x 3), .int .u8 (x 4), .int .u8 (x 5), .int .u8 (x 6), .int .u8 (x 7)] ∧ ∀ i, 0 ≤ x i ∧ x i ≤ 255 := by
  have hu := Try.underlying23
  simp only [Value.okWide, hu] at hv
  obtain ⟨cs, rfl, hsz, _⟩ := hv
  obtain ⟨c0, c1, c2, c3, c4, c5, c6, c7, rfl⟩ := array8 (hsz.trans Try.cells_eight)
  obtain ⟨fuel, hf⟩ := h
  obtain ⟨xs, m, _, _, _, hlen, hx⟩ := DataW.trod_array hu hf
  rw [Try.cells_two] at hx
  have key : ∀ i, i < 4 → ∃ y, DataW.trod enc Try.prog W 0 (fun _ => true) true m 22 (((Value.agg #[c0, c1, c2, c3, c4, c5, c6, c7]).cells.toList.drop (i * 2)).take 2) = some y := fun i hi => by
    have h1 := hx i hi
    obtain ⟨y, hy⟩ : ∃ y, xs[i]? = some y := ⟨xs[i], List.getElem?_eq_getElem (by omega)⟩
    rw [hy] at h1
    exact ⟨y, h1⟩
  obtain ⟨y0, k0⟩ := key 0 (by omega)
  obtain ⟨y1, k1⟩ := key 1 (by omega)
  obtain ⟨y2, k2⟩ := key 2 (by omega)
  obtain ⟨y3, k3⟩ := key 3 (by omega)
  simp [Value.cells] at k0 k1 k2 k3
  obtain ⟨a0, a1, rfl, rfl, p0, p1⟩ := pair_of_trod k0
  obtain ⟨a2, a3, rfl, rfl, p2, p3⟩ := pair_of_trod k1
  obtain ⟨a4, a5, rfl, rfl, p4, p5⟩ := pair_of_trod k2
  obtain ⟨a6, a7, rfl, rfl, p6, p7⟩ := pair_of_trod k3
  refine ⟨fun i => match i with | 0 => a0 | 1 => a1 | 2 => a2 | 3 => a3 | 4 => a4 | 5 => a5 | 6 => a6 | 7 => a7 | _ => 0, rfl, fun i => ?_⟩
  match i with
  | 0 => exact p0
  | 1 => exact p1
  | 2 => exact p2
  | 3 => exact p3
  | 4 => exact p4
  | 5 => exact p5
  | 6 => exact p6
  | 7 => exact p7
  | n + 8 => exact ⟨by simp, by simp⟩

/-- Four truth values, by value. -/
theorem four_of_trod {H : Type} {enc : TypeId × Value → H} {W : World} {r : Reach} {b0 : Nat} {v : Value} {d : DataW H} {p : List MemPlace} (hv : Value.okWide Try.prog W r b0 24 v) (h : DataW.Trod enc Try.prog W 0 (fun _ => true) true 24 v d p) :
    ∃ s : Nat → Bool, v = .agg #[.bool (s 0), .bool (s 1), .bool (s 2), .bool (s 3)] := by
  have hu := Try.underlying24
  simp only [Value.okWide, hu] at hv
  obtain ⟨cs, rfl, hsz, _⟩ := hv
  obtain ⟨c0, c1, c2, c3, rfl⟩ := array4 (hsz.trans Try.cells_four)
  obtain ⟨fuel, hf⟩ := h
  obtain ⟨xs, m, _, _, _, hlen, hx⟩ := DataW.trod_array hu hf
  rw [Try.cells_bool] at hx
  have key : ∀ i, i < 4 → ∃ n : Bool, (((Value.agg #[c0, c1, c2, c3]).cells.toList.drop (i * 1)).take 1) = [.bool n] := fun i hi => by
    have h1 := hx i hi
    obtain ⟨y, hy⟩ : ∃ y, xs[i]? = some y := ⟨xs[i], List.getElem?_eq_getElem (by omega)⟩
    rw [hy] at h1
    obtain ⟨k, e0, _⟩ := DataW.trod_bool Try.underlying4 h1
    exact ⟨k, e0⟩
  obtain ⟨n0, e0⟩ := key 0 (by omega)
  obtain ⟨n1, e1⟩ := key 1 (by omega)
  obtain ⟨n2, e2⟩ := key 2 (by omega)
  obtain ⟨n3, e3⟩ := key 3 (by omega)
  simp [Value.cells] at e0 e1 e2 e3
  subst e0 e1 e2 e3
  exact ⟨fun i => match i with | 0 => n0 | 1 => n1 | 2 => n2 | 3 => n3 | _ => false, rfl⟩

/-- A slice of bytes that came in. -/
theorem bytes_of_trod {H : Type} {enc : TypeId × Value → H} {W : World} {ao : Option Addr} {len cap : Nat} {d : DataW H} {p : List MemPlace} (h : DataW.Trod enc Try.prog W 0 (fun _ => true) true 25 (.slice ao len cap) d p) :
    ∃ l : List Int, SRow 1 (fun x : Int => [Value.int .u8 x]) W (.slice ao len cap) l ∧ (∀ o ∈ l, 0 ≤ o ∧ o ≤ 255) ∧ l.length ≤ maxLen :=
  rows_of_trod (α := Int) (n := 1) (cells := fun x : Int => [Value.int .u8 x]) (Wf := fun o => 0 ≤ o ∧ o ≤ 255) 0 (by decide) (fun _ => rfl) Try.underlying25 Try.cells_u8 (fun h => by
    obtain ⟨k, e0, _, wk⟩ := DataW.trod_int Try.underlying5 h
    exact ⟨k, wf_u8 wk, e0⟩) h

end Go.Proofs.Yteffdibdnoppjab
