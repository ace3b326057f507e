/-
  FROM AN ARGUMENT's READING TO EVENTS THAT CAN BE READ, and numbers by value.
-/
import Derived.Test.YtganlfgalcoepaaRowsOf
import Derived.Test.YtganlfgalcoepaaHistRight
import Derived.Test.YtganlfgalcoepaaCapsOf
import Derived.OpenShut
namespace Go.Proofs.Ytganlfgalcoepaa
set_option linter.unusedVariables false
set_option linter.unusedSimpArgs false
set_option maxRecDepth 100000
open Go.ChangeShapes Go.WideShapes Go.ChangeAt Go.RowKit Go.Joins Go.Deep

theorem Try.own : ownKnob Try.prog.godebug = none := by kernel_rfl
theorem Try.laidOut : laidOutB Try.prog = true := by kernel_rfl
theorem Try.cells_val : Try.prog.cellsOf 42 = 1 := by kernel_rfl
theorem Try.cells_kind : Try.prog.cellsOf 40 = 1 := by kernel_rfl
theorem Try.cells_ev : Try.prog.cellsOf 44 = 4 := by kernel_rfl

theorem ev_of_trod {H : Type} {enc : TypeId × Value → H} {w : World} {base : Nat} {spare : Nat → Bool} {held : Bool} {fuel : Nat} {cs : List Value} {x : DataW H × List MemPlace} (h : DataW.trod enc Try.prog w base spare held fuel 44 cs = some x) :
    ∃ o : EvD, o.Wf ∧ cs = o.cells := by
  obtain ⟨y0, y1, y2, y3, n, _, hl, h0, h1, h2, h3⟩ := trod_struct4 Try.underlying44 h
  rw [Try.cells_ev] at hl
  match cs, hl with
  | [c0, c1, c2, c3], _ =>
    simp only [Try.cells_int, Try.cells_val, Try.cells_kind, List.drop_zero, List.drop_succ_cons, List.take_succ_cons, List.take_zero] at h0 h1 h2 h3
    obtain ⟨k, e0, _, wk⟩ := DataW.trod_int Try.underlying40 h0
    obtain ⟨c, e1, _, wc⟩ := DataW.trod_int Try.underlying3 h1
    obtain ⟨t, e2, _, wt⟩ := DataW.trod_int Try.underlying3 h2
    obtain ⟨a, e3, _, wa⟩ := DataW.trod_int Try.underlying42 h3
    simp at e0 e1 e2 e3
    subst e0 e1 e2 e3
    exact ⟨⟨k, c, t, a⟩, ⟨wf_u8 wk, wf_i64 wc, wf_i64 wt, wf_u64 wa⟩, rfl⟩

/-- A slice of events that came in. -/
theorem events_of_trod {H : Type} {enc : TypeId × Value → H} {W : World} {ao : Option Addr} {len cap : Nat} {d : DataW H} {p : List MemPlace} (h : DataW.Trod enc Try.prog W 0 (fun _ => true) true 22 (.slice ao len cap) d p) :
    ∃ l : List EvD, EvRow W (.slice ao len cap) l ∧ (∀ o ∈ l, o.Wf) ∧ l.length ≤ maxLen :=
  rows_of_trod (α := EvD) (n := 4) (cells := EvD.cells) (Wf := EvD.Wf) ⟨0, 0, 0, 0⟩ (by decide) (fun _ => rfl) Try.underlying22 Try.cells_ev (fun h => ev_of_trod h) h

/-- Three bytes, by value. -/
theorem three_of_trod {H : Type} {enc : TypeId × Value → H} {W : World} {r : Reach} {b0 : Nat} {v : Value} {d : DataW H} {p : List MemPlace} (hv : Value.okWide Try.prog W r b0 38 v) (h : DataW.Trod enc Try.prog W 0 (fun _ => true) true 38 v d p) :
    ∃ h0 h1 h2 : Int, v = .agg #[.int .u8 h0, .int .u8 h1, .int .u8 h2] ∧ (0 ≤ h0 ∧ h0 ≤ 255) ∧ (0 ≤ h1 ∧ h1 ≤ 255) ∧ (0 ≤ h2 ∧ h2 ≤ 255) := by
  have hu := Try.underlying38
  simp only [Value.okWide, hu] at hv
  obtain ⟨cs, rfl, hsz, _⟩ := hv
  obtain ⟨c0, c1, c2, rfl⟩ : ∃ c0 c1 c2, cs = #[c0, c1, c2] := by
    have h3 : cs.size = 3 := hsz.trans (by kernel_rfl)
    obtain ⟨l⟩ := cs
    match l, h3 with
    | [c0, c1, c2], _ => exact ⟨c0, c1, c2, rfl⟩
  obtain ⟨fuel, hf⟩ := h
  obtain ⟨xs, m, _, _, _, hlen, hx⟩ := DataW.trod_array hu hf
  rw [show Try.prog.cellsOf 5 = 1 by kernel_rfl] at hx
  have key : ∀ i, i < 3 → ∃ n : Int, (((Value.agg #[c0, c1, c2]).cells.toList.drop (i * 1)).take 1) = [.int .u8 n] ∧ (0 ≤ n ∧ n ≤ 255) := fun i hi => by
    have h1 := hx i hi
    obtain ⟨y, hy⟩ : ∃ y, xs[i]? = some y := ⟨xs[i], List.getElem?_eq_getElem (by omega)⟩
    rw [hy] at h1
    obtain ⟨k, e0, _, wk⟩ := DataW.trod_int Try.underlying5 h1
    exact ⟨k, e0, wf_u8 wk⟩
  obtain ⟨n0, e0, w0⟩ := key 0 (by omega)
  obtain ⟨n1, e1, w1⟩ := key 1 (by omega)
  obtain ⟨n2, e2, w2⟩ := key 2 (by omega)
  simp [Value.cells] at e0 e1 e2
  subst e0 e1 e2
  exact ⟨n0, n1, n2, rfl, w0, w1, w2⟩
/-- Two numbers, by value. -/
theorem two_of_trod {H : Type} {enc : TypeId × Value → H} {W : World} {r : Reach} {b0 : Nat} {v : Value} {d : DataW H} {p : List MemPlace} (hv : Value.okWide Try.prog W r b0 32 v) (h : DataW.Trod enc Try.prog W 0 (fun _ => true) true 32 v d p) :
    ∃ h0 h1 : Int, v = .agg #[.int .i64 h0, .int .i64 h1] ∧ W64 h0 ∧ W64 h1 := by
  have hu := Try.underlying32
  simp only [Value.okWide, hu] at hv
  obtain ⟨cs, rfl, hsz, _⟩ := hv
  obtain ⟨c0, c1, rfl⟩ : ∃ c0 c1, cs = #[c0, c1] := by
    have h3 : cs.size = 2 := hsz.trans (by kernel_rfl)
    obtain ⟨l⟩ := cs
    match l, h3 with
    | [c0, c1], _ => exact ⟨c0, c1, rfl⟩
  obtain ⟨fuel, hf⟩ := h
  obtain ⟨xs, m, _, _, _, hlen, hx⟩ := DataW.trod_array hu hf
  rw [Try.cells_int] at hx
  have key : ∀ i, i < 2 → ∃ n : Int, (((Value.agg #[c0, c1]).cells.toList.drop (i * 1)).take 1) = [.int .i64 n] ∧ W64 n := fun i hi => by
    have h1 := hx i hi
    obtain ⟨y, hy⟩ : ∃ y, xs[i]? = some y := ⟨xs[i], List.getElem?_eq_getElem (by omega)⟩
    rw [hy] at h1
    obtain ⟨k, e0, _, wk⟩ := DataW.trod_int Try.underlying3 h1
    exact ⟨k, e0, wf_i64 wk⟩
  obtain ⟨n0, e0, w0⟩ := key 0 (by omega)
  obtain ⟨n1, e1, w1⟩ := key 1 (by omega)
  simp [Value.cells] at e0 e1
  subst e0 e1
  exact ⟨n0, n1, rfl, w0, w1⟩

end Go.Proofs.Ytganlfgalcoepaa
