/-
  FROM AN ARGUMENT's READING TO ENTRIES AND VALUES THAT CAN BE READ.
-/
import Derived.Test.YtbiinldodhkkbaaReadsLive
namespace Go.Proofs.Ytbiinldodhkkbaa
set_option linter.unusedVariables false
set_option linter.unusedSimpArgs false
open Go.ChangeShapes Go.WideShapes Go.ChangeAt Go.RowKit Go.Joins Go.Deep

theorem Try.own : ownKnob Try.prog.godebug = none := by kernel_rfl
theorem Try.laidOut : laidOutB Try.prog = true := by kernel_rfl
theorem Try.cells_ent : Try.prog.cellsOf 41 = 3 := by kernel_rfl
theorem Try.cells_val : Try.prog.cellsOf 39 = 1 := by kernel_rfl

theorem ent_of_trod {H : Type} {enc : TypeId × Value → H} {w : World} {base : Nat} {spare : Nat → Bool} {held : Bool} {fuel : Nat} {cs : List Value} {x : DataW H × List MemPlace} (h : DataW.trod enc Try.prog w base spare held fuel 41 cs = some x) :
    ∃ o : EntD, o.Wf ∧ cs = o.cells := by
  obtain ⟨y0, y1, y2, n, _, hl, h0, h1, h2⟩ := trod_struct3 Try.underlying41 h
  rw [Try.cells_ent] at hl
  match cs, hl with
  | [c0, c1, c2], _ =>
    simp only [Try.cells_int, Try.cells_u64, Try.cells_val, List.drop_zero, List.drop_succ_cons, List.take_succ_cons, List.take_zero] at h0 h1 h2
    obtain ⟨k, e0, _, wk⟩ := DataW.trod_int Try.underlying3 h0
    obtain ⟨c, e1, _, wc⟩ := DataW.trod_int Try.underlying39 h1
    obtain ⟨a, e2, _, wa⟩ := DataW.trod_int Try.underlying38 h2
    simp at e0 e1 e2
    subst e0 e1 e2
    exact ⟨⟨k, c, a⟩, ⟨wf_i64 wk, wf_u64 wc, wf_u64 wa⟩, rfl⟩

/-- A slice of entries that came in. -/
theorem ents_of_trod {H : Type} {enc : TypeId × Value → H} {W : World} {ao : Option Addr} {len cap : Nat} {d : DataW H} {p : List MemPlace} (h : DataW.Trod enc Try.prog W 0 (fun _ => true) true 22 (.slice ao len cap) d p) :
    ∃ l : List EntD, EntRow W (.slice ao len cap) l ∧ (∀ o ∈ l, o.Wf) ∧ l.length ≤ maxLen :=
  rows_of_trod (α := EntD) (n := 3) (cells := EntD.cells) (Wf := EntD.Wf) ⟨0, 0, 0⟩ (by decide) (fun _ => rfl) Try.underlying22 Try.cells_ent (fun h => ent_of_trod h) h

theorem val_of_trod {H : Type} {enc : TypeId × Value → H} {w : World} {base : Nat} {spare : Nat → Bool} {held : Bool} {fuel : Nat} {cs : List Value} {x : DataW H × List MemPlace} (h : DataW.trod enc Try.prog w base spare held fuel 39 cs = some x) :
    ∃ o : Int, Wf64 o ∧ cs = [Value.int .u64 o] := by
  obtain ⟨k, e0, _, wk⟩ := DataW.trod_int Try.underlying39 h
  exact ⟨k, wf_u64 wk, e0⟩

/-- A slice of values that came in. -/
theorem vals_of_trod {H : Type} {enc : TypeId × Value → H} {W : World} {ao : Option Addr} {len cap : Nat} {d : DataW H} {p : List MemPlace} (h : DataW.Trod enc Try.prog W 0 (fun _ => true) true 43 (.slice ao len cap) d p) :
    ∃ l : List Int, ValRow W (.slice ao len cap) l ∧ (∀ o ∈ l, Wf64 o) ∧ l.length ≤ maxLen :=
  rows_of_trod (α := Int) (n := 1) (cells := fun x : Int => [Value.int .u64 x]) (Wf := Wf64) 0 (by decide) (fun _ => rfl) Try.underlying43 Try.cells_val (fun h => val_of_trod h) h

end Go.Proofs.Ytbiinldodhkkbaa
