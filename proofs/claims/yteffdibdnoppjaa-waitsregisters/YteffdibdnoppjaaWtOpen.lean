/-
  FROM AN ARGUMENT's READING TO DEEDS THAT CAN BE READ.
-/
import Derived.Test.YteffdibdnoppjaaWtBase
import Derived.Test.YteffdibdnoppjaaRowsIn
import Derived.OpenShut
namespace Go.Proofs.Yteffdibdnoppjaa
set_option linter.unusedVariables false
set_option linter.unusedSimpArgs false
open Go.ChangeShapes Go.WideShapes Go.ChangeAt Go.RowKit Go.Joins Go.Deep

theorem Try.own : ownKnob Try.prog.godebug = none := by kernel_rfl
theorem Try.laidOut : laidOutB Try.prog = true := by kernel_rfl
theorem Try.cells_deed : Try.prog.cellsOf 24 = 3 := by kernel_rfl
theorem Try.cells_ints : Try.prog.cellsOf 22 = 1 := by kernel_rfl
theorem Try.cells_u8 : Try.prog.cellsOf 5 = 1 := by kernel_rfl

/-- A deed. -/
structure DeedW where
  k : Int
  th : Int
  ao : Option Addr
  cap : Nat
  t : List Int
def DeedW.cells (d : DeedW) : List Value := [.int .i64 d.k, .int .i64 d.th, .slice d.ao d.t.length d.cap]
/-- What a deed that came in is. -/
structure DeedW.Wf (W : World) (d : DeedW) : Prop where
  th : W64 d.th
  row : IRow W (.slice d.ao d.t.length d.cap) d.t
  cap : d.t.length ≤ d.cap
  len : d.t.length ≤ maxLen
abbrev DeedWRow := SRow 3 DeedW.cells

theorem ints_in {H : Type} {enc : TypeId × Value → H} {w : World} {base : Nat} {spare : Nat → Bool} {held : Bool} {fuel : Nat} {cs : List Value} {x : DataW H × List MemPlace} (h : DataW.trod enc Try.prog w base spare held fuel 22 cs = some x) :
    ∃ ao cap, ∃ l : List Int, cs = [.slice ao l.length cap] ∧ IRow w (.slice ao l.length cap) l ∧ (∀ o ∈ l, True) ∧ l.length ≤ cap ∧ l.length ≤ maxLen :=
  rows_in (α := Int) (n := 1) (cells := icell) (Wf := fun _ => True) 0 (by decide) (fun _ => rfl) Try.underlying22 Try.cells_int (fun h => by
    obtain ⟨k, e0, _, wk⟩ := DataW.trod_int Try.underlying3 h
    exact ⟨k, trivial, e0⟩) h

theorem deed_of_trod {H : Type} {enc : TypeId × Value → H} {w : World} {base : Nat} {spare : Nat → Bool} {held : Bool} {fuel : Nat} {cs : List Value} {x : DataW H × List MemPlace} (h : DataW.trod enc Try.prog w base spare held fuel 24 cs = some x) :
    ∃ o : DeedW, o.Wf w ∧ cs = o.cells := by
  obtain ⟨y0, y1, y2, n, _, hl, h0, h1, h2⟩ := trod_struct3 Try.underlying24 h
  rw [Try.cells_deed] at hl
  match cs, hl with
  | [c0, c1, c2], _ =>
    simp only [Try.cells_int, Try.cells_ints, List.drop_zero, List.drop_succ_cons, List.take_succ_cons, List.take_zero] at h0 h1 h2
    obtain ⟨k, e0, _, wk⟩ := DataW.trod_int Try.underlying3 h0
    obtain ⟨c, e1, _, wc⟩ := DataW.trod_int Try.underlying3 h1
    obtain ⟨ao, cap, l, e2, hr, _, hc, hm⟩ := ints_in h2
    simp at e0 e1 e2
    subst e0 e1 e2
    exact ⟨⟨k, c, ao, cap, l⟩, ⟨wf_i64 wc, hr, hc, hm⟩, rfl⟩

/-- A slice of deeds that came in. -/
theorem deeds_of_trod {H : Type} {enc : TypeId × Value → H} {W : World} {ao : Option Addr} {len cap : Nat} {d : DataW H} {p : List MemPlace} (h : DataW.Trod enc Try.prog W 0 (fun _ => true) true 37 (.slice ao len cap) d p) :
    ∃ l : List DeedW, DeedWRow W (.slice ao len cap) l ∧ (∀ o ∈ l, o.Wf W) ∧ l.length ≤ maxLen := by
  obtain ⟨fuel, hf⟩ := h
  obtain ⟨ao', cap', l, e, hr, hw, _, hm⟩ := rows_in (α := DeedW) (n := 3) (cells := DeedW.cells) (Wf := DeedW.Wf W) ⟨0, 0, none, 0, []⟩ (by decide) (fun _ => rfl) Try.underlying37 Try.cells_deed (fun h => deed_of_trod h) hf
  simp [Value.cells] at e
  obtain ⟨rfl, rfl, rfl⟩ := e
  exact ⟨l, hr, hw, hm⟩

abbrev URow := SRow 1 (fun x : Int => [Value.int .u8 x])
/-- A slice of bytes that came in. -/
theorem bytes_of_trod {H : Type} {enc : TypeId × Value → H} {W : World} {ao : Option Addr} {len cap : Nat} {d : DataW H} {p : List MemPlace} (h : DataW.Trod enc Try.prog W 0 (fun _ => true) true 45 (.slice ao len cap) d p) :
    ∃ l : List Int, URow W (.slice ao len cap) l ∧ (∀ o ∈ l, 0 ≤ o ∧ o ≤ 255) ∧ l.length ≤ maxLen :=
  rows_of_trod (α := Int) (n := 1) (cells := fun x : Int => [Value.int .u8 x]) (Wf := fun o => 0 ≤ o ∧ o ≤ 255) 0 (by decide) (fun _ => rfl) Try.underlying45 Try.cells_u8 (fun h => by
    obtain ⟨k, e0, _, wk⟩ := DataW.trod_int Try.underlying5 h
    exact ⟨k, wf_u8 wk, e0⟩) h

/-- One deed, by value. -/
theorem one_of_trod {H : Type} {enc : TypeId × Value → H} {W : World} {r : Reach} {b0 : Nat} {v : Value} {d : DataW H} {p : List MemPlace} (hv : Value.okWide Try.prog W r b0 24 v) (h : DataW.Trod enc Try.prog W 0 (fun _ => true) true 24 v d p) :
    ∃ (k th : Int) (ao : Option Addr) (cap : Nat) (l : List Int), v = .agg #[.int .i64 k, .int .i64 th, .slice ao l.length cap] ∧ IRow W (.slice ao l.length cap) l ∧ l.length ≤ cap ∧ l.length ≤ maxLen := by
  obtain ⟨x0, x1, x2, y0, y1, y2, m, rfl, hd, hp, h0, h1, h2⟩ := open_agg3 Try.underlying24 (by kernel_rfl) (by kernel_rfl) hv h
  obtain ⟨k, e0, _, _⟩ := DataW.trod_int Try.underlying3 h0
  obtain ⟨c, e1, _, _⟩ := DataW.trod_int Try.underlying3 h1
  obtain ⟨ao, cap, l, e2, hr, _, hc, hm⟩ := ints_in h2
  simp at e0 e1 e2
  subst e0 e1 e2
  exact ⟨_, _, _, _, _, rfl, hr, hc, hm⟩

end Go.Proofs.Yteffdibdnoppjaa
