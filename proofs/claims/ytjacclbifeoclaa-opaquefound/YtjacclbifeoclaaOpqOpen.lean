/-
  FROM AN ARGUMENT's READING TO VALUES AND NUMBERS THAT CAN BE READ.
-/
import Derived.Test.YtjacclbifeoclaaHistOpen
import Derived.Test.YtjacclbifeoclaaOpqBase
namespace Go.Proofs.Ytjacclbifeoclaa
set_option linter.unusedVariables false
set_option linter.unusedSimpArgs false
set_option maxRecDepth 100000
open Go.ChangeShapes Go.WideShapes Go.ChangeAt Go.RowKit Go.Joins Go.Deep

theorem oval_of_trod {H : Type} {enc : TypeId × Value → H} {w : World} {base : Nat} {spare : Nat → Bool} {held : Bool} {fuel : Nat} {cs : List Value} {x : DataW H × List MemPlace} (h : DataW.trod enc Try.prog w base spare held fuel 49 cs = some x) :
    ∃ o : Int, Wf64 o ∧ cs = [Value.int .u64 o] := by
  obtain ⟨k, e0, _, wk⟩ := DataW.trod_int Try.underlying49 h
  exact ⟨k, wf_u64 wk, e0⟩
/-- A slice of values that came in. -/
theorem ovals_of_trod {H : Type} {enc : TypeId × Value → H} {W : World} {ao : Option Addr} {len cap : Nat} {d : DataW H} {p : List MemPlace} (h : DataW.Trod enc Try.prog W 0 (fun _ => true) true 23 (.slice ao len cap) d p) :
    ∃ l : List Int, VRow W (.slice ao len cap) l ∧ (∀ o ∈ l, Wf64 o) ∧ l.length ≤ maxLen :=
  rows_of_trod (α := Int) (n := 1) (cells := fun x : Int => [Value.int .u64 x]) (Wf := Wf64) 0 (by decide) (fun _ => rfl) Try.underlying23 Try.cells_val (fun h => oval_of_trod h) h
theorem oint_of_trod {H : Type} {enc : TypeId × Value → H} {w : World} {base : Nat} {spare : Nat → Bool} {held : Bool} {fuel : Nat} {cs : List Value} {x : DataW H × List MemPlace} (h : DataW.trod enc Try.prog w base spare held fuel 3 cs = some x) :
    ∃ o : Int, W64 o ∧ cs = [Value.int .i64 o] := by
  obtain ⟨k, e0, _, wk⟩ := DataW.trod_int Try.underlying3 h
  exact ⟨k, wf_i64 wk, e0⟩
/-- A slice of numbers that came in. -/
theorem oints_of_trod {H : Type} {enc : TypeId × Value → H} {W : World} {ao : Option Addr} {len cap : Nat} {d : DataW H} {p : List MemPlace} (h : DataW.Trod enc Try.prog W 0 (fun _ => true) true 24 (.slice ao len cap) d p) :
    ∃ l : List Int, IRow W (.slice ao len cap) l ∧ (∀ o ∈ l, W64 o) ∧ l.length ≤ maxLen :=
  rows_of_trod (α := Int) (n := 1) (cells := fun x : Int => [Value.int .i64 x]) (Wf := W64) 0 (by decide) (fun _ => rfl) Try.underlying24 Try.cells_int (fun h => oint_of_trod h) h

/-- Two slices of numbers, by value. -/
theorem order_of_trod {H : Type} {enc : TypeId × Value → H} {W : World} {r : Reach} {b0 : Nat} {v : Value} {d : DataW H} {p : List MemPlace} (hv : Value.okWide Try.prog W r b0 41 v) (h : DataW.Trod enc Try.prog W 0 (fun _ => true) true 41 v d p) :
    ∃ aL aC cL cC L C, v = .agg #[.slice aL (List.length L) cL, .slice aC (List.length C) cC] ∧ (IRow W (.slice aL (List.length L) cL) L ∧ L.length ≤ cL ∧ cL ≤ maxLen ∧ ∀ x ∈ L, W64 x) ∧ (IRow W (.slice aC (List.length C) cC) C ∧ C.length ≤ cC ∧ cC ≤ maxLen) := by
  obtain ⟨x0, x1, y0, y1, m, rfl, hd, hp, hy0, hy1⟩ := open_agg2 Try.underlying41 (by kernel_rfl) (by kernel_rfl) hv h
  have key : ∀ x y, DataW.trod enc Try.prog W 0 (fun _ => true) true m 24 [x] = some y → ∃ a c, ∃ l : List Int, x = .slice a l.length c ∧ IRow W (.slice a l.length c) l ∧ l.length ≤ c ∧ c ≤ maxLen ∧ ∀ x ∈ l, W64 x := fun x y hy => by
    have hx : ∃ a n c, x = .slice a n c := by
      rcases open_slice Try.underlying24 hy with ⟨hcs, _⟩ | ⟨a, len, cap, _, _, _, _, hcs, _⟩
      · simp at hcs; exact ⟨_, _, _, hcs⟩
      · simp at hcs; exact ⟨_, _, _, hcs⟩
    obtain ⟨a, n, c, rfl⟩ := hx
    have ht : DataW.Trod enc Try.prog W 0 (fun _ => true) true 24 (.slice a n c) y.1 y.2 := ⟨m, hy⟩
    obtain ⟨l, h1, h2, h3⟩ := oints_of_trod ht
    have hl : n = l.length := by obtain ⟨_, _, e, _⟩ := h1; simp only [Value.slice.injEq] at e; exact e.2.1
    subst hl
    have hc := caps_of_trod Try.underlying24 ht
    exact ⟨a, c, l, rfl, h1, hc.1, hc.2, h2⟩
  obtain ⟨aL, cL, L, rfl, l1, l2, l3, l4⟩ := key _ _ hy0
  obtain ⟨aC, cC, C, rfl, k1, k2, k3, _⟩ := key _ _ hy1
  exact ⟨aL, aC, cL, cC, L, C, rfl, ⟨l1, l2, l3, l4⟩, ⟨k1, k2, k3⟩⟩

end Go.Proofs.Ytjacclbifeoclaa
