/-
  FROM AN ARGUMENT's READING TO VALUES THAT CAN BE READ.
-/
import Derived.Test.YtijnepbmkkdpnaaWritesOpen
namespace Go.Proofs.Ytijnepbmkkdpnaa
set_option linter.unusedVariables false
set_option linter.unusedSimpArgs false
open Go.ChangeShapes Go.WideShapes Go.ChangeAt Go.RowKit Go.Joins Go.Deep

abbrev ValRow := SRow 1 (fun x : Int => [Value.int .u64 x])
theorem ValRow.one {w : World} {ao : Option Addr} {cap : Nat} {l : List Int} (h : ValRow w (.slice ao l.length cap) l) (k : Nat) (hk : k < l.length) :
    ∃ g off, ao = some ⟨g, off, none⟩ ∧ g < w.heap.size ∧ w.cell? ⟨g, off + k, none⟩ = some (.int .u64 l[k]) := by
  obtain ⟨g, off, e, hlt, hc⟩ := h.at k hk
  exact ⟨g, off, e, hlt, by simpa using hc 0 (by omega)⟩

theorem val_of_trod {H : Type} {enc : TypeId × Value → H} {w : World} {base : Nat} {spare : Nat → Bool} {held : Bool} {fuel : Nat} {cs : List Value} {x : DataW H × List MemPlace} (h : DataW.trod enc Try.prog w base spare held fuel 38 cs = some x) :
    ∃ o : Int, Wf64 o ∧ cs = [Value.int .u64 o] := by
  obtain ⟨k, e0, _, wk⟩ := DataW.trod_int Try.underlying38 h
  exact ⟨k, wf_u64 wk, e0⟩

/-- A slice of values that came in. -/
theorem vals_of_trod {H : Type} {enc : TypeId × Value → H} {W : World} {ao : Option Addr} {len cap : Nat} {d : DataW H} {p : List MemPlace} (h : DataW.Trod enc Try.prog W 0 (fun _ => true) true 23 (.slice ao len cap) d p) :
    ∃ l : List Int, ValRow W (.slice ao len cap) l ∧ (∀ o ∈ l, Wf64 o) ∧ l.length ≤ maxLen :=
  rows_of_trod (α := Int) (n := 1) (cells := fun x : Int => [Value.int .u64 x]) (Wf := Wf64) 0 (by decide) (fun _ => rfl) Try.underlying23 Try.cells_val (fun h => val_of_trod h) h

end Go.Proofs.Ytijnepbmkkdpnaa
