/-
  package code: Encode OF ONE INSTRUCTION BY ITS CONTRACT.
-/
import Derived.Test.YtcbkafbchpjnoaaGreatDoorCdLive
import Derived.Test.YtcbkafbchpjnoaaGreatDoorCdInj
namespace Go.Proofs.YtcbkafbchpjnoaaGreatDoor
set_option linter.unusedVariables false
set_option linter.unusedSimpArgs false
open Go.RowKit

/-- Bytes that can be read, with their room. -/
structure BytAt (w : World) (ao : Option Addr) (n cap : Nat) (l : List Int) : Prop where
  len : n = l.length
  row : BRow w (.slice ao l.length cap) l
  le : n ≤ cap
  max : cap ≤ 9223372036854775807
theorem BytAt.keep {w w' : World} {ao : Option Addr} {n cap : Nat} {l : List Int} (h : BytAt w ao n cap l) (t : Touch w w' []) : BytAt w' ao n cap l := ⟨h.len, SRow.keep h.row t (by simp), h.le, h.max⟩
theorem BytAt.str {w : World} {ao : Option Addr} {n cap : Nat} {l : List Int} (h : BytAt w ao n cap l) : (convert 208 9 (.slice ao n cap)).run Tryz.prog w = .ok (.string (strOfNums l)) w := by
  rw [h.len]; exact str_of h.row
theorem BytAt.take {w : World} {ao : Option Addr} {n cap : Nat} {l : List Int} (h : BytAt w ao n cap l) (m : Nat) (hm : m ≤ n) : BytAt w ao m cap (l.take m) := by
  have hl : (l.take m).length = m := by rw [List.length_take, ← h.len]; omega
  refine ⟨hl.symm, ?_, by have := h.le; omega, h.max⟩
  have h2 : BRow w (.slice ao (l.take m ++ l.drop m).length cap) (l.take m ++ l.drop m) := by rw [List.take_append_drop]; exact h.row
  exact brow_take h2 cap
theorem byt_at {w : World} {B : Nat} {v : Value} {l : List Int} (h : bytOwn w B v l) : ∃ ao cap, v = .slice ao l.length cap ∧ BytAt w ao l.length cap l := by
  have hr : BRow w v l := srow_of (cells := ucell) (n := 1) (fun _ => rfl) (by rw [flat_one]; exact h)
  rcases h.2 with ⟨e5, h5⟩ | ⟨g5, cap5, cur5, e5, hb5, _, hn5, hm5, _⟩
  · subst e5
    exact ⟨none, 0, by rw [h5], ⟨rfl, by rw [h5]; exact hr, by omega, by omega⟩⟩
  · subst e5
    exact ⟨_, cap5, rfl, ⟨rfl, hr, hn5, by unfold maxLen at hm5; omega⟩⟩

/-- What Encode of one comes to: r: is it right? its n bytes l. -/
def OnePost (W : World) (r : Bool) (n : Nat) (l : List Int) (e : Ending) (w' : World) : Prop :=
  (r = true ∧ ∃ ao cap, e = .returned (.tuple #[.slice ao n cap, .int .i64 0]) ∧ BytAt w' ao n cap l ∧ Touch W w' []) ∨ (r = false ∧ e = .returned (.tuple #[.slice none 0 0, .int .i64 3]) ∧ Touch W w' [])
end Go.Proofs.YtcbkafbchpjnoaaGreatDoor
