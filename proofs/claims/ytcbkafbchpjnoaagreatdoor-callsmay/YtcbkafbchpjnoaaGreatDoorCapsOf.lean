/-
  A slice that came in: its length, and how far it may go.
-/
import Derived.Test.YtcbkafbchpjnoaaGreatDoorAllA
namespace Go.Proofs.YtcbkafbchpjnoaaGreatDoor
set_option linter.unusedVariables false
set_option linter.unusedSimpArgs false
open Go.ChangeShapes Go.WideShapes Go.ChangeAt Go.RowKit Go.Joins Go.Deep

theorem caps_of_trod {H : Type} {enc : TypeId × Value → H} {W : World} {T E : TypeId} (hu : Tryz.prog.underlying T = some (.slice E))
    {ao : Option Addr} {len cap : Nat} {d : DataW H} {p : List MemPlace} (h : DataW.Trod enc Tryz.prog W 0 (fun _ => true) true T (.slice ao len cap) d p) : len ≤ cap ∧ cap ≤ maxLen := by
  obtain ⟨fuel, hf⟩ := h
  rcases open_slice hu hf with ⟨hcs, _⟩ | ⟨a, len', cap', m, n', D, Pl, hcs, _, hl, hm, hmm, _, hx⟩
  · simp [Value.cells] at hcs
    obtain ⟨rfl, rfl, rfl⟩ := hcs
    exact ⟨Nat.le_refl _, by unfold maxLen; omega⟩
  · simp [Value.cells] at hcs
    obtain ⟨rfl, rfl, rfl⟩ := hcs
    exact ⟨hl, hm⟩

/-- The first ones of a row. -/
theorem SRow.first {α : Type} {n : Nat} {cells : α → List Value} {w : World} {ao : Option Addr} {cap : Nat} {l : List α} (h : SRow n cells w (.slice ao l.length cap) l) (m : Nat) (hm : m ≤ l.length) : SRow n cells w (.slice ao (l.take m).length cap) (l.take m) := by
  obtain ⟨ao', cap', e, h1⟩ := h
  simp only [Value.slice.injEq, true_and] at e
  obtain ⟨rfl, rfl⟩ := e
  refine ⟨ao, cap, rfl, fun hne => ?_⟩
  obtain ⟨g, off, rfl, hlt, hc⟩ := h1 (by intro e; rw [e] at hne; simp at hne)
  exact ⟨g, off, rfl, hlt, fun k hk j hj => by rw [List.getElem_take]; exact hc k (by simp at hk; omega) j hj⟩

end Go.Proofs.YtcbkafbchpjnoaaGreatDoor
