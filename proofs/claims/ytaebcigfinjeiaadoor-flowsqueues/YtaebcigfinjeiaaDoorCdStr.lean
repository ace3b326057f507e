/-
  BYTES AS A TEXT: string(b) of a row of bytes.
-/
import Derived.Test.YtaebcigfinjeiaaDoorCdTaken
import Derived.Laws.BytesArg
namespace Go.Proofs.YtaebcigfinjeiaaDoor
set_option linter.unusedVariables false
set_option linter.unusedSimpArgs false
open Go.RowKit

theorem str_of {w : World} {ao : Option Addr} {cap : Nat} {l : List Int} (h : BRow w (.slice ao l.length cap) l) :
    (convert 150 9 (.slice ao l.length cap)).run Tryd.prog w = .ok (.string (strOfNums l)) w := by
  rcases l with _ | ⟨x, l⟩
  · obtain ⟨ao', cap', e, _⟩ := h
    cases ao with
    | none =>
      rw [run_convert_bytes_nil w 150 5 Tryd.underlying150 Tryd.underlying5 _ _ 9 Tryd.underlying9]
      rfl
    | some a =>
      obtain ⟨b, off, fld⟩ := a
      rw [run_convert_bytes_string w 150 9 5 _ _ _ Tryd.underlying150 Tryd.underlying5 Tryd.underlying9, run_bytesToString w _ _ cap [] (by simpa using run_loadCells_list (P := Tryd.prog) w ⟨b, off, fld⟩ [] (fun j v hj => by simp at hj))]
      rfl
  · obtain ⟨g, off, rfl, hg, _⟩ := h.one 0 (by simp)
    exact run_convert_bytes_arg w 150 5 Tryd.underlying150 Tryd.underlying5 g off _ cap (x :: l) rfl (fun i hi => by
      obtain ⟨g', off', e', _, hc⟩ := h.one i hi
      simp only [Option.some.injEq, Addr.mk.injEq] at e'
      obtain ⟨rfl, rfl, _⟩ := e'
      have q : (x :: l).getD i 0 = (x :: l)[i] := by simp [List.getD, List.getElem?_eq_getElem hi]
      rw [q]
      simpa using hc) 9 Tryd.underlying9

end Go.Proofs.YtaebcigfinjeiaaDoor
