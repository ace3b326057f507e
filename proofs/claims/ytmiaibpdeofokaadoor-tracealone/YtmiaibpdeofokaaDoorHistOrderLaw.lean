/-
  few BY ITS CONTRACT; HistoryOrder, WALKED.
-/
import Derived.Test.YtmiaibpdeofokaaDoorHistLive
import Derived.Test.YtmiaibpdeofokaaDoorAllB
namespace Go.Proofs.YtmiaibpdeofokaaDoor
set_option linter.unusedVariables false
set_option linter.unusedSimpArgs false
open Go.RowKit Go.Maps Go.Shelf
attribute [local go_sem] Oper.semAt_some

theorem few_row {w : World} {ao : Option Addr} {cap : Nat} {l : List EvD} (hr : EvRow w (.slice ao l.length cap) l) : EvRow w (.slice ao (l.take 60).length cap) (l.take 60) := by
  by_cases h60 : l.length ≤ 60
  · rw [List.take_of_length_le h60]; exact hr
  · exact SRow.first hr 60 (by omega)
theorem few_wf {l : List EvD} (h : ∀ e ∈ l, e.Wf) : ∀ e ∈ l.take 60, e.Wf := fun e he => h e (List.mem_of_mem_take he)
theorem few_len (l : List EvD) : (l.take 60).length ≤ 60 := by simp; omega

theorem right_run {l : List EvD} (h : rightS l = true) : ∃ M, runC M0 l = some M := by
  unfold rightS at h
  simp only [Bool.and_eq_true] at h
  exact Option.isSome_iff_exists.1 h.2


end Go.Proofs.YtmiaibpdeofokaaDoor
