/-
  few BY ITS CONTRACT; HistoryOrder, WALKED.
-/
import Derived.Test.YtalcgnikfepmdaaHistLive
import Derived.Test.YtalcgnikfepmdaaHistOrder
namespace Go.Proofs.Ytalcgnikfepmdaa
set_option linter.unusedVariables false
set_option linter.unusedSimpArgs false
open Go.RowKit Go.Maps Go.Shelf
attribute [local go_sem] Oper.semAt_some

/-- At most sixty of them. -/
theorem few_any {w : World} {ao : Option Addr} {cap : Nat} {l : List EvD} (hr : EvRow w (.slice ao l.length cap) l) (hc : l.length ≤ cap ∧ cap ≤ maxLen) :
    Calls Try.prog 5 #[.slice ao l.length cap] w fun e w' => e = .returned (.slice ao (l.take 60).length cap) ∧ w = w' := by
  obtain ⟨h1, h2⟩ := hc
  unfold maxLen at h2
  by_cases h60 : l.length ≤ 60
  · rw [List.take_of_length_le h60]
    have h' : ¬ ((l.length : Int) > 60) := by omega
    clear hr
    generalize l.length = N at *
    go_enter Try.func5, Try.ntmps5
    go_wp2
    go_ret
    exact ⟨rfl, rfl⟩
  · have hl : (l.take 60).length = 60 := by simp; omega
    rw [hl]
    obtain ⟨g, off, rfl, hx⟩ := hr.one 0 (by omega)
    have h' : ((l.length : Int) > 60) := by omega
    have hcz : (60 : Int) ≤ cap := by omega
    clear hr hl hx
    generalize l.length = N at *
    go_enter Try.func5, Try.ntmps5
    go_wp2
    go_ret
    exact ⟨rfl, rfl⟩

theorem few_row {w : World} {ao : Option Addr} {cap : Nat} {l : List EvD} (hr : EvRow w (.slice ao l.length cap) l) : EvRow w (.slice ao (l.take 60).length cap) (l.take 60) := by
  by_cases h60 : l.length ≤ 60
  · rw [List.take_of_length_le h60]; exact hr
  · exact SRow.first hr 60 (by omega)
theorem few_wf {l : List EvD} (h : ∀ e ∈ l, e.Wf) : ∀ e ∈ l.take 60, e.Wf := fun e he => h e (List.mem_of_mem_take he)
theorem few_len (l : List EvD) : (l.take 60).length ≤ 60 := by simp; omega

theorem right_run {l : List EvD} (h : rightS l = true) : ∃ M, runC M0 l = some M := by
  unfold rightS at h
  simp only [Bool.and_eq_true] at h
  exact Option.isSome_iff_exists.1 h.2


end Go.Proofs.Ytalcgnikfepmdaa
