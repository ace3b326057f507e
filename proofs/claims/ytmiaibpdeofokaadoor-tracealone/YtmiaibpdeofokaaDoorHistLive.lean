/-
  package rowlocklaw08: live, few BY THEIR CONTRACTS.
-/
import Derived.Test.YtmiaibpdeofokaaDoorHistOwn
import Derived.Test.YtmiaibpdeofokaaDoorCapsOf
namespace Go.Proofs.YtmiaibpdeofokaaDoor
set_option linter.unusedVariables false
set_option linter.unusedSimpArgs false
open Go.RowKit Go.Maps Go.Shelf
attribute [local go_sem] Oper.semAt_some

def TrueN (w : World) (e : Ending) (w' : World) : Prop := e = .returned (.bool true) ∧ Touch w w' []

def liveL : List EvD := [⟨1, 0, 0, 0⟩, ⟨3, 0, 1, 5⟩, ⟨2, 0, 1, 5⟩, ⟨7, 0, 0, 0⟩, ⟨8, 0, 0, 0⟩]
theorem live_wf : ∀ e ∈ liveL, e.Wf := by
  intro e he
  simp only [liveL, List.mem_cons, List.not_mem_nil, or_false] at he
  rcases he with rfl | rfl | rfl | rfl | rfl
  all_goals exact ⟨by decide, by decide, by decide, by unfold Wf64; decide⟩
theorem live_right : rightS liveL = true := by kernel_rfl
theorem live_att : (attS liveL).length = 1 := by kernel_rfl
theorem live_state : stateS liveL 0 = 3 := by kernel_rfl
theorem live_reads : (readsS (cutS 0 liveL) (cutS 0 liveL).length) = [] := by kernel_rfl
theorem live_writes : allK (getF (noteAll [f0] (cutS 0 liveL))) 12 = [(1, 5)] := by kernel_rfl
theorem live_own : ownS (cutS 0 liveL) = true := by kernel_rfl

theorem live_row (w : World) : EvRow (w.alloc (.cells (liveL.flatMap EvD.cells).toArray 43)) (.slice (some ⟨w.heap.size, 0, none⟩) liveL.length 5) liveL := by
  have hb := heap_alloc_new w (.cells (liveL.flatMap EvD.cells).toArray 43)
  refine ⟨_, _, rfl, fun _ => ⟨w.heap.size, 0, rfl, by simp, fun k hk j hj => ?_⟩⟩
  have hk5 : k < 5 := hk
  rw [show (w.alloc (.cells (liveL.flatMap EvD.cells).toArray 43)).cell? ⟨w.heap.size, 0 + k * 4 + j, none⟩ = (liveL.flatMap EvD.cells).toArray[0 + k * 4 + j]? by unfold World.cell?; simp only; rw [hb]; rfl]
  have h1 : k = 0 ∨ k = 1 ∨ k = 2 ∨ k = 3 ∨ k = 4 := by omega
  have h2 : j = 0 ∨ j = 1 ∨ j = 2 ∨ j = 3 := by omega
  rcases h1 with rfl | rfl | rfl | rfl | rfl <;> rcases h2 with rfl | rfl | rfl | rfl <;> rfl

end Go.Proofs.YtmiaibpdeofokaaDoor
