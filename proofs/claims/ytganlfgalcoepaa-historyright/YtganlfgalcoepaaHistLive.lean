/-
  package rowlocklaw08: live, few BY THEIR CONTRACTS.
-/
import Derived.Test.YtganlfgalcoepaaHistOwn
import Derived.Test.YtganlfgalcoepaaCapsOf
namespace Go.Proofs.Ytganlfgalcoepaa
set_option linter.unusedVariables false
set_option linter.unusedSimpArgs false
open Go.RowKit Go.Maps Go.Shelf
attribute [local go_sem] Oper.semAt_some

def TrueN (w : World) (e : Ending) (w' : World) : Prop := e = .returned (.bool true) ∧ Touch w w' []

def liveL : List EvD := [⟨1, 0, 0, 0⟩, ⟨3, 0, 1, 5⟩, ⟨2, 0, 1, 5⟩, ⟨7, 0, 0, 0⟩, ⟨8, 0, 0, 0⟩]
theorem live_wf : ∀ e ∈ liveL, e.Wf := by
  intro e he
  simp only [liveL, List.mem_cons, List.not_mem_nil, or_false] at he
  rcases he with rfl | rfl | rfl | rfl | rfl
  all_goals exact ⟨by decide, by decide, by decide, by unfold Wf64; decide⟩
theorem live_right : rightS liveL = true := by kernel_rfl
theorem live_att : (attS liveL).length = 1 := by kernel_rfl
theorem live_state : stateS liveL 0 = 3 := by kernel_rfl
theorem live_reads : (readsS (cutS 0 liveL) (cutS 0 liveL).length) = [] := by kernel_rfl
theorem live_writes : allK (getF (noteAll [f0] (cutS 0 liveL))) 12 = [(1, 5)] := by kernel_rfl
theorem live_own : ownS (cutS 0 liveL) = true := by kernel_rfl

theorem live_row (w : World) : EvRow (w.alloc (.cells (liveL.flatMap EvD.cells).toArray 44)) (.slice (some ⟨w.heap.size, 0, none⟩) liveL.length 5) liveL := by
  have hb := heap_alloc_new w (.cells (liveL.flatMap EvD.cells).toArray 44)
  refine ⟨_, _, rfl, fun _ => ⟨w.heap.size, 0, rfl, by simp, fun k hk j hj => ?_⟩⟩
  have hk5 : k < 5 := hk
  rw [show (w.alloc (.cells (liveL.flatMap EvD.cells).toArray 44)).cell? ⟨w.heap.size, 0 + k * 4 + j, none⟩ = (liveL.flatMap EvD.cells).toArray[0 + k * 4 + j]? by unfold World.cell?; simp only; rw [hb]; rfl]
  have h1 : k = 0 ∨ k = 1 ∨ k = 2 ∨ k = 3 ∨ k = 4 := by omega
  have h2 : j = 0 ∨ j = 1 ∨ j = 2 ∨ j = 3 := by omega
  rcases h1 with rfl | rfl | rfl | rfl | rfl <;> rcases h2 with rfl | rfl | rfl | rfl <;> rfl

set_option maxRecDepth 100000 in
set_option maxHeartbeats 2000000 in
theorem hlive_any (w : World) : Calls Try.prog 7 #[] w (TrueN w) := by
  have hrow := live_row w
  have T0 : Touch w (w.alloc (.cells (liveL.flatMap EvD.cells).toArray 44)) [] := (Touch.refl w []).alloc _
  have hw := writes_any hrow (by decide) live_wf 0
  rw [live_writes] at hw
  have hri := fun W (t : Touch (w.alloc (.cells (liveL.flatMap EvD.cells).toArray 44)) W []) => right_of (SRow.keep hrow t (by simp)) (by decide) live_wf
  have hat := fun W (t : Touch (w.alloc (.cells (liveL.flatMap EvD.cells).toArray 44)) W []) => attempts_any (SRow.keep hrow t (by simp)) (by decide) live_wf
  have hst := fun W (t : Touch (w.alloc (.cells (liveL.flatMap EvD.cells).toArray 44)) W []) => stateOf_any (SRow.keep hrow t (by simp)) (by decide) live_wf 0 (by decide)
  have hre := fun W (t : Touch (w.alloc (.cells (liveL.flatMap EvD.cells).toArray 44)) W []) => reads_any (SRow.keep hrow t (by simp)) (by decide) live_wf 0
  have how := fun W (t : Touch (w.alloc (.cells (liveL.flatMap EvD.cells).toArray 44)) W []) => own_any (SRow.keep hrow t (by simp)) (by decide) live_wf 0
  simp only [live_right, live_state, live_reads, live_own] at hri hst hre how
  have HRI : Hid _ := hri
  have HAT : Hid _ := hat
  have HST : Hid _ := hst
  have HRE : Hid _ := hre
  have HOW : Hid _ := how
  have HT0 : Hid _ := T0
  clear hri hat hst hre how hrow T0
  go_enter Try.func7, Try.ntmps7
  go_wp2_with fail
  refine hw.mono ?_
  rintro x w1 ⟨v1, B1, rfl, hr1, hB1, t1⟩
  clear hw
  obtain ⟨g, cap1, rfl, hg, hcell⟩ : ∃ g cap, v1 = .slice (some ⟨g, 0, none⟩) 1 cap ∧ g < w1.heap.size ∧ w1.cell? ⟨g, 1, none⟩ = some (.int .u64 5) := by
    rcases hr1.2 with ⟨_, h0⟩ | ⟨g, cap, cur, rfl, _, hg, _⟩
    · simp at h0
    · refine ⟨g, cap, rfl, lt_of_heap hg, ?_⟩
      have := hr1.cells (g := g) rfl 1 (.int .u64 5) rfl
      rw [Addr.add_lit] at this
      simpa using this
  have h1 := HRI.out w1 t1
  clear hr1 HRI
  go_wp2_with fail
  refine h1.mono ?_
  rintro x w2 ⟨rfl, t2⟩
  have t02 := t1.trans t2 (by simp)
  have h2 := HAT.out w2 t02
  clear h1 HAT
  go_wp2_with fail
  refine h2.mono ?_
  rintro x w3 ⟨v3, rfl, hr3, t3⟩
  obtain ⟨ao3, cap3, rfl, _⟩ := int_form hr3
  rw [live_att]
  have t03 := t02.trans t3 (by simp)
  have h3 := HST.out w3 t03
  clear h2 HST hr3
  go_wp2_with fail
  refine h3.mono ?_
  rintro x w4 ⟨rfl, t4⟩
  have t04 := t03.trans t4 (by simp)
  have h4 := HRE.out w4 t04
  clear h3 HRE
  go_wp2_with fail
  refine h4.mono ?_
  rintro x w5 ⟨v5, rfl, hr5, t5⟩
  obtain ⟨ao5, cap5, rfl⟩ : ∃ ao cap, v5 = .slice ao 0 cap := by
    rcases hr5.2 with ⟨rfl, h0⟩ | ⟨g, cap, cur, rfl, _⟩
    · exact ⟨none, 0, rfl⟩
    · exact ⟨_, _, rfl⟩
  have t05 := t04.trans t5 (by simp)
  have c5 := ((((t2.trans t3 (by simp)).trans t4 (by simp)).trans t5 (by simp)).cell (p := ⟨g, 1, none⟩) hg (by simp)).trans hcell
  have h5 := HOW.out w5 t05
  clear h4 HOW hr5 hcell
  go_wp2_with fail
  refine h5.mono ?_
  rintro x w6 ⟨rfl, t6⟩
  clear h5
  go_wp2
  go_ret
  exact ⟨by simp, HT0.out.trans (t05.trans t6 (by simp)) (by simp)⟩

end Go.Proofs.Ytganlfgalcoepaa
