/-
  What every statement on lock words asks (live).
-/
import Derived.Test.YtlfopememcdccaaDoorLockRef
namespace Go.Proofs.YtlfopememcdccaaDoor
set_option linter.unusedVariables false
set_option linter.unusedSimpArgs false
open Go.RowKit

theorem live_any (w : World) (S : Sh w) : Calls Tryd.prog 14 #[] w fun e w' => e = .returned (.bool true) ∧ Touch w w' [] := by
  have h1 := held_ext 2 3 (by omega) w S
  rw [show heldP 2 3 = (101, 0) by decide] at h1
  have HS : Hid _ := S
  clear S
  go_enter Tryd.func14, Tryd.ntmps14
  go_wp2_with fail
  refine h1.mono ?_
  rintro e w1 ⟨rfl, t1⟩
  clear h1
  go_wp2_with fail
  have h2 := unlock_ext 101 2 5 (by omega) (by omega) w1 (HS.out.touch t1 (by simp))
  rw [show unlockP 101 2 5 = (160, 0) by decide] at h2
  refine h2.mono ?_
  rintro e w2 ⟨rfl, t2'⟩
  have t2 := t1.trans t2' (by simp)
  clear h2 t1 t2'
  go_wp2_with fail
  have h3 := read_ext 160 (by omega) w2 (HS.out.touch t2 (by simp))
  rw [show readP 160 = (-1, 5, 0) by decide] at h3
  refine h3.mono ?_
  rintro e w3 ⟨rfl, t3'⟩
  have t3 := t2.trans t3' (by simp)
  clear h3 t2 t3'
  go_wp2_with fail
  have h4 := passes_ext 101 1 9 (by omega) w3 (HS.out.touch t3 (by simp))
  rw [show passesP 101 1 9 = false by decide] at h4
  refine h4.mono ?_
  rintro e w4 ⟨rfl, t4'⟩
  have t4 := t3.trans t4' (by simp)
  clear h4 t3 t4'
  go_wp2
  go_ret
  exact ⟨rfl, t4⟩

end Go.Proofs.YtlfopememcdccaaDoor
