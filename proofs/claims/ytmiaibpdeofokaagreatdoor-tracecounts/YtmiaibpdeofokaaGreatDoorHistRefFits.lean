/-
  THE DOCUMENT's package rowlockref08: fits BY ITS CONTRACT.
-/
import Derived.Test.YtmiaibpdeofokaaGreatDoorHistFits1
import Derived.Test.YtmiaibpdeofokaaGreatDoorHistFits2
import Derived.Test.YtmiaibpdeofokaaGreatDoorHistFits3
namespace Go.Proofs.YtmiaibpdeofokaaGreatDoor
set_option linter.unusedVariables false
set_option linter.unusedSimpArgs false
open Go.RowKit Go.Maps Go.Shelf
attribute [local go_sem] Oper.semAt_some

theorem rfits_any {w : World} {ao : Option Addr} {cap : Nat} {l : List EvD} (hr : EvRow w (.slice ao l.length cap) l) (hl : l.length ≤ 1000) (hwf : ∀ e ∈ l, e.Wf) (i : Nat) (hi : i < l.length) :
    Calls Tryz.prog 50 #[.slice ao l.length cap, .int .i64 i] w fun x w' => x = .returned (.bool (fitsS l i l[i])) ∧ Touch w w' [] := by
  have hwe := hwf _ (List.getElem_mem hi)
  obtain ⟨e, he⟩ : ∃ e, e = l[i] := ⟨_, rfl⟩
  obtain ⟨g, off, hao, hg, m0, m1, m2, m3⟩ := hr.one i hi
  rw [← he] at hwe m0 m1 m2 m3 ⊢
  subst hao
  obtain ⟨k, a, t, v⟩ := e
  simp only at m0 m1 m2 m3
  have T0 : Touch w (w.alloc (EvD.obj ⟨k, a, t, v⟩)) [] := (Touch.refl w []).alloc _
  have hr1 := SRow.keep hr T0 (by simp)
  have s1 := seen_any hr1 hl i (by omega) a 1
  have s7 := seen_any hr1 hl i (by omega) a 7
  have s8 := seen_any hr1 hl i (by omega) a 8
  have s9 := seen_any hr1 hl i (by omega) a 9
  have ho := rown_any hr1 hl hwf i (by omega) a
  by_cases ha : 0 ≤ a ∧ a < 64
  · by_cases ht : t = 0
    · by_cases hv : v = 0
      · exact fits_bare hl hi hg m0 m1 m2 m3 hwe s1 s7 s8 s9 ho rfl ha.1 ha.2 ht hv
      · exact fits_val hl hi hg m0 m1 m2 m3 hwe s1 s7 s8 s9 ho rfl ha.1 ha.2 ht hv
    · exact fits_var hl hi hg m0 m1 m2 m3 hwe s1 s7 s8 s9 ho rfl ha.1 ha.2 ht
  · exact fits_out hl hi hg m0 m1 m2 m3 hwe s1 s7 s8 s9 ho rfl ha

end Go.Proofs.YtmiaibpdeofokaaGreatDoor
