/-
  SpecNothing: a block keeps how many variables there are; PLAIN DATA.
-/
import Derived.Test.YtlndbligbpfdpaaSpLive
namespace Go.Proofs.Ytlndbligbpfdpaa
set_option linter.unusedVariables false
set_option linter.unusedSimpArgs false
open Go.RowKit

/-- So many variables, now and at each mark. -/
def LenB (N : Nat) (X : BX) : Prop := X.h.length = N ∧ ∀ m ∈ X.ms, m.h.length = N
theorem reach_len {N : Nat} {X : BX} (h : LenB N X) (i : InsD) : LenB N (reachB X i).2 := by
  unfold reachB
  split
  · exact h
  · split
    · exact h
    · split
      · exact h
      · exact ⟨by rw [List.length_set]; exact h.1, h.2⟩
theorem br_len {N : Nat} {X : BX} (h : LenB N X) (i : InsD) : LenB N (brB X i).2 := by
  unfold brB
  split
  · refine ⟨h.1, fun m hm => ?_⟩
    rcases List.mem_append.1 hm with hm | hm
    · exact h.2 m hm
    · rw [List.mem_singleton.1 hm]; exact h.1
  · split
    · split
      · exact h
      · exact ⟨h.1, fun m hm => h.2 m (List.dropLast_subset _ hm)⟩
    · split
      · exact h
      · split
        · split
          · exact h
          · rename_i m hm
            exact ⟨h.2 m (List.mem_of_getLast? hm), fun m hm => h.2 m (List.dropLast_subset _ hm)⟩
        · exact h
theorem do_len {N : Nat} {l : List InsD} {X : BX} (h : LenB N X) (i : InsD) : LenB N (doB l X i).2 := by
  unfold doB
  split
  · exact h
  · split
    · exact reach_len h i
    · split
      · split
        · exact h
        · exact br_len h i
      · exact h
theorem runB_len {N : Nat} {l : List InsD} : ∀ (n : Nat) {X : BX}, LenB N X → LenB N (runB l n X).2
  | 0, X, h => by
    unfold runB
    split
    · exact h
    · exact h
  | n + 1, X, h => by
    unfold runB
    split
    · exact h
    · rename_i i _
      have h1 : LenB N { X with D := { X.D with fuel := X.D.fuel - 1 } } := h
      have h2 := do_len (l := l) h1 i
      split
      · split
        · exact h2
        · exact runB_len n h2
      · exact h2
theorem out_len (l : List InsD) (D : WD) (h : List Int) (f : Int) : (outX l D h f).2.h.length = h.length := by
  have h0 : LenB h.length ⟨{ D with fuel := fuelW f }, h, [], []⟩ := ⟨rfl, fun m hm => by cases hm⟩
  unfold outX endB
  split
  · exact (runB_len _ (X := ⟨{ D with fuel := fuelW f, pc := D.pc + 1 }, h, [], []⟩) ⟨rfl, fun m hm => by cases hm⟩).1
  · rfl

end Go.Proofs.Ytlndbligbpfdpaa
