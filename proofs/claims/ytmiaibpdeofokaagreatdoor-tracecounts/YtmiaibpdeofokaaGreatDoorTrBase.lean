/-
  package trace: above, Merge AS PLAIN DATA, the program's and the document's BY THEIR CONTRACTS.
-/
import Derived.Test.YtmiaibpdeofokaaGreatDoorHistRefRt
import Derived.Test.YtmiaibpdeofokaaGreatDoorHistIn
import Derived.Test.YtmiaibpdeofokaaGreatDoorHistSame
import Derived.Test.YtmiaibpdeofokaaGreatDoorRowApp
import Derived.Deep.QuietTactic
import Derived.BigQuiet
namespace Go.Proofs.YtmiaibpdeofokaaGreatDoor
set_option linter.unusedVariables false
set_option linter.unusedSimpArgs false
open Go.RowKit Go.Maps
attribute [local go_sem] Oper.semAt_some

/-- A contract, hidden. -/
structure HidC (P : Program) (f : Nat) (a : Array Value) (w : World) (Q : Ending → World → Prop) : Prop where
  out : Calls P f a w Q

/-- The number behind the highest one. -/
def abvS (l : List EvD) : Int := l.foldl (fun n e => max n (e.a + 1)) 0
theorem abvS_snoc {l : List EvD} {k : Nat} (hk : k < l.length) : abvS (l.take (k + 1)) = max (abvS (l.take k)) (l[k].a + 1) := by
  unfold abvS
  rw [List.take_succ_eq_append_getElem hk, List.foldl_append]
  rfl
/-- Numbers that attempts may have. -/
def Low (l : List EvD) : Prop := ∀ e ∈ l, 0 ≤ e.a ∧ e.a < 64
theorem abv_range (l : List EvD) (h : Low l) : ∀ n : Int, 0 ≤ n ∧ n ≤ 64 → 0 ≤ l.foldl (fun n e => max n (e.a + 1)) n ∧ l.foldl (fun n e => max n (e.a + 1)) n ≤ 64 := by
  induction l with
  | nil => intro n hn; exact hn
  | cons e l ih =>
    intro n hn
    have := h e (by simp)
    exact ih (fun x hx => h x (List.mem_cons_of_mem _ hx)) (max n (e.a + 1)) (by omega)
theorem abvS_range {l : List EvD} (h : Low l) : 0 ≤ abvS l ∧ abvS l ≤ 64 := abv_range l h 0 (by omega)
theorem Low.take {l : List EvD} (h : Low l) (k : Nat) : Low (l.take k) := fun e he => h e (List.mem_of_mem_take he)
theorem low_run (l : List EvD) : ∀ (M : CM), (runC M l).isSome = true → Low l := by
  induction l with
  | nil => intro M _ e he; cases he
  | cons x l ih =>
    intro M h
    have h1 : (runC M (x :: l)) = (stepC M x).bind fun M' => runC M' l := rfl
    rw [h1] at h
    cases hs : stepC M x with
    | none => rw [hs] at h; simp at h
    | some M' =>
      rw [hs] at h
      have hx : 0 ≤ x.a ∧ x.a < 64 := by
        unfold stepC at hs
        split at hs
        · assumption
        · cases hs
      intro e he
      rcases List.mem_cons.1 he with rfl | he
      · exact hx
      · exact ih M' (by simpa using h) e he
theorem low_right {l : List EvD} (h : rightS l = true) : Low l := by
  unfold rightS at h
  exact low_run l _ (by simp at h; exact h.2)

end Go.Proofs.YtmiaibpdeofokaaGreatDoor
