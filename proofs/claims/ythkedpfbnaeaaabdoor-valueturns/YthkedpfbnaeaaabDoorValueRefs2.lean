/-
  CLASSES, SIGNS AND ORDER OF VALUES, of both sides, BY THEIR CONTRACTS.
-/
import Derived.Test.YthkedpfbnaeaaabDoorValueRefs
namespace Go.Proofs.YthkedpfbnaeaaabDoor
set_option linter.unusedVariables false
set_option linter.unusedSimpArgs false
open Go.RowKit

theorem classB_3 (x : Nat) : (classB x == 3) = nanB x := by
  cases h : nanB x with
  | true => rw [classB_nan x h]; rfl
  | false => simpa using classB_num x h

theorem negB_ofB {n : Int} (h : Wf64 n) : negB (ofB n.toNat) = (!(classB (ofB n.toNat) == 3) && decide (9223372036854775808 ≤ n)) := by
  rw [classB_3, negB_is _ h.rt.lt, h.rt.nan]
  unfold Wf64 at h
  rcases ofB_cases n.toNat (by omega) with ⟨h1, e⟩ | ⟨h1, e⟩
  · rw [e]
    have hne : ¬ n.toNat = 9221120237041090560 := by
      intro e2
      rw [e2] at h1
      revert h1
      decide
    rw [decide_eq_false hne]
    simp only [Bool.not_false, Bool.true_and]
    congr 1
    apply propext
    omega
  · rw [e]; simp

/-- The other sign. -/
def negV (x : Nat) : Int := if classB x == 3 then 9221120237041090560 else if negB x then (x : Int) - 9223372036854775808 else (x : Int) + 9223372036854775808

theorem negV_is {x : Nat} (h : Rt x) : ((ofB (Op.negFloat .f64 x) : Nat) : Int) = negV x := by
  unfold negV
  rw [neg_of h, classB_3, h.nan, negB_is x h.lt]
  have := h.lt
  by_cases h1 : x = 9221120237041090560
  · simp [h1]
  · by_cases h2 : 9223372036854775808 ≤ x
    · simp only [h1, h2, if_false, if_true, decide_false, decide_true, Bool.false_eq_true]; omega
    · simp only [h1, h2, if_false, decide_false, Bool.false_eq_true]; omega

theorem neg_any (n : Int) (h : Wf64 n) (w : World) : Calls Tryd.prog 8 #[.int .u64 n] w fun e w' => e = .returned (.int .u64 (negV (ofB n.toNat))) ∧ w = w' := by
  rw [← negV_is h.rt]
  have hf := float_any n w
  generalize ofB n.toNat = x at *
  have ho := of_any (Op.negFloat .f64 x) w
  have hneg : ∀ w : World, (Op.unary .neg (.float .f64 x)).run Tryd.prog w = .ok (.float .f64 (Op.negFloat .f64 x)) w := fun _ => rfl
  generalize Op.negFloat .f64 x = y at *
  clear h
  go_enter Tryd.func8, Tryd.ntmps8
  go_wp2_with fail
  refine hf.mono ?_
  rintro e w1 ⟨rfl, rfl⟩
  clear hf
  go_wp2_with fail
  refine ho.mono ?_
  rintro e w1 ⟨rfl, rfl⟩
  go_wp2
  go_ret
  exact ⟨by simp, rfl⟩

/-- Without its sign. -/
def absV (x : Nat) : Int := if negB x then negV x else x
theorem absV_is {x : Nat} (h : Rt x) : ((ofB (absB x) : Nat) : Int) = absV x := by
  unfold absV negV
  rw [abs_of h, classB_3, h.nan, negB_is x h.lt, rungB_is x h.lt]
  have := h.lt
  by_cases h1 : x = 9221120237041090560
  · simp [h1]
  · by_cases h2 : 9223372036854775808 ≤ x
    · simp only [h1, h2, if_false, if_true, decide_false, decide_true, Bool.false_eq_true]; omega
    · simp only [h1, h2, if_false, decide_false, Bool.false_eq_true]

def pick2 (q : Bool) (x y : Nat) : Nat := if q then x else y
def truthB (c : Int) : Bool := (c == 1) || (c == 2)
theorem classB_in (x : Nat) : classB x = 0 ∨ classB x = 1 ∨ classB x = 2 ∨ classB x = 3 := by
  unfold classB
  repeat' split
  all_goals simp





end Go.Proofs.YthkedpfbnaeaaabDoor
