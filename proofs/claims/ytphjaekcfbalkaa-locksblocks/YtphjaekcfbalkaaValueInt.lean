/-
  Int and Whole of package value, where they can be.
-/
import Derived.Test.YtphjaekcfbalkaaValueTried
import Derived.Laws.FloatArith
namespace Go.Proofs.Ytphjaekcfbalkaa
set_option linter.unusedVariables false
set_option linter.unusedSimpArgs false
open Go.RowKit

theorem need_ok (w : World) : Calls Try.prog 71 #[.bool true] w fun e w' => e = .returned (.tuple #[]) ∧ w = w' := by
  go_enter Try.func71, Try.ntmps71
  go_wp2
  go_end0
  exact ⟨rfl, rfl⟩

set_option maxRecDepth 100000 in
theorem int1_ok (p : Nat) (n : Int) (h0 : -9007199254740992 ≤ n) (h1 : n ≤ 9007199254740992) (w : World) (hc : w.cell? ⟨p, 0, none⟩ = some (.int .i64 n)) :
    Calls Try.prog 70 #[.pointer (some ⟨p, 0, none⟩)] w fun e w' => e = .returned (.int .u64 (ofB (floatOfInt .f64 n))) ∧ Touch w w' [] := by
  go_enter Try.func70, Try.ntmps70
  go_wp2_with fail
  refine (need_ok w).mono ?_
  rintro e w1 ⟨rfl, rfl⟩
  go_wp2_with fail
  refine (of_any _ w).mono ?_
  rintro e w1 ⟨rfl, rfl⟩
  go_wp2
  go_ret
  exact ⟨rfl, Touch.refl _ _⟩

theorem enter_of {k : Nat} {cap : Array Value} {fn : Func} (hf : Try.prog.funcs[k]? = some fn) (hn : (fn.name == "runtime.NumGoroutine") = false) (hb : fn.body.isNone = false) (w : World) : (callFunc k cap).run Try.prog w = .ok (.enter k cap) w := by
  simp only [callFunc, Sem.run_bind, run_program, Result.andThen_ok, hf, hn, hb, Bool.false_eq_true, if_false, Sem.run_pure]

/-- Int, of what is not too far from 0. -/
theorem int_ok (n : Int) (h0 : -9007199254740992 ≤ n) (h1 : n ≤ 9007199254740992) (w : World) :
    Calls Try.prog 53 #[.int .i64 n] w fun e w' => e = .returned (.tuple #[.int .u64 (ofB (floatOfInt .f64 n)), .bool true]) ∧ Touch w w' [] := by
  have hmf : ∀ (fn : Fn) (first cap : Array Value) (w : World), (Instr.makeFunc fn first cap).run Try.prog w = .ok (.func fn first cap) w := fun _ _ _ _ => rfl
  have hc := triedV_ok 70 #[.pointer (some ⟨w.heap.size, 0, none⟩)] (ofB (floatOfInt .f64 n)) (w.alloc (.cells #[.int .i64 n] 3)) (enter_of Try.func70 (by kernel_rfl) (by kernel_rfl))
    (fun w1 t => int1_ok w.heap.size n h0 h1 w1 ((t.cell (p := ⟨w.heap.size, 0, none⟩) (by simp) (by simp)).trans (by simp [go_sem])))
  generalize ofB (floatOfInt .f64 n) = x at *
  go_enter Try.func53, Try.ntmps53
  go_wp2_with fail
  refine hc.mono ?_
  rintro e w1 ⟨rfl, t1⟩
  clear hc
  go_wp2
  go_ret2
  exact ⟨rfl, ((Touch.refl w []).alloc _).trans t1 (by simp)⟩

/-- A float64 without its sign; its whole part. -/
def absB (x : Nat) : Nat := (bits .andNot .u64 (x : Int) 9223372036854775808).toNat
def truncB (x : Nat) : Nat := FloatKind.f64.encode ((FloatKind.f64.decode x).integral .zero)

/-- What makes a value a whole number that is not too far from 0. -/
structure WholeB (n i : Int) : Prop where
  ei : floatToIntVal .f64 (ofB n.toNat) .i64 = some i
  x : ∀ s t, FloatKind.f64.decode (ofB n.toNat) ≠ .nan s t
  A : (FloatKind.f64.format.order (absB (ofB n.toNat)) 4845873199050653696 == some Ordering.lt || FloatKind.f64.format.order (absB (ofB n.toNat)) 4845873199050653696 == some Ordering.eq) = true
  T : (FloatKind.f64.format.order (truncB (ofB n.toNat)) (ofB n.toNat) == some Ordering.eq) = true

theorem whole_m3 : ofB (floatOfInt .f64 (-3)) = 13837309855095848960 := by decide +kernel
theorem wholeB_m3 : WholeB (ofB (floatOfInt .f64 (-3)) : Nat) (-3) := by
  rw [whole_m3]
  refine ⟨by decide +kernel, ?_, by decide +kernel, by decide +kernel⟩
  have e : FloatKind.f64.decode (ofB (((13837309855095848960 : Nat) : Int)).toNat) = FloatKind.f64.decode 13837309855095848960 := by decide +kernel
  intro s t h
  have : ∀ s t, FloatKind.f64.decode 13837309855095848960 ≠ .nan s t := by
    intro s t h
    have h2 : (match FloatKind.f64.decode 13837309855095848960 with | .nan _ _ => true | _ => false) = false := by decide +kernel
    rw [h] at h2
    cases h2
  exact this s t (e ▸ h)

end Go.Proofs.Ytphjaekcfbalkaa
