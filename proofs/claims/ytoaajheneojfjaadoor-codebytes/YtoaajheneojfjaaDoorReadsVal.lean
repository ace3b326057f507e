/-
  WHAT READS ASK OF VALUES, BY THEIR CONTRACTS: Canon, Right, Same, and the document's.
-/
import Derived.Test.YtoaajheneojfjaaDoorTouchBase
namespace Go.Proofs.YtoaajheneojfjaaDoor
set_option linter.unusedVariables false
set_option linter.unusedSimpArgs false
open Go.RowKit

/-- Is it no number? -/
def nanB (b : Nat) : Bool := FloatKind.f64.format.order b b != some .eq
/-- The bits that Of answers. -/
def ofB (b : Nat) : Nat := if nanB b then 9221120237041090560 else b

theorem frombits_run (n : Int) (w : World) : (callFunc 47 #[.int .u64 n]).run Tryd.prog w = .ok (.value (.float .f64 n.toNat)) w := by
  rw [run_callFunc_extern Tryd.func47 (by kernel_rfl) (by kernel_rfl) (by kernel_rfl) (e := Extern.MathFloatBits.float64frombits) (by kernel_rfl)]
  rfl

theorem tobits_run (b : Nat) (w : World) : (callFunc 67 #[.float .f64 b]).run Tryd.prog w = .ok (.value (.int .u64 b)) w := by
  rw [run_callFunc_extern Tryd.func67 (by kernel_rfl) (by kernel_rfl) (by kernel_rfl) (e := Extern.MathFloatBits.float64bits) (by kernel_rfl)]
  rfl

theorem isNaN_any (b : Nat) (w : World) : Calls Tryd.prog 66 #[.float .f64 b] w fun e w' => e = .returned (.bool (nanB b)) ∧ w = w' := by
  unfold nanB
  go_enter Tryd.func66, Tryd.ntmps66
  go_wp2
  go_ret
  exact ⟨rfl, rfl⟩

theorem of_any (b : Nat) (w : World) : Calls Tryd.prog 54 #[.float .f64 b] w fun e w' => e = .returned (.int .u64 (ofB b)) ∧ w = w' := by
  have ht := tobits_run b
  unfold ofB
  cases hn : nanB b with
  | true =>
    have hc := isNaN_any b
    rw [hn] at hc
    go_enter Tryd.func54, Tryd.ntmps54
    go_wp2_with fail
    refine (hc _).mono ?_
    rintro e w1 ⟨rfl, rfl⟩
    clear hc hn
    go_wp2
    go_ret
    exact ⟨rfl, rfl⟩
  | false =>
    have hc := isNaN_any b
    rw [hn] at hc
    go_enter Tryd.func54, Tryd.ntmps54
    go_wp2_with fail
    refine (hc _).mono ?_
    rintro e w1 ⟨rfl, rfl⟩
    clear hc hn
    go_wp2
    go_ret
    exact ⟨rfl, rfl⟩

theorem canon_any (n : Int) (w : World) : Calls Tryd.prog 46 #[.int .u64 n] w fun e w' => e = .returned (.int .u64 (ofB n.toNat)) ∧ w = w' := by
  have ht := frombits_run n
  go_enter Tryd.func46, Tryd.ntmps46
  go_wp2_with fail
  refine (of_any _ _).mono ?_
  rintro e w1 ⟨rfl, rfl⟩
  go_wp2
  go_ret
  exact ⟨rfl, rfl⟩

/-- A value, as its bits. -/
def Wf64 (n : Int) : Prop := 0 ≤ n ∧ n < 18446744073709551616

theorem beq_eq_decide (a b : Int) : (a == b) = decide (a = b) := by
  by_cases h : a = b <;> simp [h]

/-- Is it right? -/
def rightB (n : Int) : Bool := decide (((ofB n.toNat : Nat) : Int) = n)

theorem rightB_is {n : Int} (h : Wf64 n) : rightB n = (!nanB n.toNat || n == 9221120237041090560) := by
  unfold rightB ofB
  unfold Wf64 at h
  cases hn : nanB n.toNat with
  | true =>
    simp only [if_true, Bool.not_true, Bool.false_or]
    by_cases e : n = 9221120237041090560
    · subst e; decide
    · rw [decide_eq_false (by omega)]; simp [e]
  | false =>
    simp only [Bool.false_eq_true, if_false, Bool.not_false, Bool.true_or]
    exact decide_eq_true (by omega)

theorem right_any (n : Int) (w : World) : Calls Tryd.prog 33 #[.int .u64 n] w fun e w' => e = .returned (.bool (rightB n)) ∧ w = w' := by
  have hc := canon_any n w
  unfold rightB
  generalize ofB n.toNat = x at *
  go_enter Tryd.func33, Tryd.ntmps33
  go_wp2_with fail
  refine hc.mono ?_
  rintro e w1 ⟨rfl, rfl⟩
  clear hc
  go_wp2
  go_ret
  exact ⟨by simp [beq_eq_decide], rfl⟩

theorem rright_any (n : Int) (h : Wf64 n) (w : World) : Calls Tryd.prog 35 #[.int .u64 n] w fun e w' => e = .returned (.bool (rightB n)) ∧ w = w' := by
  have hf := frombits_run n
  rw [rightB_is h]
  unfold nanB
  generalize hq : (FloatKind.f64.format.order n.toNat n.toNat == some Ordering.eq) = q
  have hq' : (!(FloatKind.f64.format.order n.toNat n.toNat != some Ordering.eq)) = q := by rw [← hq]; simp [bne]
  rw [hq']
  clear hq'
  cases q with
  | true =>
    go_enter Tryd.func35, Tryd.ntmps35
    go_wp2
    go_ret
    exact ⟨by simp, rfl⟩
  | false =>
    go_enter Tryd.func35, Tryd.ntmps35
    go_wp2
    go_ret
    exact ⟨by simp, rfl⟩

theorem rcanon_any (n : Int) (h : Wf64 n) (w : World) : Calls Tryd.prog 51 #[.int .u64 n] w fun e w' => e = .returned (.int .u64 (ofB n.toNat)) ∧ w = w' := by
  have hr := rright_any n h w
  cases hq : rightB n with
  | true =>
    have e : ((ofB n.toNat : Nat) : Int) = n := by unfold rightB at hq; exact of_decide_eq_true hq
    rw [hq] at hr
    rw [e]
    clear hq e h
    go_enter Tryd.func51, Tryd.ntmps51
    go_wp2_with fail
    refine hr.mono ?_
    rintro e w1 ⟨rfl, rfl⟩
    clear hr
    go_wp2
    go_ret
    exact ⟨by simp, rfl⟩
  | false =>
    have e : ofB n.toNat = 9221120237041090560 := by
      have := rightB_is h
      rw [hq] at this
      unfold ofB
      cases hn : nanB n.toNat with
      | true => rfl
      | false => rw [hn] at this; simp at this
    rw [hq] at hr
    rw [e]
    clear hq e h
    go_enter Tryd.func51, Tryd.ntmps51
    go_wp2_with fail
    refine hr.mono ?_
    rintro e w1 ⟨rfl, rfl⟩
    clear hr
    go_wp2
    go_ret
    exact ⟨by simp, rfl⟩

end Go.Proofs.YtoaajheneojfjaaDoor
