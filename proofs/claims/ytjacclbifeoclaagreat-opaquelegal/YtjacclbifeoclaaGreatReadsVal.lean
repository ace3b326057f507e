/-
  WHAT READS ASK OF VALUES, BY THEIR CONTRACTS: Canon, Right, Same, and the document's.
-/
import Derived.Test.YtjacclbifeoclaaGreatTouchBase
namespace Go.Proofs.YtjacclbifeoclaaGreat
set_option linter.unusedVariables false
set_option linter.unusedSimpArgs false
open Go.RowKit

/-- Is it no number? -/
def nanB (b : Nat) : Bool := FloatKind.f64.format.order b b != some .eq
/-- The bits that Of answers. -/
def ofB (b : Nat) : Nat := if nanB b then 9221120237041090560 else b

theorem frombits_run (n : Int) (w : World) : (callFunc 45 #[.int .u64 n]).run Tryz.prog w = .ok (.value (.float .f64 n.toNat)) w := by
  rw [run_callFunc_extern Tryz.func45 (by kernel_rfl) (by kernel_rfl) (by kernel_rfl) (e := Extern.MathFloatBits.float64frombits) (by kernel_rfl)]
  rfl

theorem tobits_run (b : Nat) (w : World) : (callFunc 104 #[.float .f64 b]).run Tryz.prog w = .ok (.value (.int .u64 b)) w := by
  rw [run_callFunc_extern Tryz.func104 (by kernel_rfl) (by kernel_rfl) (by kernel_rfl) (e := Extern.MathFloatBits.float64bits) (by kernel_rfl)]
  rfl

theorem isNaN_any (b : Nat) (w : World) : Calls Tryz.prog 103 #[.float .f64 b] w fun e w' => e = .returned (.bool (nanB b)) ∧ w = w' := by
  unfold nanB
  go_enter Tryz.func103, Tryz.ntmps103
  go_wp2
  go_ret
  exact ⟨rfl, rfl⟩

theorem of_any (b : Nat) (w : World) : Calls Tryz.prog 93 #[.float .f64 b] w fun e w' => e = .returned (.int .u64 (ofB b)) ∧ w = w' := by
  have ht := tobits_run b
  unfold ofB
  cases hn : nanB b with
  | true =>
    have hc := isNaN_any b
    rw [hn] at hc
    go_enter Tryz.func93, Tryz.ntmps93
    go_wp2_with fail
    refine (hc _).mono ?_
    rintro e w1 ⟨rfl, rfl⟩
    clear hc hn
    go_wp2
    go_ret
    exact ⟨rfl, rfl⟩
  | false =>
    have hc := isNaN_any b
    rw [hn] at hc
    go_enter Tryz.func93, Tryz.ntmps93
    go_wp2_with fail
    refine (hc _).mono ?_
    rintro e w1 ⟨rfl, rfl⟩
    clear hc hn
    go_wp2
    go_ret
    exact ⟨rfl, rfl⟩

theorem canon_any (n : Int) (w : World) : Calls Tryz.prog 78 #[.int .u64 n] w fun e w' => e = .returned (.int .u64 (ofB n.toNat)) ∧ w = w' := by
  have ht := frombits_run n
  go_enter Tryz.func78, Tryz.ntmps78
  go_wp2_with fail
  refine (of_any _ _).mono ?_
  rintro e w1 ⟨rfl, rfl⟩
  go_wp2
  go_ret
  exact ⟨rfl, rfl⟩

/-- A value, as its bits. -/
def Wf64 (n : Int) : Prop := 0 ≤ n ∧ n < 18446744073709551616

theorem beq_eq_decide (a b : Int) : (a == b) = decide (a = b) := by
  by_cases h : a = b <;> simp [h]

/-- Is it right? -/
def rightB (n : Int) : Bool := decide (((ofB n.toNat : Nat) : Int) = n)

theorem rightB_is {n : Int} (h : Wf64 n) : rightB n = (!nanB n.toNat || n == 9221120237041090560) := by
  unfold rightB ofB
  unfold Wf64 at h
  cases hn : nanB n.toNat with
  | true =>
    simp only [if_true, Bool.not_true, Bool.false_or]
    by_cases e : n = 9221120237041090560
    · subst e; decide
    · rw [decide_eq_false (by omega)]; simp [e]
  | false =>
    simp only [Bool.false_eq_true, if_false, Bool.not_false, Bool.true_or]
    exact decide_eq_true (by omega)

theorem right_any (n : Int) (w : World) : Calls Tryz.prog 54 #[.int .u64 n] w fun e w' => e = .returned (.bool (rightB n)) ∧ w = w' := by
  have hc := canon_any n w
  unfold rightB
  generalize ofB n.toNat = x at *
  go_enter Tryz.func54, Tryz.ntmps54
  go_wp2_with fail
  refine hc.mono ?_
  rintro e w1 ⟨rfl, rfl⟩
  clear hc
  go_wp2
  go_ret
  exact ⟨by simp [beq_eq_decide], rfl⟩

theorem rright_any (n : Int) (h : Wf64 n) (w : World) : Calls Tryz.prog 24 #[.int .u64 n] w fun e w' => e = .returned (.bool (rightB n)) ∧ w = w' := by
  have hf := frombits_run n
  rw [rightB_is h]
  unfold nanB
  generalize hq : (FloatKind.f64.format.order n.toNat n.toNat == some Ordering.eq) = q
  have hq' : (!(FloatKind.f64.format.order n.toNat n.toNat != some Ordering.eq)) = q := by rw [← hq]; simp [bne]
  rw [hq']
  clear hq'
  cases q with
  | true =>
    go_enter Tryz.func24, Tryz.ntmps24
    go_wp2
    go_ret
    exact ⟨by simp, rfl⟩
  | false =>
    go_enter Tryz.func24, Tryz.ntmps24
    go_wp2
    go_ret
    exact ⟨by simp, rfl⟩

theorem same_any (a b : Int) (w : World) : Calls Tryz.prog 63 #[.int .u64 a, .int .u64 b] w fun e w' => e = .returned (.bool (((ofB a.toNat : Nat) : Int) == (ofB b.toNat : Nat))) ∧ w = w' := by
  have fa := canon_any a w
  have fb := canon_any b w
  generalize ((ofB a.toNat : Nat) : Int) = x at *
  generalize ((ofB b.toNat : Nat) : Int) = y at *
  go_enter Tryz.func63, Tryz.ntmps63
  go_wp2_with fail
  refine fa.mono ?_
  rintro e w1 ⟨rfl, rfl⟩
  go_wp2_with fail
  refine fb.mono ?_
  rintro e w1 ⟨rfl, rfl⟩
  clear fa fb
  go_wp2
  go_ret
  exact ⟨by simp, rfl⟩

end Go.Proofs.YtjacclbifeoclaaGreat
