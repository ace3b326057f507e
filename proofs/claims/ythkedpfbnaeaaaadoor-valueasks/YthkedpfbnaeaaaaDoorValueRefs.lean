/-
  THE DOCUMENT's VALUES BY THEIR CONTRACTS: each answers as package value does.
-/
import Derived.Test.YthkedpfbnaeaaaaDoorValueBits
namespace Go.Proofs.YthkedpfbnaeaaaaDoor
set_option linter.unusedVariables false
set_option linter.unusedSimpArgs false
open Go.RowKit

/-- A value, as its bits. -/
def Wf64 (n : Int) : Prop := 0 ≤ n ∧ n < 18446744073709551616
theorem Wf64.lt {n : Int} (h : Wf64 n) : n.toNat < 18446744073709551616 := by unfold Wf64 at h; omega
theorem Wf64.rt {n : Int} (h : Wf64 n) : Rt (ofB n.toNat) := rt_of _ h.lt
theorem wf_ofB {n : Int} (h : Wf64 n) : Wf64 (ofB n.toNat) := by have := h.rt.lt; unfold Wf64; omega
theorem ofB_ofB (n : Int) : ofB (((ofB n.toNat : Nat) : Int)).toNat = ofB n.toNat := by rw [Int.toNat_natCast, ofB_idem]

theorem beq_eq_decide (a b : Int) : (a == b) = decide (a = b) := by
  by_cases h : a = b <;> simp [h]

/-- Is it right? -/
def rightB (n : Int) : Bool := decide (((ofB n.toNat : Nat) : Int) = n)

theorem rightB_is {n : Int} (h : Wf64 n) : rightB n = (!nanB n.toNat || n == 9221120237041090560) := by
  unfold rightB ofB
  unfold Wf64 at h
  cases hn : nanB n.toNat with
  | true =>
    simp only [if_true, Bool.not_true, Bool.false_or]
    by_cases e : n = 9221120237041090560
    · subst e; decide
    · rw [decide_eq_false (by omega)]; simp [e]
  | false =>
    simp only [Bool.false_eq_true, if_false, Bool.not_false, Bool.true_or]
    exact decide_eq_true (by omega)

theorem right_any (n : Int) (w : World) : Calls Tryd.prog 12 #[.int .u64 n] w fun e w' => e = .returned (.bool (rightB n)) ∧ w = w' := by
  have hc := canon_any n w
  unfold rightB
  generalize ofB n.toNat = x at *
  go_enter Tryd.func12, Tryd.ntmps12
  go_wp2_with fail
  refine hc.mono ?_
  rintro e w1 ⟨rfl, rfl⟩
  clear hc
  go_wp2
  go_ret
  exact ⟨by simp [beq_eq_decide], rfl⟩

theorem rright_any (n : Int) (h : Wf64 n) (w : World) : Calls Tryd.prog 13 #[.int .u64 n] w fun e w' => e = .returned (.bool (rightB n)) ∧ w = w' := by
  have hf := frombits_run n
  rw [rightB_is h]
  unfold nanB
  generalize hq : (FloatKind.f64.format.order n.toNat n.toNat == some Ordering.eq) = q
  have hq' : (!(FloatKind.f64.format.order n.toNat n.toNat != some Ordering.eq)) = q := by rw [← hq]; simp [bne]
  rw [hq']
  clear hq'
  cases q with
  | true =>
    go_enter Tryd.func13, Tryd.ntmps13
    go_wp2
    go_ret
    exact ⟨by simp, rfl⟩
  | false =>
    go_enter Tryd.func13, Tryd.ntmps13
    go_wp2
    go_ret
    exact ⟨by simp, rfl⟩

theorem rcanon_any (n : Int) (h : Wf64 n) (w : World) : Calls Tryd.prog 15 #[.int .u64 n] w fun e w' => e = .returned (.int .u64 (ofB n.toNat)) ∧ w = w' := by
  have hr := rright_any n h w
  cases hq : rightB n with
  | true =>
    have e : ((ofB n.toNat : Nat) : Int) = n := by unfold rightB at hq; exact of_decide_eq_true hq
    rw [hq] at hr
    rw [e]
    clear hq e h
    go_enter Tryd.func15, Tryd.ntmps15
    go_wp2_with fail
    refine hr.mono ?_
    rintro e w1 ⟨rfl, rfl⟩
    clear hr
    go_wp2
    go_ret
    exact ⟨by simp, rfl⟩
  | false =>
    have e : ofB n.toNat = 9221120237041090560 := by
      have := rightB_is h
      rw [hq] at this
      unfold ofB
      cases hn : nanB n.toNat with
      | true => rfl
      | false => rw [hn] at this; simp at this
    rw [hq] at hr
    rw [e]
    clear hq e h
    go_enter Tryd.func15, Tryd.ntmps15
    go_wp2_with fail
    refine hr.mono ?_
    rintro e w1 ⟨rfl, rfl⟩
    clear hr
    go_wp2
    go_ret
    exact ⟨by simp, rfl⟩

theorem rof_any (b : Nat) (w : World) : Calls Tryd.prog 21 #[.float .f64 b] w fun e w' => e = .returned (.int .u64 (ofB b)) ∧ w = w' := by
  have ht := tobits_run b
  unfold ofB nanB
  generalize hq : (FloatKind.f64.format.order b b == some Ordering.eq) = q
  have hq' : (FloatKind.f64.format.order b b != some Ordering.eq) = !q := by rw [← hq]; rfl
  rw [hq']
  cases q with
  | true =>
    go_enter Tryd.func21, Tryd.ntmps21
    go_wp2
    go_ret
    exact ⟨by simp, rfl⟩
  | false =>
    go_enter Tryd.func21, Tryd.ntmps21
    go_wp2
    go_ret
    exact ⟨by simp, rfl⟩

theorem rfloat_any (n : Int) (h : Wf64 n) (w : World) : Calls Tryd.prog 10 #[.int .u64 n] w fun e w' => e = .returned (.float .f64 (ofB n.toNat)) ∧ w = w' := by
  have hc := rcanon_any n h w
  have hf := frombits_run (ofB n.toNat)
  rw [Int.toNat_natCast] at hf
  generalize ofB n.toNat = x at *
  clear h
  go_enter Tryd.func10, Tryd.ntmps10
  go_wp2_with fail
  refine hc.mono ?_
  rintro e w1 ⟨rfl, rfl⟩
  clear hc
  go_wp2
  go_ret
  exact ⟨by simp, rfl⟩

theorem radd_any (a b : Int) (ha : Wf64 a) (hb : Wf64 b) (w : World) : Calls Tryd.prog 23 #[.int .u64 a, .int .u64 b] w fun e w' => e = .returned (.int .u64 (arithB .add (ofB a.toNat) (ofB b.toNat))) ∧ Touch w w' [] := by
  unfold arithB
  have hcv : ∀ (r : Nat) (w : World), (convert 24 24 (.float .f64 r)).run Tryd.prog w = .ok (.float .f64 r) w := fun r w => run_convert_float_float w _ _ .f64 .f64 r r (by rw [Tryd.underlying24]; rfl) Tryd.underlying24 rfl
  have hfa := fun w => rfloat_any a ha w
  have hfb := fun w => rfloat_any b hb w
  generalize ofB a.toNat = x at *
  generalize ofB b.toNat = y at *
  cases hq : floatBits .add .f64 x y with
  | some r =>
    have hop : ∀ w : World, (binOp .add 24 (.float .f64 x) (.float .f64 y)).run Tryd.prog w = .ok (.float .f64 r) w := fun w => run_float_arith w .add _ .f64 x y r hq
    clear hq
    go_enter Tryd.func23, Tryd.ntmps23
    go_wp2_with fail
    refine (hfa w).mono ?_
    rintro e w1 ⟨rfl, rfl⟩
    go_wp2_with fail
    refine (hfb w).mono ?_
    rintro e w1 ⟨rfl, rfl⟩
    go_wp2_with fail
    refine (rof_any r w).mono ?_
    rintro e w1 ⟨rfl, rfl⟩
    go_wp2
    go_ret
    exact ⟨rfl, Touch.refl _ _⟩
  | none =>
    obtain ⟨r, hr, hop⟩ : ∃ r : Nat, nanB r = true ∧ (binOp .add 24 (.float .f64 x) (.float .f64 y)).run Tryd.prog w = .ok (.float .f64 r) w.drew := arith_none .add 24 x y (by simp) hq w
    have ho := rof_any r w.drew
    have e : ofB r = 9221120237041090560 := by unfold ofB; rw [if_pos hr]
    rw [e] at ho
    clear hq hr e
    go_enter Tryd.func23, Tryd.ntmps23
    go_wp2_with fail
    refine (hfa w).mono ?_
    rintro e w1 ⟨rfl, rfl⟩
    go_wp2_with fail
    refine (hfb w).mono ?_
    rintro e w1 ⟨rfl, rfl⟩
    go_wp2_with fail
    refine ho.mono ?_
    rintro e w1 ⟨rfl, rfl⟩
    go_wp2
    go_ret
    exact ⟨rfl, (Touch.refl w []).drew⟩

theorem rsub_any (a b : Int) (ha : Wf64 a) (hb : Wf64 b) (w : World) : Calls Tryd.prog 25 #[.int .u64 a, .int .u64 b] w fun e w' => e = .returned (.int .u64 (arithB .sub (ofB a.toNat) (ofB b.toNat))) ∧ Touch w w' [] := by
  unfold arithB
  have hcv : ∀ (r : Nat) (w : World), (convert 24 24 (.float .f64 r)).run Tryd.prog w = .ok (.float .f64 r) w := fun r w => run_convert_float_float w _ _ .f64 .f64 r r (by rw [Tryd.underlying24]; rfl) Tryd.underlying24 rfl
  have hfa := fun w => rfloat_any a ha w
  have hfb := fun w => rfloat_any b hb w
  generalize ofB a.toNat = x at *
  generalize ofB b.toNat = y at *
  cases hq : floatBits .sub .f64 x y with
  | some r =>
    have hop : ∀ w : World, (binOp .sub 24 (.float .f64 x) (.float .f64 y)).run Tryd.prog w = .ok (.float .f64 r) w := fun w => run_float_arith w .sub _ .f64 x y r hq
    clear hq
    go_enter Tryd.func25, Tryd.ntmps25
    go_wp2_with fail
    refine (hfa w).mono ?_
    rintro e w1 ⟨rfl, rfl⟩
    go_wp2_with fail
    refine (hfb w).mono ?_
    rintro e w1 ⟨rfl, rfl⟩
    go_wp2_with fail
    refine (rof_any r w).mono ?_
    rintro e w1 ⟨rfl, rfl⟩
    go_wp2
    go_ret
    exact ⟨rfl, Touch.refl _ _⟩
  | none =>
    obtain ⟨r, hr, hop⟩ : ∃ r : Nat, nanB r = true ∧ (binOp .sub 24 (.float .f64 x) (.float .f64 y)).run Tryd.prog w = .ok (.float .f64 r) w.drew := arith_none .sub 24 x y (by simp) hq w
    have ho := rof_any r w.drew
    have e : ofB r = 9221120237041090560 := by unfold ofB; rw [if_pos hr]
    rw [e] at ho
    clear hq hr e
    go_enter Tryd.func25, Tryd.ntmps25
    go_wp2_with fail
    refine (hfa w).mono ?_
    rintro e w1 ⟨rfl, rfl⟩
    go_wp2_with fail
    refine (hfb w).mono ?_
    rintro e w1 ⟨rfl, rfl⟩
    go_wp2_with fail
    refine ho.mono ?_
    rintro e w1 ⟨rfl, rfl⟩
    go_wp2
    go_ret
    exact ⟨rfl, (Touch.refl w []).drew⟩

theorem rmul_any (a b : Int) (ha : Wf64 a) (hb : Wf64 b) (w : World) : Calls Tryd.prog 27 #[.int .u64 a, .int .u64 b] w fun e w' => e = .returned (.int .u64 (arithB .mul (ofB a.toNat) (ofB b.toNat))) ∧ Touch w w' [] := by
  unfold arithB
  have hcv : ∀ (r : Nat) (w : World), (convert 24 24 (.float .f64 r)).run Tryd.prog w = .ok (.float .f64 r) w := fun r w => run_convert_float_float w _ _ .f64 .f64 r r (by rw [Tryd.underlying24]; rfl) Tryd.underlying24 rfl
  have hfa := fun w => rfloat_any a ha w
  have hfb := fun w => rfloat_any b hb w
  generalize ofB a.toNat = x at *
  generalize ofB b.toNat = y at *
  cases hq : floatBits .mul .f64 x y with
  | some r =>
    have hop : ∀ w : World, (binOp .mul 24 (.float .f64 x) (.float .f64 y)).run Tryd.prog w = .ok (.float .f64 r) w := fun w => run_float_arith w .mul _ .f64 x y r hq
    clear hq
    go_enter Tryd.func27, Tryd.ntmps27
    go_wp2_with fail
    refine (hfa w).mono ?_
    rintro e w1 ⟨rfl, rfl⟩
    go_wp2_with fail
    refine (hfb w).mono ?_
    rintro e w1 ⟨rfl, rfl⟩
    go_wp2_with fail
    refine (rof_any r w).mono ?_
    rintro e w1 ⟨rfl, rfl⟩
    go_wp2
    go_ret
    exact ⟨rfl, Touch.refl _ _⟩
  | none =>
    obtain ⟨r, hr, hop⟩ : ∃ r : Nat, nanB r = true ∧ (binOp .mul 24 (.float .f64 x) (.float .f64 y)).run Tryd.prog w = .ok (.float .f64 r) w.drew := arith_none .mul 24 x y (by simp) hq w
    have ho := rof_any r w.drew
    have e : ofB r = 9221120237041090560 := by unfold ofB; rw [if_pos hr]
    rw [e] at ho
    clear hq hr e
    go_enter Tryd.func27, Tryd.ntmps27
    go_wp2_with fail
    refine (hfa w).mono ?_
    rintro e w1 ⟨rfl, rfl⟩
    go_wp2_with fail
    refine (hfb w).mono ?_
    rintro e w1 ⟨rfl, rfl⟩
    go_wp2_with fail
    refine ho.mono ?_
    rintro e w1 ⟨rfl, rfl⟩
    go_wp2
    go_ret
    exact ⟨rfl, (Touch.refl w []).drew⟩

theorem rdiv_any (a b : Int) (ha : Wf64 a) (hb : Wf64 b) (w : World) : Calls Tryd.prog 29 #[.int .u64 a, .int .u64 b] w fun e w' => e = .returned (.int .u64 (arithB .quo (ofB a.toNat) (ofB b.toNat))) ∧ Touch w w' [] := by
  unfold arithB
  have hcv : ∀ (r : Nat) (w : World), (convert 24 24 (.float .f64 r)).run Tryd.prog w = .ok (.float .f64 r) w := fun r w => run_convert_float_float w _ _ .f64 .f64 r r (by rw [Tryd.underlying24]; rfl) Tryd.underlying24 rfl
  have hfa := fun w => rfloat_any a ha w
  have hfb := fun w => rfloat_any b hb w
  generalize ofB a.toNat = x at *
  generalize ofB b.toNat = y at *
  cases hq : floatBits .quo .f64 x y with
  | some r =>
    have hop : ∀ w : World, (binOp .quo 24 (.float .f64 x) (.float .f64 y)).run Tryd.prog w = .ok (.float .f64 r) w := fun w => run_float_arith w .quo _ .f64 x y r hq
    clear hq
    go_enter Tryd.func29, Tryd.ntmps29
    go_wp2_with fail
    refine (hfa w).mono ?_
    rintro e w1 ⟨rfl, rfl⟩
    go_wp2_with fail
    refine (hfb w).mono ?_
    rintro e w1 ⟨rfl, rfl⟩
    go_wp2_with fail
    refine (rof_any r w).mono ?_
    rintro e w1 ⟨rfl, rfl⟩
    go_wp2
    go_ret
    exact ⟨rfl, Touch.refl _ _⟩
  | none =>
    obtain ⟨r, hr, hop⟩ : ∃ r : Nat, nanB r = true ∧ (binOp .quo 24 (.float .f64 x) (.float .f64 y)).run Tryd.prog w = .ok (.float .f64 r) w.drew := arith_none .quo 24 x y (by simp) hq w
    have ho := rof_any r w.drew
    have e : ofB r = 9221120237041090560 := by unfold ofB; rw [if_pos hr]
    rw [e] at ho
    clear hq hr e
    go_enter Tryd.func29, Tryd.ntmps29
    go_wp2_with fail
    refine (hfa w).mono ?_
    rintro e w1 ⟨rfl, rfl⟩
    go_wp2_with fail
    refine (hfb w).mono ?_
    rintro e w1 ⟨rfl, rfl⟩
    go_wp2_with fail
    refine ho.mono ?_
    rintro e w1 ⟨rfl, rfl⟩
    go_wp2
    go_ret
    exact ⟨rfl, (Touch.refl w []).drew⟩

end Go.Proofs.YthkedpfbnaeaaaaDoor
