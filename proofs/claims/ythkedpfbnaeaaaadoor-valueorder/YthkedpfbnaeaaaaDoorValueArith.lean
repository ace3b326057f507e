/-
  '+', '-', '*', '/' OF VALUES, BY CONTRACT: what is invalid is api.NaN, whatever bits the tape gives.
-/
import Derived.Test.YthkedpfbnaeaaaaDoorValueInt
namespace Go.Proofs.YthkedpfbnaeaaaaDoor
set_option linter.unusedVariables false
set_option linter.unusedSimpArgs false
open Go.RowKit

theorem nan_frac (s f : Nat) (hs : s ≤ 1) (h0 : 0 < f) (h1 : f < 4503599627370496) : nanB (s * 9223372036854775808 + 9218868437227405312 + f) = true := by
  have e1 : Ieee.double.signWeight = 9223372036854775808 := by decide +kernel
  have e2 : Ieee.double.infRung = 9218868437227405312 := by decide +kernel
  have hr : ∃ a b, Ieee.double.read (s * 9223372036854775808 + 9218868437227405312 + f) = .nan a b := by
    have e3 : Ieee.double.binade = 4503599627370496 := by decide +kernel
    have hg : (s * 9223372036854775808 + 9218868437227405312 + f) % 9223372036854775808 = 9218868437227405312 + f := by omega
    unfold Ieee.Format.read
    simp only [e1, e2, e3, hg]
    rw [if_neg (by omega), if_neg (by omega), if_neg (by omega)]
    exact ⟨_, _, rfl⟩
  obtain ⟨a, b, hr⟩ := hr
  unfold nanB Ieee.Format.order
  have hr' : FloatKind.f64.format.read (s * 9223372036854775808 + 9218868437227405312 + f) = .nan a b := hr
  rw [hr']
  rfl

/-- What '+', '-', '*', '/' come to. -/
def arithB (op : BinOp) (x y : Nat) : Nat := match floatBits op .f64 x y with | some r => ofB r | none => 9221120237041090560

theorem arith_none (op : BinOp) (t : TypeId) (x y : Nat) (ho : op = .add ∨ op = .sub ∨ op = .mul ∨ op = .quo) (h : floatBits op .f64 x y = none) (w : World) :
    ∃ r : Nat, nanB r = true ∧ (binOp op t (.float .f64 x) (.float .f64 y)).run Tryd.prog w = .ok (.float .f64 r) w.drew := by
  refine ⟨(w.tape w.drawn (.nanBits .f64 x y) % 2) * 2 ^ 63 + 0x7ff0000000000000 + 1 + (w.tape w.drawn (.nanBits .f64 x y) / 2) % (2 ^ 52 - 1), ?_, ?_⟩
  · have := nan_frac (w.tape w.drawn (.nanBits .f64 x y) % 2) (1 + (w.tape w.drawn (.nanBits .f64 x y) / 2) % (2 ^ 52 - 1)) (by omega) (by omega) (by omega)
    rw [← Nat.add_assoc] at this
    exact this
  · rcases ho with rfl | rfl | rfl | rfl
    all_goals
      unfold floatBits at h
      simp only at h
      simp [binOp, Op.floatArith, h, run_choose_drew, Question.forced, Question.cut]

theorem add_any (a b : Int) (w : World) : Calls Tryd.prog 22 #[.int .u64 a, .int .u64 b] w fun e w' => e = .returned (.int .u64 (arithB .add (ofB a.toNat) (ofB b.toNat))) ∧ Touch w w' [] := by
  unfold arithB
  have hfa := fun w => float_any a w
  have hfb := fun w => float_any b w
  generalize ofB a.toNat = x at *
  generalize ofB b.toNat = y at *
  cases hb : floatBits .add .f64 x y with
  | some r =>
    have hop : ∀ w : World, (binOp .add 24 (.float .f64 x) (.float .f64 y)).run Tryd.prog w = .ok (.float .f64 r) w := fun w => run_float_arith w .add _ .f64 x y r hb
    clear hb
    go_enter Tryd.func22, Tryd.ntmps22
    go_wp2_with fail
    refine (hfa w).mono ?_
    rintro e w1 ⟨rfl, rfl⟩
    go_wp2_with fail
    refine (hfb w).mono ?_
    rintro e w1 ⟨rfl, rfl⟩
    go_wp2_with fail
    refine (of_any r w).mono ?_
    rintro e w1 ⟨rfl, rfl⟩
    go_wp2
    go_ret
    exact ⟨rfl, Touch.refl _ _⟩
  | none =>
    obtain ⟨r, hr, hop⟩ : ∃ r : Nat, nanB r = true ∧ (binOp .add 24 (.float .f64 x) (.float .f64 y)).run Tryd.prog w = .ok (.float .f64 r) w.drew := arith_none .add 24 x y (by simp) hb w
    have ho := of_any r w.drew
    have e : ofB r = 9221120237041090560 := by unfold ofB; rw [if_pos hr]
    rw [e] at ho
    clear hb hr e
    go_enter Tryd.func22, Tryd.ntmps22
    go_wp2_with fail
    refine (hfa w).mono ?_
    rintro e w1 ⟨rfl, rfl⟩
    go_wp2_with fail
    refine (hfb w).mono ?_
    rintro e w1 ⟨rfl, rfl⟩
    go_wp2_with fail
    refine ho.mono ?_
    rintro e w1 ⟨rfl, rfl⟩
    go_wp2
    go_ret
    exact ⟨rfl, (Touch.refl w []).drew⟩

theorem sub_any (a b : Int) (w : World) : Calls Tryd.prog 24 #[.int .u64 a, .int .u64 b] w fun e w' => e = .returned (.int .u64 (arithB .sub (ofB a.toNat) (ofB b.toNat))) ∧ Touch w w' [] := by
  unfold arithB
  have hfa := fun w => float_any a w
  have hfb := fun w => float_any b w
  generalize ofB a.toNat = x at *
  generalize ofB b.toNat = y at *
  cases hb : floatBits .sub .f64 x y with
  | some r =>
    have hop : ∀ w : World, (binOp .sub 24 (.float .f64 x) (.float .f64 y)).run Tryd.prog w = .ok (.float .f64 r) w := fun w => run_float_arith w .sub _ .f64 x y r hb
    clear hb
    go_enter Tryd.func24, Tryd.ntmps24
    go_wp2_with fail
    refine (hfa w).mono ?_
    rintro e w1 ⟨rfl, rfl⟩
    go_wp2_with fail
    refine (hfb w).mono ?_
    rintro e w1 ⟨rfl, rfl⟩
    go_wp2_with fail
    refine (of_any r w).mono ?_
    rintro e w1 ⟨rfl, rfl⟩
    go_wp2
    go_ret
    exact ⟨rfl, Touch.refl _ _⟩
  | none =>
    obtain ⟨r, hr, hop⟩ : ∃ r : Nat, nanB r = true ∧ (binOp .sub 24 (.float .f64 x) (.float .f64 y)).run Tryd.prog w = .ok (.float .f64 r) w.drew := arith_none .sub 24 x y (by simp) hb w
    have ho := of_any r w.drew
    have e : ofB r = 9221120237041090560 := by unfold ofB; rw [if_pos hr]
    rw [e] at ho
    clear hb hr e
    go_enter Tryd.func24, Tryd.ntmps24
    go_wp2_with fail
    refine (hfa w).mono ?_
    rintro e w1 ⟨rfl, rfl⟩
    go_wp2_with fail
    refine (hfb w).mono ?_
    rintro e w1 ⟨rfl, rfl⟩
    go_wp2_with fail
    refine ho.mono ?_
    rintro e w1 ⟨rfl, rfl⟩
    go_wp2
    go_ret
    exact ⟨rfl, (Touch.refl w []).drew⟩

theorem mul_any (a b : Int) (w : World) : Calls Tryd.prog 26 #[.int .u64 a, .int .u64 b] w fun e w' => e = .returned (.int .u64 (arithB .mul (ofB a.toNat) (ofB b.toNat))) ∧ Touch w w' [] := by
  unfold arithB
  have hfa := fun w => float_any a w
  have hfb := fun w => float_any b w
  generalize ofB a.toNat = x at *
  generalize ofB b.toNat = y at *
  cases hb : floatBits .mul .f64 x y with
  | some r =>
    have hop : ∀ w : World, (binOp .mul 24 (.float .f64 x) (.float .f64 y)).run Tryd.prog w = .ok (.float .f64 r) w := fun w => run_float_arith w .mul _ .f64 x y r hb
    clear hb
    go_enter Tryd.func26, Tryd.ntmps26
    go_wp2_with fail
    refine (hfa w).mono ?_
    rintro e w1 ⟨rfl, rfl⟩
    go_wp2_with fail
    refine (hfb w).mono ?_
    rintro e w1 ⟨rfl, rfl⟩
    go_wp2_with fail
    refine (of_any r w).mono ?_
    rintro e w1 ⟨rfl, rfl⟩
    go_wp2
    go_ret
    exact ⟨rfl, Touch.refl _ _⟩
  | none =>
    obtain ⟨r, hr, hop⟩ : ∃ r : Nat, nanB r = true ∧ (binOp .mul 24 (.float .f64 x) (.float .f64 y)).run Tryd.prog w = .ok (.float .f64 r) w.drew := arith_none .mul 24 x y (by simp) hb w
    have ho := of_any r w.drew
    have e : ofB r = 9221120237041090560 := by unfold ofB; rw [if_pos hr]
    rw [e] at ho
    clear hb hr e
    go_enter Tryd.func26, Tryd.ntmps26
    go_wp2_with fail
    refine (hfa w).mono ?_
    rintro e w1 ⟨rfl, rfl⟩
    go_wp2_with fail
    refine (hfb w).mono ?_
    rintro e w1 ⟨rfl, rfl⟩
    go_wp2_with fail
    refine ho.mono ?_
    rintro e w1 ⟨rfl, rfl⟩
    go_wp2
    go_ret
    exact ⟨rfl, (Touch.refl w []).drew⟩

theorem div_any (a b : Int) (w : World) : Calls Tryd.prog 28 #[.int .u64 a, .int .u64 b] w fun e w' => e = .returned (.int .u64 (arithB .quo (ofB a.toNat) (ofB b.toNat))) ∧ Touch w w' [] := by
  unfold arithB
  have hfa := fun w => float_any a w
  have hfb := fun w => float_any b w
  generalize ofB a.toNat = x at *
  generalize ofB b.toNat = y at *
  cases hb : floatBits .quo .f64 x y with
  | some r =>
    have hop : ∀ w : World, (binOp .quo 24 (.float .f64 x) (.float .f64 y)).run Tryd.prog w = .ok (.float .f64 r) w := fun w => run_float_arith w .quo _ .f64 x y r hb
    clear hb
    go_enter Tryd.func28, Tryd.ntmps28
    go_wp2_with fail
    refine (hfa w).mono ?_
    rintro e w1 ⟨rfl, rfl⟩
    go_wp2_with fail
    refine (hfb w).mono ?_
    rintro e w1 ⟨rfl, rfl⟩
    go_wp2_with fail
    refine (of_any r w).mono ?_
    rintro e w1 ⟨rfl, rfl⟩
    go_wp2
    go_ret
    exact ⟨rfl, Touch.refl _ _⟩
  | none =>
    obtain ⟨r, hr, hop⟩ : ∃ r : Nat, nanB r = true ∧ (binOp .quo 24 (.float .f64 x) (.float .f64 y)).run Tryd.prog w = .ok (.float .f64 r) w.drew := arith_none .quo 24 x y (by simp) hb w
    have ho := of_any r w.drew
    have e : ofB r = 9221120237041090560 := by unfold ofB; rw [if_pos hr]
    rw [e] at ho
    clear hb hr e
    go_enter Tryd.func28, Tryd.ntmps28
    go_wp2_with fail
    refine (hfa w).mono ?_
    rintro e w1 ⟨rfl, rfl⟩
    go_wp2_with fail
    refine (hfb w).mono ?_
    rintro e w1 ⟨rfl, rfl⟩
    go_wp2_with fail
    refine ho.mono ?_
    rintro e w1 ⟨rfl, rfl⟩
    go_wp2
    go_ret
    exact ⟨rfl, (Touch.refl w []).drew⟩

end Go.Proofs.YthkedpfbnaeaaaaDoor
