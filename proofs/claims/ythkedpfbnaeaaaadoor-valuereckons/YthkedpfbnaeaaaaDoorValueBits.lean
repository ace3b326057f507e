/-
  SIGNS AND BITS OF VALUES, AS PLAIN DATA. No walk.
-/
import Derived.Test.YthkedpfbnaeaaaaDoorValueKey
import Derived.Test.YthkedpfbnaeaaaaDoorValueArith
namespace Go.Proofs.YthkedpfbnaeaaaaDoor
set_option linter.unusedVariables false
set_option linter.unusedSimpArgs false
open Go.RowKit

theorem isNeg_is (x : Nat) (h : x < 18446744073709551616) : isNeg x = decide (9223372036854775808 ≤ x) := by
  unfold isNeg
  by_cases h1 : 9223372036854775808 ≤ x
  · have : x / 9223372036854775808 % 2 = 1 := by omega
    rw [this, decide_eq_true h1]; rfl
  · have : x / 9223372036854775808 % 2 = 0 := by omega
    rw [this, decide_eq_false h1]; rfl
theorem rungB_is (x : Nat) (h : x < 18446744073709551616) : rungB x = if 9223372036854775808 ≤ x then x - 9223372036854775808 else x := by
  unfold rungB
  split <;> omega

theorem negB_is (x : Nat) (h : x < 18446744073709551616) : negB x = decide (9223372036854775808 ≤ x) := by
  unfold negB
  have e : bits .and .u64 (x : Int) 9223372036854775808 = ((x &&& 9223372036854775808 : Nat) : Int) := u64_and_nat x 9223372036854775808 h (by omega)
  rw [e]
  have e2 : (9223372036854775808 : Nat) = 2 ^ 63 := rfl
  rw [e2]
  have h1 : (x &&& 2 ^ 63) % 2 ^ 63 = 0 := by rw [Nat.and_mod_two_pow]; simp
  have h2 : (x &&& 2 ^ 63) / 2 ^ 63 = (x / 2 ^ 63) &&& 1 := by rw [Nat.and_div_two_pow]
  have h3 : (x &&& 2 ^ 63) = 2 ^ 63 * ((x &&& 2 ^ 63) / 2 ^ 63) + (x &&& 2 ^ 63) % 2 ^ 63 := (Nat.div_add_mod _ _).symm
  rw [h1, h2] at h3
  rw [h3]
  by_cases hx : 2 ^ 63 ≤ x
  · have : x / 2 ^ 63 = 1 := by omega
    rw [this, decide_eq_true hx]; decide
  · have : x / 2 ^ 63 = 0 := by omega
    rw [this, decide_eq_false hx]; decide

theorem absB_is (x : Nat) (h : x < 18446744073709551616) : absB x = rungB x := by
  unfold absB rungB
  have e : bits .andNot .u64 (x : Int) 9223372036854775808 = ((x &&& (18446744073709551615 - 9223372036854775808) : Nat) : Int) := u64_andNot_nat x 9223372036854775808 h (by omega)
  rw [e, Int.toNat_natCast]
  have e2 : (18446744073709551615 - 9223372036854775808 : Nat) = 2 ^ 63 - 1 := rfl
  rw [e2, Nat.and_two_pow_sub_one_eq_mod]

theorem negFloat_is (x : Nat) (h : x < 18446744073709551616) : Op.negFloat .f64 x = if 9223372036854775808 ≤ x then x - 9223372036854775808 else x + 9223372036854775808 := by
  have e : Op.negFloat .f64 x = x ^^^ 2 ^ 63 := rfl
  rw [e]
  have h1 : (x ^^^ 2 ^ 63) % 2 ^ 63 = x % 2 ^ 63 := by first | (rw [Nat.xor_mod_two_pow, Nat.mod_self, Nat.xor_zero]; done) | (rw [Nat.xor_mod_two_pow]; simp)
  have h2 : (x ^^^ 2 ^ 63) / 2 ^ 63 = (x / 2 ^ 63) ^^^ 1 := by first | (rw [Nat.xor_div_two_pow]; done) | (rw [Nat.xor_div_two_pow]; simp)
  have h3 : (x ^^^ 2 ^ 63) = 2 ^ 63 * ((x ^^^ 2 ^ 63) / 2 ^ 63) + (x ^^^ 2 ^ 63) % 2 ^ 63 := (Nat.div_add_mod _ _).symm
  rw [h1, h2] at h3
  by_cases hx : 9223372036854775808 ≤ x
  · have : x / 2 ^ 63 = 1 := by omega
    rw [if_pos hx, h3, this]
    have : (1 ^^^ 1 : Nat) = 0 := rfl
    rw [this]
    omega
  · have : x / 2 ^ 63 = 0 := by omega
    rw [if_neg hx, h3, this]
    have : (0 ^^^ 1 : Nat) = 1 := rfl
    rw [this]
    omega

/-- The right bits: those of a number, or just one of those that are none. -/
theorem ofB_cases (x : Nat) (h : x < 18446744073709551616) : (rungB x ≤ 9218868437227405312 ∧ ofB x = x) ∨ (9218868437227405312 < rungB x ∧ ofB x = 9221120237041090560) := by
  unfold ofB
  rw [nanB_rung]
  by_cases h1 : 9218868437227405312 < rungB x
  · right; rw [decide_eq_true h1]; exact ⟨h1, rfl⟩
  · left; rw [decide_eq_false h1]; exact ⟨by omega, rfl⟩

/-- The number by which values are in order. -/
def keyB (x : Nat) : Int := if 9223372036854775808 ≤ x then -((x - 9223372036854775808 : Nat) : Int) - 1 else x

theorem keyB_inj {x y : Nat} (hx : x < 18446744073709551616) (hy : y < 18446744073709551616) (h : keyB x = keyB y) : x = y := by
  unfold keyB at h
  split at h <;> split at h <;> omega

/-- Right bits. -/
structure Rt (x : Nat) : Prop where
  lt : x < 18446744073709551616
  r : rungB x ≤ 9218868437227405312 ∨ x = 9221120237041090560

theorem rt_of (x : Nat) (h : x < 18446744073709551616) : Rt (ofB x) := by
  rcases ofB_cases x h with ⟨h1, e⟩ | ⟨h1, e⟩
  · rw [e]; exact ⟨h, .inl h1⟩
  · rw [e]; exact ⟨by omega, .inr rfl⟩

theorem Rt.nan {x : Nat} (h : Rt x) : nanB x = decide (x = 9221120237041090560) := by
  rw [nanB_rung]
  rcases h.r with h1 | h1
  · rw [decide_eq_false (by omega)]
    symm
    apply decide_eq_false
    intro e
    rw [e] at h1
    revert h1
    decide
  · subst h1; decide

theorem less_of_cmp (A B : Int) (p c : Bool) (h : c = true ↔ A < B ∨ (A = B ∧ p = true)) : (if (some (compare A B) == some Ordering.eq) then p else (some (compare A B) == some Ordering.lt)) = c := by
  rcases Int.lt_trichotomy A B with h1 | h1 | h1
  · rw [cmp_lt h1]
    have : c = true := h.2 (.inl h1)
    rw [this]; rfl
  · have e : compare A B = .eq := by subst h1; simp [compare, compareOfLessAndEq]
    rw [e]
    have : c = p := by
      cases hp : p with
      | true => exact h.2 (.inr ⟨h1, hp⟩)
      | false =>
        cases hc : c with
        | false => rfl
        | true =>
          rcases h.1 hc with h2 | ⟨_, h2⟩
          · omega
          · rw [hp] at h2; cases h2
    rw [this]; rfl
  · rw [cmp_gt h1]
    have : c = false := by
      cases hc : c with
      | false => rfl
      | true =>
        rcases h.1 hc with h2 | ⟨h2, _⟩ <;> omega
    rw [this]; rfl

theorem lessB_key {x y : Nat} (hx : Rt x) (hy : Rt y) : lessB x y = decide (keyB x < keyB y) := by
  have e0 : rungB 9221120237041090560 = 9221120237041090560 := by decide
  unfold lessB
  rw [hx.nan, hy.nan]
  by_cases h1 : x = 9221120237041090560
  · subst h1
    rw [if_pos (by decide)]
    symm
    apply decide_eq_false
    have := hy.lt
    have hr := rungB_is y hy.lt
    rcases hy.r with h | h
    · unfold keyB
      rw [if_neg (by omega)]
      split at hr
      · rw [if_pos ‹_›]; omega
      · rw [if_neg ‹_›]; omega
    · rw [h]; omega
  · rw [if_neg (by simpa using h1)]
    have hxr : rungB x ≤ 9218868437227405312 := hx.r.resolve_right h1
    have hrx := rungB_is x hx.lt
    by_cases h2 : y = 9221120237041090560
    · subst h2
      rw [if_pos (by decide)]
      symm
      apply decide_eq_true
      unfold keyB
      rw [if_neg (show ¬ 9223372036854775808 ≤ 9221120237041090560 by omega)]
      split at hrx
      · rw [if_pos ‹_›]; omega
      · rw [if_neg ‹_›]; omega
    · rw [if_neg (by simpa using h2)]
      have hyr : rungB y ≤ 9218868437227405312 := hy.r.resolve_right h2
      have hry := rungB_is y hy.lt
      rw [order_key x y hxr hyr, negB_is x hx.lt, negB_is y hy.lt, isNeg_is x hx.lt, isNeg_is y hy.lt, hrx, hry]
      have lx := hx.lt
      have ly := hy.lt
      unfold keyB sgn
      by_cases a : 9223372036854775808 ≤ x <;> by_cases b : 9223372036854775808 ≤ y
      all_goals
        simp only [a, b, decide_true, decide_false, if_true, if_false, Bool.false_eq_true]
        refine less_of_cmp _ _ _ _ ?_
        simp only [decide_eq_true_eq, Bool.and_true, Bool.and_false, Bool.not_true, Bool.not_false, Bool.false_eq_true, and_false, or_false, and_true, Bool.true_and, Bool.false_and]
        try omega

theorem rt_nan : Rt 9221120237041090560 := ⟨by omega, .inr rfl⟩

/-- The document's order. -/
def refLess (x y : Nat) : Bool := if x = 9221120237041090560 then false else if y = 9221120237041090560 then true else if x = 9223372036854775808 ∧ y = 0 then true else FloatKind.f64.format.order x y == some .lt

theorem refLess_eq {x y : Nat} (hx : Rt x) (hy : Rt y) : refLess x y = lessB x y := by
  unfold refLess lessB
  rw [hx.nan, hy.nan]
  by_cases h1 : x = 9221120237041090560
  · simp only [h1, decide_true, if_true]
  · by_cases h2 : y = 9221120237041090560
    · simp only [h1, h2, decide_true, decide_false, if_true, if_false, Bool.false_eq_true]
    · simp only [h1, h2, decide_false, if_false, Bool.false_eq_true]
      have hxr : rungB x ≤ 9218868437227405312 := hx.r.resolve_right h1
      have hyr : rungB y ≤ 9218868437227405312 := hy.r.resolve_right h2
      have hrx := rungB_is x hx.lt
      have hry := rungB_is y hy.lt
      have lx := hx.lt
      have ly := hy.lt
      rw [order_key x y hxr hyr, negB_is x hx.lt, negB_is y hy.lt, isNeg_is x hx.lt, isNeg_is y hy.lt, hrx, hry]
      symm
      refine less_of_cmp _ _ _ _ ?_
      by_cases h3 : x = 9223372036854775808 ∧ y = 0
      · rw [if_pos h3]
        obtain ⟨rfl, rfl⟩ := h3
        decide
      · rw [if_neg h3]
        have hcl : ∀ A B : Int, ((some (compare A B) == some Ordering.lt) = true) ↔ A < B := by
          intro A B
          rcases Int.lt_trichotomy A B with h | h | h
          · rw [cmp_lt h]; simp [h]
          · subst h; simp [compare, compareOfLessAndEq]
          · rw [cmp_gt h]; simp; omega
        rw [hcl]
        unfold sgn
        by_cases a : 9223372036854775808 ≤ x <;> by_cases b : 9223372036854775808 ≤ y
        all_goals
          simp only [a, b, decide_true, decide_false, if_true, if_false, Bool.false_eq_true, Bool.and_true, Bool.and_false, Bool.not_true, Bool.not_false, and_false, or_false, and_true, Bool.true_and, Bool.false_and]
          try omega

/-- The document's class. -/
def refClass (x : Nat) : Int := if nanB x then 3 else if (FloatKind.f64.format.order x 0 == some .eq) then 0 else if (FloatKind.f64.format.order x 9218868437227405311 == some .gt || FloatKind.f64.format.order x 18442240474082181119 == some .lt) then 2 else 1

theorem cmp_is_eq (A B : Int) : (some (compare A B) == some Ordering.eq) = decide (A = B) := by
  rcases Int.lt_trichotomy A B with h | h | h
  · rw [cmp_lt h, decide_eq_false (by omega)]; rfl
  · subst h; simp [compare, compareOfLessAndEq]
  · rw [cmp_gt h, decide_eq_false (by omega)]; rfl
theorem cmp_is_gt (A B : Int) : (some (compare A B) == some Ordering.gt) = decide (B < A) := by
  rcases Int.lt_trichotomy A B with h | h | h
  · rw [cmp_lt h, decide_eq_false (by omega)]; rfl
  · subst h; simp [compare, compareOfLessAndEq]
  · rw [cmp_gt h, decide_eq_true h]; rfl
theorem cmp_is_lt (A B : Int) : (some (compare A B) == some Ordering.lt) = decide (A < B) := by
  rcases Int.lt_trichotomy A B with h | h | h
  · rw [cmp_lt h, decide_eq_true h]; rfl
  · subst h; simp [compare, compareOfLessAndEq]
  · rw [cmp_gt h, decide_eq_false (by omega)]; rfl

theorem refClass_eq {x : Nat} (hx : Rt x) : refClass x = classB x := by
  unfold refClass classB
  cases hn : nanB x with
  | true => rfl
  | false =>
    simp only [Bool.false_eq_true, if_false]
    rw [hx.nan] at hn
    have h1 : x ≠ 9221120237041090560 := by simpa using hn
    have hxr : rungB x ≤ 9218868437227405312 := hx.r.resolve_right h1
    have hrx := rungB_is x hx.lt
    have lx := hx.lt
    have ha : (bits BinOp.andNot IntKind.u64 (x : Int) 9223372036854775808).toNat = rungB x := absB_is x hx.lt
    have hrr : rungB (rungB x) = rungB x := by unfold rungB; omega
    have hrl : rungB x < 9223372036854775808 := by unfold rungB; omega
    rw [ha, order_key x 0 hxr (by decide), order_key x 9218868437227405311 hxr (by decide), order_key x 18442240474082181119 hxr (by decide), order_key (rungB x) 9218868437227405311 (by omega) (by decide)]
    rw [cmp_is_eq, cmp_is_gt, cmp_is_gt, cmp_is_lt, hrr, isNeg_is x lx, isNeg_is (rungB x) (by omega)]
    have e1 : sgn (isNeg 0) (rungB 0) = 0 := by decide
    have e2 : sgn (isNeg 9218868437227405311) (rungB 9218868437227405311) = 9218868437227405311 := by decide
    have e3 : sgn (isNeg 18442240474082181119) (rungB 18442240474082181119) = -9218868437227405311 := by decide
    rw [e1, e2, e3, decide_eq_false (show ¬ 9223372036854775808 ≤ rungB x by omega)]
    generalize rungB x = r at *
    unfold sgn
    simp only [Bool.false_eq_true, if_false]
    by_cases a : 9223372036854775808 ≤ x
    · simp only [a, decide_true, if_true]
      by_cases b : 9218868437227405311 < r
      · have c1 : ¬ (-(r : Int) = 0) := by omega
        have c2 : -(r : Int) < -9218868437227405311 := by omega
        have c3 : (9218868437227405311 : Int) < r := by omega
        simp [c1, c2, c3]
      · have c2 : ¬ -(r : Int) < -9218868437227405311 := by omega
        have c3 : ¬ (9218868437227405311 : Int) < r := by omega
        have c4 : ¬ (9218868437227405311 : Int) < -(r : Int) := by omega
        simp [c2, c3, c4]
    · simp only [a, decide_false, Bool.false_eq_true, if_false]
      by_cases b : 9218868437227405311 < r
      · have c1 : ¬ ((r : Int) = 0) := by omega
        have c3 : (9218868437227405311 : Int) < r := by omega
        have c5 : ¬ r = 0 := by omega
        simp [c1, c3, c5]
      · have c2 : ¬ (r : Int) < -9218868437227405311 := by omega
        have c3 : ¬ (9218868437227405311 : Int) < r := by omega
        simp [c2, c3]

/-- The other sign, and none, of right bits. -/
theorem neg_of {x : Nat} (hx : Rt x) : ofB (Op.negFloat .f64 x) = if x = 9221120237041090560 then 9221120237041090560 else if 9223372036854775808 ≤ x then x - 9223372036854775808 else x + 9223372036854775808 := by
  have lx := hx.lt
  by_cases h1 : x = 9221120237041090560
  · subst h1; rw [if_pos rfl]; decide +kernel
  · rw [if_neg h1, ← negFloat_is x lx]
    have hxr : rungB x ≤ 9218868437227405312 := hx.r.resolve_right h1
    have e := negFloat_is x lx
    have hl : Op.negFloat .f64 x < 18446744073709551616 := by rw [e]; split <;> omega
    have hr : rungB (Op.negFloat .f64 x) = rungB x := by
      unfold rungB
      rw [e]
      split <;> omega
    rcases ofB_cases _ hl with ⟨_, h2⟩ | ⟨h2, _⟩
    · exact h2
    · omega

theorem abs_of {x : Nat} (hx : Rt x) : ofB (absB x) = if x = 9221120237041090560 then 9221120237041090560 else rungB x := by
  have lx := hx.lt
  by_cases h1 : x = 9221120237041090560
  · subst h1; rw [if_pos rfl]; decide +kernel
  · rw [if_neg h1, absB_is x lx]
    have hxr : rungB x ≤ 9218868437227405312 := hx.r.resolve_right h1
    have hrr : rungB (rungB x) = rungB x := by unfold rungB; omega
    rcases ofB_cases (rungB x) (by omega) with ⟨_, h2⟩ | ⟨h2, _⟩
    · exact h2
    · omega

end Go.Proofs.YthkedpfbnaeaaaaDoor
