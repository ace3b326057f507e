/-
  THE ORDER OF FLOATS IS THE ORDER OF A WHOLE NUMBER MADE OF THEIR BITS. No walk.
-/
import Derived.Test.YthkedpfbnaeaaaaDoorValueLess
namespace Go.Proofs.YthkedpfbnaeaaaaDoor
set_option linter.unusedVariables false
set_option linter.unusedSimpArgs false
open Go.RowKit

/-- The place of a float among those of its sign; its size, in units of the least one. -/
def rungB (x : Nat) : Nat := x % 9223372036854775808
def isNeg (x : Nat) : Bool := x / 9223372036854775808 % 2 == 1
def magB (r : Nat) : Nat := if r < 4503599627370496 then r else (4503599627370496 + r % 4503599627370496) * 2 ^ (r / 4503599627370496 - 1)
def sgn (s : Bool) (n : Nat) : Int := if s then -(n : Int) else n

theorem magB_step (r : Nat) : magB r < magB (r + 1) := by
  unfold magB
  by_cases h1 : r + 1 < 4503599627370496
  · rw [if_pos (by omega), if_pos h1]; omega
  · by_cases h2 : r < 4503599627370496
    · obtain rfl : r = 4503599627370495 := by omega
      rw [if_pos h2, if_neg h1]
      decide
    · rw [if_neg h2, if_neg h1]
      by_cases h3 : r % 4503599627370496 = 4503599627370495
      · have e1 : (r + 1) % 4503599627370496 = 0 := by omega
        have e2 : (r + 1) / 4503599627370496 = r / 4503599627370496 + 1 := by omega
        have e3 : r / 4503599627370496 + 1 - 1 = (r / 4503599627370496 - 1) + 1 := by omega
        rw [e1, e2, e3, h3, Nat.pow_succ]
        have hp : 0 < (2 : Nat) ^ (r / 4503599627370496 - 1) := Nat.pow_pos (by omega)
        generalize (2 : Nat) ^ (r / 4503599627370496 - 1) = p at *
        omega
      · have e1 : (r + 1) % 4503599627370496 = r % 4503599627370496 + 1 := by omega
        have e2 : (r + 1) / 4503599627370496 = r / 4503599627370496 := by omega
        rw [e1, e2]
        exact Nat.mul_lt_mul_of_pos_right (by omega) (Nat.pow_pos (by omega))

theorem magB_mono {r s : Nat} (h : r < s) : magB r < magB s := by
  induction s with
  | zero => omega
  | succ s ih =>
    rcases Nat.lt_or_ge r s with h1 | h1
    · exact Nat.lt_trans (ih h1) (magB_step s)
    · obtain rfl : r = s := by omega
      exact magB_step r

theorem magB_lt {r s : Nat} : magB r < magB s ↔ r < s := by
  constructor
  · intro h
    rcases Nat.lt_trichotomy r s with h1 | h1 | h1
    · exact h1
    · subst h1; omega
    · have := magB_mono h1; omega
  · exact magB_mono
theorem magB_eq {r s : Nat} : magB r = magB s ↔ r = s := by
  constructor
  · intro h
    rcases Nat.lt_trichotomy r s with h1 | h1 | h1
    · have := magB_mono h1; omega
    · exact h1
    · have := magB_mono h1; omega
  · intro h; rw [h]
theorem magB_zero {r : Nat} : magB r = 0 ↔ r = 0 := by
  have : magB 0 = 0 := rfl
  rw [← this]
  conv => lhs; rw [this, ← this]
  exact magB_eq

theorem cmp_congr {a b c d : Int} (h1 : a < b ↔ c < d) (h2 : a = b ↔ c = d) : compare a b = compare c d := by
  simp only [compare, compareOfLessAndEq]
  by_cases h : a < b
  · rw [if_pos h, if_pos (h1.1 h)]
  · rw [if_neg h, if_neg (fun k => h (h1.2 k))]
    by_cases e : a = b
    · rw [if_pos e, if_pos (h2.1 e)]
    · rw [if_neg e, if_neg (fun k => e (h2.2 k))]

theorem cmp_scale (u v : Int) (p : Nat) (hp : 0 < p) : compare (u * p) (v * p) = compare u v := by
  have hp' : (0 : Int) < p := by omega
  refine cmp_congr ⟨fun h => ?_, fun h => Int.mul_lt_mul_of_pos_right h hp'⟩ ⟨fun h => ?_, fun h => by rw [h]⟩
  · exact Int.lt_of_mul_lt_mul_right h (Int.le_of_lt hp')
  · exact Int.eq_of_mul_eq_mul_right (by omega) h

theorem magB_cmp (r s : Nat) (a b : Bool) : compare (sgn a (magB r)) (sgn b (magB s)) = compare (sgn a r) (sgn b s) := by
  have h1 := @magB_lt r s
  have h2 := @magB_lt s r
  have h3 := @magB_eq r s
  have h4 := @magB_zero r
  have h5 := @magB_zero s
  unfold sgn
  generalize magB r = m at *
  generalize magB s = n at *
  cases a <;> cases b <;> simp only [Bool.false_eq_true, if_false, if_true] <;> refine cmp_congr ?_ ?_ <;> omega

theorem signed_sgn (s : Bool) (m k : Nat) : Ieee.signed s m k = sgn s (m * 2 ^ k) := by
  unfold Ieee.signed sgn
  rw [Nat.shiftLeft_eq]

theorem sgn_mul (s : Bool) (m p : Nat) : sgn s (m * p) = sgn s m * p := by
  unfold sgn
  cases s <;> simp [Int.neg_mul]

/-- Two numbers of one grid. -/
theorem order_grid (s t : Bool) (m n a b : Nat) (lp : Int) : Ieee.Datum.order (.number s m (lp + a)) (.number t n (lp + b)) = some (compare (sgn s (m * 2 ^ a)) (sgn t (n * 2 ^ b))) := by
  simp only [Ieee.Datum.order, Option.some.injEq]
  rw [signed_sgn, signed_sgn]
  have e0 : min (lp + (a : Int)) (lp + b) = lp + (min a b : Nat) := by omega
  rw [e0]
  have ea : (lp + (a : Int) - (lp + (min a b : Nat))).toNat = a - min a b := by omega
  have eb : (lp + (b : Int) - (lp + (min a b : Nat))).toNat = b - min a b := by omega
  rw [ea, eb]
  have ha : m * 2 ^ a = m * 2 ^ (a - min a b) * 2 ^ min a b := by rw [Nat.mul_assoc, ← Nat.pow_add]; congr 2; omega
  have hb : n * 2 ^ b = n * 2 ^ (b - min a b) * 2 ^ min a b := by rw [Nat.mul_assoc, ← Nat.pow_add]; congr 2; omega
  rw [ha, hb, sgn_mul s (m * 2 ^ (a - min a b)), sgn_mul t (n * 2 ^ (b - min a b))]
  exact (cmp_scale _ _ _ (Nat.pow_pos (by omega))).symm

/-- How bits read. -/
theorem read_is (x : Nat) : (rungB x < 9218868437227405312 ∧ ∃ m a : Nat, Ieee.double.read x = .number (isNeg x) m (Ieee.double.leastPlace + a) ∧ m * 2 ^ a = magB (rungB x)) ∨ (rungB x = 9218868437227405312 ∧ Ieee.double.read x = .infinity (isNeg x)) ∨ (9218868437227405312 < rungB x ∧ Ieee.double.read x = .nan (isNeg x) (rungB x - 9218868437227405312)) := by
  have e1 : Ieee.double.signWeight = 9223372036854775808 := by decide +kernel
  have e2 : Ieee.double.infRung = 9218868437227405312 := by decide +kernel
  have e3 : Ieee.double.binade = 4503599627370496 := by decide +kernel
  unfold Ieee.Format.read rungB isNeg magB
  simp only [e1, e2, e3]
  generalize x % 9223372036854775808 = r
  generalize (x / 9223372036854775808 % 2 == 1) = s
  by_cases h1 : r < 4503599627370496
  · left
    rw [if_pos h1, if_pos h1]
    exact ⟨by omega, r, 0, by simp, by simp⟩
  · rw [if_neg h1, if_neg h1]
    by_cases h2 : r < 9218868437227405312
    · left
      rw [if_pos h2]
      exact ⟨h2, _, _, rfl, rfl⟩
    · right
      rw [if_neg h2]
      by_cases h3 : r = 9218868437227405312
      · left; rw [if_pos h3]; exact ⟨h3, rfl⟩
      · right; rw [if_neg h3]; exact ⟨by omega, rfl⟩

theorem cmp_lt {a b : Int} (h : a < b) : compare a b = .lt := by simp only [compare, compareOfLessAndEq]; rw [if_pos h]
theorem cmp_gt {a b : Int} (h : b < a) : compare a b = .gt := by simp only [compare, compareOfLessAndEq]; rw [if_neg (by omega), if_neg (by omega)]

/-- THE ORDER OF FLOATS. -/
theorem order_key (x y : Nat) (hx : rungB x ≤ 9218868437227405312) (hy : rungB y ≤ 9218868437227405312) : FloatKind.f64.format.order x y = some (compare (sgn (isNeg x) (rungB x)) (sgn (isNeg y) (rungB y))) := by
  show (Ieee.double.read x).order (Ieee.double.read y) = _
  rcases read_is x with ⟨h1, m, a, e1, g1⟩ | ⟨h1, e1⟩ | ⟨h1, _⟩
  · rcases read_is y with ⟨h2, n, b, e2, g2⟩ | ⟨h2, e2⟩ | ⟨h2, _⟩
    · rw [e1, e2, order_grid, g1, g2, magB_cmp]
    · rw [e1, e2]
      generalize rungB x = r at *
      rw [h2]
      cases isNeg x <;> cases isNeg y <;> simp only [Ieee.Datum.order, sgn, Bool.false_eq_true, if_false, if_true, Option.some.injEq] <;> first | exact (cmp_lt (by omega)).symm | exact (cmp_gt (by omega)).symm
    · omega
  · rcases read_is y with ⟨h2, n, b, e2, g2⟩ | ⟨h2, e2⟩ | ⟨h2, _⟩
    · rw [e1, e2]
      generalize rungB y = r at *
      rw [h1]
      cases isNeg x <;> cases isNeg y <;> simp only [Ieee.Datum.order, sgn, Bool.false_eq_true, if_false, if_true, Option.some.injEq] <;> first | exact (cmp_lt (by omega)).symm | exact (cmp_gt (by omega)).symm
    · rw [e1, e2, h1, h2]
      cases isNeg x <;> cases isNeg y <;> decide
    · omega
  · omega

theorem nanB_rung (x : Nat) : nanB x = decide (9218868437227405312 < rungB x) := by
  unfold nanB
  by_cases h : 9218868437227405312 < rungB x
  · rcases read_is x with ⟨h1, _⟩ | ⟨h1, _⟩ | ⟨h1, e1⟩
    · omega
    · omega
    · have : FloatKind.f64.format.order x x = (Ieee.double.read x).order (Ieee.double.read x) := rfl
      rw [this, e1, decide_eq_true h]
      rfl
  · rw [order_key x x (by omega) (by omega), decide_eq_false h]
    simp [compare, compareOfLessAndEq]

end Go.Proofs.YthkedpfbnaeaaaaDoor
