/-
  WHOLE NUMBERS AS FLOATS, AND THE OTHER SIGN IN SUMS. No walk.
-/
import Derived.Test.YthkedpfbnaeaaabDoorValueBits
namespace Go.Proofs.YthkedpfbnaeaaabDoor
set_option linter.unusedVariables false
set_option linter.unusedSimpArgs false
open Go.RowKit

theorem cut_none (way : Ieee.Toward) (s : Bool) (n : Nat) : way.cut s n 0 = n := by
  unfold Ieee.Toward.cut
  simp
  cases way <;> simp [Nat.mod_one]

theorem cut_zero_exact (s : Bool) (m d : Nat) (h : d ≤ (m * 2 ^ d).log2 + 2) : Ieee.Toward.zero.cut s (m * 2 ^ d) d = m := by
  unfold Ieee.Toward.cut
  have e : min d ((m * 2 ^ d).log2 + 2) = d := by omega
  simp only [e, Nat.shiftLeft_eq, Nat.one_mul, Bool.toNat_false, Nat.add_zero]
  exact Nat.mul_div_cancel _ (Nat.pow_pos (by omega))

theorem pow53 : (2 : Nat) ^ 53 = 9007199254740992 := by decide
theorem pow52 : (2 : Nat) ^ 52 = 4503599627370496 := by decide
theorem kept_lt (m : Nat) (h1 : m.log2 ≤ 52) : m * 2 ^ (52 - m.log2) < 9007199254740992 := by
  have hlt : m < 2 ^ (m.log2 + 1) := Nat.lt_log2_self
  have e : (2 : Nat) ^ (m.log2 + 1) * 2 ^ (52 - m.log2) = 2 ^ 53 := by rw [← Nat.pow_add, show m.log2 + 1 + (52 - m.log2) = 53 by omega]
  rw [← pow53, ← e]
  exact Nat.mul_lt_mul_of_pos_right hlt (Nat.pow_pos (by omega))
theorem kept_ge (m : Nat) (h0 : 0 < m) (h1 : m.log2 ≤ 52) : 4503599627370496 ≤ m * 2 ^ (52 - m.log2) := by
  have hge : 2 ^ m.log2 ≤ m := Nat.log2_self_le (by omega)
  have e : (2 : Nat) ^ m.log2 * 2 ^ (52 - m.log2) = 2 ^ 52 := by rw [← Nat.pow_add, show m.log2 + (52 - m.log2) = 52 by omega]
  rw [← pow52, ← e]
  exact Nat.mul_le_mul_right _ hge

/-- A whole number below 2^53, as a float: exactly. -/
theorem exact_word (s : Bool) (m : Nat) (h0 : 0 < m) (h1 : m.log2 ≤ 52) : Ieee.double.nearest s m 0 = Ieee.double.word s ((m.log2 + 1022) * 4503599627370496 + m * 2 ^ (52 - m.log2)) := by
  have e3 : Ieee.double.binade = 4503599627370496 := by decide +kernel
  have e2 : Ieee.double.infRung = 9218868437227405312 := by decide +kernel
  have e4 : Ieee.double.leastPlace = -1074 := by decide +kernel
  have e5 : Ieee.double.fractionBits = 52 := rfl
  have hk := kept_lt m h1
  unfold Ieee.Format.nearest
  rw [if_neg (by omega)]
  rw [e2, e3, e4, e5]
  have hlast : max ((0 : Int) + (m.log2 : Nat) - (52 : Nat)) (-1074) = (m.log2 : Int) - 52 := by omega
  show Ieee.double.word s (min ((max ((0 : Int) + (m.log2 : Nat) - (52 : Nat)) (-1074) - -1074).toNat * 4503599627370496 + Ieee.Toward.even.cut s (m <<< (0 - max ((0 : Int) + (m.log2 : Nat) - (52 : Nat)) (-1074)).toNat) (max ((0 : Int) + (m.log2 : Nat) - (52 : Nat)) (-1074) - 0).toNat) 9218868437227405312) = _
  rw [hlast]
  have ea : ((0 : Int) - ((m.log2 : Int) - 52)).toNat = 52 - m.log2 := by omega
  have eb : (((m.log2 : Int) - 52) - 0).toNat = 0 := by omega
  have ec : (((m.log2 : Int) - 52) - -1074).toNat = m.log2 + 1022 := by omega
  rw [ea, eb, ec, cut_none, Nat.shiftLeft_eq]
  generalize m * 2 ^ (52 - m.log2) = K at *
  generalize m.log2 = L at *
  clear ea eb ec hlast e2 e3 e4 e5
  have hmin : min ((L + 1022) * 4503599627370496 + K) 9218868437227405312 = (L + 1022) * 4503599627370496 + K := by omega
  rw [hmin]

theorem word_is (s : Bool) (r : Nat) (h : r < 9223372036854775808) : Ieee.double.word s r < 18446744073709551616 ∧ isNeg (Ieee.double.word s r) = s ∧ rungB (Ieee.double.word s r) = r := by
  have e1 : Ieee.double.signWeight = 9223372036854775808 := by decide +kernel
  unfold Ieee.Format.word isNeg rungB
  rw [e1]
  cases s
  · simp only [Bool.false_eq_true, if_false]
    have : r / 9223372036854775808 = 0 := by omega
    rw [this]
    exact ⟨by omega, rfl, by omega⟩
  · simp only [if_true]
    have : (9223372036854775808 + r) / 9223372036854775808 = 1 := by omega
    rw [this]
    exact ⟨by omega, rfl, by omega⟩

/-- The bits of a whole number, not 0, below 2^53. -/
structure Ex (x : Nat) (s : Bool) (m : Nat) : Prop where
  lt : x < 18446744073709551616
  r : rungB x < 4845873199050653696
  rd : Ieee.double.read x = .number s (m * 2 ^ (52 - m.log2)) ((m.log2 : Int) - 52)

theorem exact_ex (s : Bool) (m : Nat) (h0 : 0 < m) (h1 : m.log2 ≤ 52) : Ex (Ieee.double.nearest s m 0) s m := by
  have e1 : Ieee.double.signWeight = 9223372036854775808 := by decide +kernel
  have e2 : Ieee.double.infRung = 9218868437227405312 := by decide +kernel
  have e3 : Ieee.double.binade = 4503599627370496 := by decide +kernel
  have e4 : Ieee.double.leastPlace = -1074 := by decide +kernel
  have hk := kept_lt m h1
  have hk2 := kept_ge m h0 h1
  rw [exact_word s m h0 h1]
  obtain ⟨K, hK⟩ : ∃ K, K = m * 2 ^ (52 - m.log2) := ⟨_, rfl⟩
  rw [← hK] at hk hk2 ⊢
  obtain ⟨L, hL⟩ : ∃ L, L = m.log2 := ⟨_, rfl⟩
  rw [← hL] at h1 ⊢
  obtain ⟨w1, w2, w3⟩ := word_is s ((L + 1022) * 4503599627370496 + K) (by omega)
  refine ⟨w1, by rw [w3]; omega, ?_⟩
  unfold Ieee.Format.read
  unfold rungB at w3
  unfold isNeg at w2
  simp only [e1, e2, e3, e4]
  rw [w2, w3, if_neg (by omega), if_pos (by omega)]
  have g1 : 4503599627370496 + ((L + 1022) * 4503599627370496 + K) % 4503599627370496 = K := by omega
  have g2 : ((L + 1022) * 4503599627370496 + K) / 4503599627370496 - 1 = L + 1022 := by omega
  have g3 : (-1074 : Int) + ((L + 1022 : Nat) : Int) = (L : Int) - 52 := by omega
  rw [g1, g2, g3, hK, hL]

theorem ex_nonan {x m : Nat} {s : Bool} (h : Ex x s m) : ofB x = x := by
  rcases ofB_cases x h.lt with ⟨_, e⟩ | ⟨h1, _⟩
  · exact e
  · have := h.r; omega

theorem floatOfInt_is (n : Int) : floatOfInt .f64 n = Ieee.double.nearest (decide (n < 0)) n.natAbs 0 := rfl

theorem wholeB_exact (n : Int) (h : n.natAbs.log2 ≤ 52) : WholeB (ofB (floatOfInt .f64 n) : Nat) n := by
  by_cases h0 : n = 0
  · subst h0
    have e : ofB (floatOfInt .f64 0) = 0 := by decide +kernel
    rw [e]
    refine ⟨by decide +kernel, ?_, by decide +kernel, by decide +kernel⟩
    intro s t h
    have h2 : (match FloatKind.f64.decode (ofB ((0 : Nat) : Int).toNat) with | .nan _ _ => true | _ => false) = false := by decide +kernel
    rw [h] at h2
    cases h2
  · have hx := exact_ex (decide (n < 0)) n.natAbs (by omega) h
    rw [floatOfInt_is]
    have ho := ex_nonan hx
    have hb1 : -9007199254740992 ≤ n ∧ n ≤ 9007199254740992 := by
      have g1 : n.natAbs < 2 ^ (n.natAbs.log2 + 1) := Nat.lt_log2_self
      have g2 : (2 : Nat) ^ (n.natAbs.log2 + 1) ≤ 2 ^ 53 := Nat.pow_le_pow_right (by omega) (by omega)
      rw [pow53] at g2
      omega
    have hint : Ieee.Datum.integral .zero (Ieee.double.read (Ieee.double.nearest (decide (n < 0)) n.natAbs 0)) = .number (decide (n < 0)) n.natAbs 0 := by
      rw [hx.rd]
      simp only [Ieee.Datum.integral]
      have ea : ((n.natAbs.log2 : Int) - 52).toNat = 0 := by omega
      have eb : (-((n.natAbs.log2 : Int) - 52)).toNat = 52 - n.natAbs.log2 := by omega
      rw [ea, eb, Nat.shiftLeft_zero, cut_zero_exact]
      have hk2 := kept_ge n.natAbs (by omega) h
      generalize n.natAbs * 2 ^ (52 - n.natAbs.log2) = K at *
      have : 52 ≤ K.log2 := (Nat.le_log2 (by omega)).2 (by rw [pow52]; exact hk2)
      omega
    generalize hX : Ieee.double.nearest (decide (n < 0)) n.natAbs 0 = x at *
    have hoo : ofB (((ofB x : Nat) : Int)).toNat = x := by rw [Int.toNat_natCast, ofB_idem, ho]
    have hdec : FloatKind.f64.decode x = Ieee.double.read x := rfl
    refine ⟨?_, ?_, ?_, ?_⟩
    · rw [hoo]
      unfold floatToIntVal Ieee.Datum.toInt
      rw [hdec, hint]
      simp only
      have es : Ieee.signed (decide (n < 0)) n.natAbs 0 = n := by
        unfold Ieee.signed
        by_cases hn : n < 0
        · simp [hn]; omega
        · simp [hn]; omega
      rw [es, if_pos]
      have e0 : IntKind.i64.min = -9223372036854775808 := rfl
      have e1 : IntKind.i64.max = 9223372036854775807 := rfl
      omega
    · rw [hoo, hdec, hx.rd]
      intro s t h
      cases h
    · rw [hoo]
      have hr := hx.r
      have hrr : rungB (rungB x) = rungB x := by unfold rungB; omega
      rw [absB_is x hx.lt, order_key (rungB x) 4845873199050653696 (by omega) (by decide), hrr]
      have hn : isNeg (rungB x) = false := by rw [isNeg_is _ (by unfold rungB; omega)]; exact decide_eq_false (by unfold rungB; omega)
      have e1 : sgn (isNeg 4845873199050653696) (rungB 4845873199050653696) = 4845873199050653696 := by decide
      rw [hn, e1]
      have e2 : sgn false (rungB x) = rungB x := rfl
      rw [e2, cmp_lt (by omega)]
      rfl
    · rw [hoo]
      have e1 : truncB x = x := by
        unfold truncB
        rw [hdec, hint]
        exact hX
      rw [e1, order_key x x (by have := hx.r; omega) (by have := hx.r; omega), cmp_is_eq]
      simp

end Go.Proofs.YthkedpfbnaeaaabDoor
