/-
  Whole AND Int OF BOTH SIDES, of every value and number.
-/
import Derived.Test.YthkedpfbnaeaaabDoorValueExact
import Derived.Test.YthkedpfbnaeaaabDoorValueNo
import Derived.Test.YthkedpfbnaeaaabDoorValueRefs
namespace Go.Proofs.YthkedpfbnaeaaabDoor
set_option linter.unusedVariables false
set_option linter.unusedSimpArgs false
open Go.RowKit

theorem cut_zero_le (s : Bool) (n d : Nat) : Ieee.Toward.zero.cut s n d * 2 ^ d ≤ n := by
  unfold Ieee.Toward.cut
  simp only [Nat.shiftLeft_eq, Nat.one_mul, Bool.toNat_false, Nat.add_zero]
  by_cases h : d ≤ n.log2 + 2
  · rw [Nat.min_eq_left h]
    exact Nat.div_mul_le_self _ _
  · rw [Nat.min_eq_right (by omega)]
    have : n / 2 ^ (n.log2 + 2) = 0 := by
      apply Nat.div_eq_of_lt
      have h1 : n < 2 ^ (n.log2 + 1) := Nat.lt_log2_self
      have h2 : (2 : Nat) ^ (n.log2 + 1) ≤ 2 ^ (n.log2 + 2) := Nat.pow_le_pow_right (by omega) (by omega)
      omega
    rw [this]
    omega

theorem magB_le {r s : Nat} (h : r ≤ s) : magB r ≤ magB s := by
  rcases Nat.lt_or_ge r s with h1 | h1
  · exact Nat.le_of_lt (magB_mono h1)
  · obtain rfl : r = s := by omega
    exact Nat.le_refl _

theorem mag_53 : magB 4845873199050653696 = 9007199254740992 * 2 ^ 1074 := by decide +kernel

/-- What int makes of a float that is not too far from 0. -/
theorem toInt_near (x : Nat) (h : rungB x ≤ 4845873199050653696) : ∃ (s : Bool) (c : Nat), c ≤ 9007199254740992 ∧ FloatKind.f64.decode x = Ieee.double.read x ∧ (Ieee.double.read x).integral .zero = .number s c 0 ∧ (∀ a b, Ieee.double.read x ≠ .nan a b) := by
  rcases read_is x with ⟨h1, m, a, e1, g1⟩ | ⟨h1, _⟩ | ⟨h1, _⟩
  · have e4 : Ieee.double.leastPlace = -1074 := by decide +kernel
    rw [e4] at e1
    refine ⟨isNeg x, Ieee.Toward.zero.cut (isNeg x) (m <<< ((-1074 : Int) + a).toNat) (-((-1074 : Int) + a)).toNat, ?_, rfl, by rw [e1]; rfl, by rw [e1]; intro a b h; cases h⟩
    have hc := cut_zero_le (isNeg x) (m <<< ((-1074 : Int) + a).toNat) (-((-1074 : Int) + a)).toNat
    rw [Nat.shiftLeft_eq] at hc ⊢
    generalize Ieee.Toward.zero.cut (isNeg x) (m * 2 ^ ((-1074 : Int) + a).toNat) (-((-1074 : Int) + a)).toNat = c at *
    have hm : m * 2 ^ a ≤ 9007199254740992 * 2 ^ 1074 := by rw [g1, ← mag_53]; exact magB_le h
    have hk : c * 2 ^ 1074 ≤ m * 2 ^ a := by
      rcases Nat.lt_or_ge a 1074 with ha | ha
      · have ea : ((-1074 : Int) + a).toNat = 0 := by omega
        have eb : (-((-1074 : Int) + a)).toNat = 1074 - a := by omega
        rw [ea, eb] at hc
        have e5 : (2 : Nat) ^ 1074 = 2 ^ (1074 - a) * 2 ^ a := by
          have e6 := Nat.pow_add 2 (1074 - a) a
          rw [Nat.sub_add_cancel (Nat.le_of_lt ha)] at e6
          exact e6
        rw [e5, ← Nat.mul_assoc]
        have : c * 2 ^ (1074 - a) ≤ m := by simpa using hc
        exact Nat.mul_le_mul_right _ this
      · have ea : ((-1074 : Int) + a).toNat = a - 1074 := by omega
        have eb : (-((-1074 : Int) + a)).toNat = 0 := by omega
        rw [ea, eb] at hc
        have e5 : (2 : Nat) ^ a = 2 ^ (a - 1074) * 2 ^ 1074 := by
          have e6 := Nat.pow_add 2 (a - 1074) 1074
          rw [Nat.sub_add_cancel ha] at e6
          exact e6
        rw [e5, ← Nat.mul_assoc]
        have : c ≤ m * 2 ^ (a - 1074) := by simpa using hc
        exact Nat.mul_le_mul_right _ this
    exact Nat.le_of_mul_le_mul_right (Nat.le_trans hk hm) (Nat.two_pow_pos 1074)
  · omega
  · omega

/-- Both ways to tell whether a float is whole. -/
theorem whole_both (x : Nat) (hx : x < 18446744073709551616) (h : rungB x ≤ 4845873199050653696) : ∃ n : Int, floatToIntVal .f64 x .i64 = some n ∧ (FloatKind.f64.format.order (floatOfInt .f64 n) x == some Ordering.eq) = (FloatKind.f64.format.order (truncB x) x == some Ordering.eq) := by
  obtain ⟨s, c, hc, hd, hi, _⟩ := toInt_near x h
  have es : Ieee.signed s c 0 = sgn s c := by rw [signed_sgn]; simp
  refine ⟨sgn s c, ?_, ?_⟩
  · unfold floatToIntVal Ieee.Datum.toInt
    rw [hd, hi]
    simp only [es]
    rw [if_pos]
    have e0 : IntKind.i64.min = -9223372036854775808 := rfl
    have e1 : IntKind.i64.max = 9223372036854775807 := rfl
    rw [e0, e1]
    unfold sgn
    split <;> omega
  · have et : truncB x = Ieee.double.nearest s c 0 := by
      unfold truncB
      rw [hd, hi]
      rfl
    rw [et, floatOfInt_is]
    by_cases h0 : c = 0
    · subst h0
      have e1 : sgn s 0 = 0 := by cases s <;> rfl
      rw [e1]
      have e2 : Ieee.double.nearest s 0 0 = Ieee.double.word s 0 := by unfold Ieee.Format.nearest; rw [if_pos rfl]
      have e3 : Ieee.double.nearest (decide ((0 : Int) < 0)) (Int.natAbs 0) 0 = Ieee.double.word false 0 := by unfold Ieee.Format.nearest; rw [if_pos (show Int.natAbs 0 = 0 from rfl)]; rfl
      rw [e2, e3]
      obtain ⟨a1, a2, a3⟩ := word_is s 0 (by omega)
      obtain ⟨b1, b2, b3⟩ := word_is false 0 (by omega)
      rw [order_key _ x (by rw [b3]; omega) (by omega), order_key _ x (by rw [a3]; omega) (by omega), a2, a3, b2, b3]
      cases s <;> rfl
    · have e1 : decide (sgn s c < 0) = s := by
        unfold sgn
        cases s
        · simp
        · simp; omega
      have e2 : (sgn s c).natAbs = c := by
        unfold sgn
        cases s <;> simp
      rw [e1, e2]

/-- Not too far from 0, on both sides. -/
theorem near_code (x : Nat) (h : Rt x) : (FloatKind.f64.format.order (absB x) 4845873199050653696 == some Ordering.lt || FloatKind.f64.format.order (absB x) 4845873199050653696 == some Ordering.eq) = decide (rungB x ≤ 4845873199050653696) := by
  rw [absB_is x h.lt]
  have hrl : rungB x < 9223372036854775808 := by unfold rungB; omega
  have hrr : rungB (rungB x) = rungB x := by unfold rungB; omega
  rcases h.r with h1 | h1
  · rw [order_key (rungB x) 4845873199050653696 (by omega) (by decide), cmp_is_lt, cmp_is_eq, hrr]
    have hn : isNeg (rungB x) = false := by rw [isNeg_is _ (by omega)]; exact decide_eq_false (by omega)
    have e1 : sgn (isNeg 4845873199050653696) (rungB 4845873199050653696) = 4845873199050653696 := by decide
    rw [hn, e1]
    have e2 : sgn false (rungB x) = rungB x := rfl
    rw [e2, ← Bool.decide_or]
    congr 1
    apply propext
    omega
  · subst h1; decide +kernel

theorem near_ref (x : Nat) (h : Rt x) : ((FloatKind.f64.format.order x 14069245235905429504 == some Ordering.gt || FloatKind.f64.format.order x 14069245235905429504 == some Ordering.eq) && (FloatKind.f64.format.order x 4845873199050653696 == some Ordering.lt || FloatKind.f64.format.order x 4845873199050653696 == some Ordering.eq)) = decide (rungB x ≤ 4845873199050653696) := by
  rcases h.r with h1 | h1
  · rw [order_key x 4845873199050653696 h1 (by decide), order_key x 14069245235905429504 h1 (by decide), cmp_is_lt, cmp_is_eq, cmp_is_gt, cmp_is_eq]
    have e1 : sgn (isNeg 4845873199050653696) (rungB 4845873199050653696) = 4845873199050653696 := by decide
    have e2 : sgn (isNeg 14069245235905429504) (rungB 14069245235905429504) = -4845873199050653696 := by decide
    rw [e1, e2, ← Bool.decide_or, ← Bool.decide_or, ← Bool.decide_and]
    congr 1
    apply propext
    unfold sgn
    cases isNeg x <;> simp only [Bool.false_eq_true, if_false, if_true] <;> omega
  · subst h1; decide +kernel

set_option maxRecDepth 100000 in
theorem whole1_far (p : Nat) (n : Int) (hn : Wf64 n) (h : ¬ rungB (ofB n.toNat) ≤ 4845873199050653696) (w : World) (hc : w.cell? ⟨p, 0, none⟩ = some (.int .u64 n)) :
    Calls Tryd.prog 23 #[.pointer (some ⟨p, 0, none⟩)] w (GivesUp w) := by
  have hA := near_code _ hn.rt
  rw [decide_eq_false h] at hA
  clear h
  have hf := float_any n w
  generalize ofB n.toNat = x at *
  clear hn
  go_enter Tryd.func23, Tryd.ntmps23
  go_wp2_with fail
  refine hf.mono ?_
  rintro e w1 ⟨rfl, rfl⟩
  go_wp2_with fail
  refine (abs_any x w).mono ?_
  rintro e w1 ⟨rfl, rfl⟩
  go_wp2_with fail
  refine (need_no w).mono ?_
  rintro e w1 ⟨rfl, t1⟩
  exact ⟨rfl, rfl, t1⟩

set_option maxRecDepth 100000 in
theorem whole1_part (p : Nat) (n : Int) (hn : Wf64 n) (h : rungB (ofB n.toNat) ≤ 4845873199050653696) (hT : (FloatKind.f64.format.order (truncB (ofB n.toNat)) (ofB n.toNat) == some Ordering.eq) = false) (w : World) (hc : w.cell? ⟨p, 0, none⟩ = some (.int .u64 n)) :
    Calls Tryd.prog 23 #[.pointer (some ⟨p, 0, none⟩)] w (GivesUp w) := by
  have hA := near_code _ hn.rt
  rw [decide_eq_true h] at hA
  obtain ⟨_, _, _, hd, _, hx⟩ := toInt_near _ h
  rw [← hd] at hx
  clear h hd
  have hf := float_any n w
  generalize ofB n.toNat = x at *
  clear hn
  go_enter Tryd.func23, Tryd.ntmps23
  go_wp2_with fail
  refine hf.mono ?_
  rintro e w1 ⟨rfl, rfl⟩
  go_wp2_with fail
  refine (abs_any x w).mono ?_
  rintro e w1 ⟨rfl, rfl⟩
  go_wp2_with fail
  refine (trunc_any x hx w).mono ?_
  rintro e w1 ⟨rfl, rfl⟩
  go_wp2_with fail
  refine (need_no w).mono ?_
  rintro e w1 ⟨rfl, t1⟩
  exact ⟨rfl, rfl, t1⟩

theorem whole_no (n : Int) (h : ∀ p w, World.cell? w ⟨p, 0, none⟩ = some (.int .u64 n) → Calls Tryd.prog 23 #[.pointer (some ⟨p, 0, none⟩)] w (GivesUp w)) (w : World) :
    Calls Tryd.prog 6 #[.int .u64 n] w fun e w' => e = .returned (.tuple #[.int .i64 0, .bool false]) ∧ Touch w w' [] := by
  have hmf : ∀ (fn : Fn) (first cap : Array Value) (w : World), (Instr.makeFunc fn first cap).run Tryd.prog w = .ok (.func fn first cap) w := fun _ _ _ _ => rfl
  have hc := triedI_no 23 #[.pointer (some ⟨w.heap.size, 0, none⟩)] (w.alloc (.cells #[.int .u64 n] 23)) (enter_of Tryd.func23 (by kernel_rfl) (by kernel_rfl))
    (fun w1 t => h w.heap.size w1 ((t.cell (p := ⟨w.heap.size, 0, none⟩) (by simp) (by simp)).trans (by simp [go_sem])))
  clear h
  go_enter Tryd.func6, Tryd.ntmps6
  go_wp2_with fail
  refine hc.mono ?_
  rintro e w1 ⟨rfl, t1⟩
  clear hc
  go_wp2
  go_ret2
  exact ⟨rfl, ((Touch.refl w []).alloc _).trans t1 (by simp)⟩

/-- What Whole tells. -/
def wholeV (x : Nat) : Int × Bool := match floatToIntVal .f64 x .i64 with
  | some n => if rungB x ≤ 4845873199050653696 ∧ (FloatKind.f64.format.order (truncB x) x == some Ordering.eq) = true then (n, true) else (0, false)
  | none => (0, false)
def pairV (r : Int × Bool) : Value := .tuple #[.int .i64 r.1, .bool r.2]

theorem wholeV_far (x : Nat) (h : ¬ rungB x ≤ 4845873199050653696) : wholeV x = (0, false) := by
  unfold wholeV
  split
  · rw [if_neg (fun k => h k.1)]
  · rfl

theorem whole_any (n : Int) (hn : Wf64 n) (w : World) : Calls Tryd.prog 6 #[.int .u64 n] w fun e w' => e = .returned (pairV (wholeV (ofB n.toNat))) ∧ Touch w w' [] := by
  by_cases h : rungB (ofB n.toNat) ≤ 4845873199050653696
  · obtain ⟨i, hi, _⟩ := whole_both _ hn.rt.lt h
    by_cases hT : (FloatKind.f64.format.order (truncB (ofB n.toNat)) (ofB n.toNat) == some Ordering.eq) = true
    · have e : wholeV (ofB n.toNat) = (i, true) := by unfold wholeV; rw [hi]; simp only; rw [if_pos ⟨h, hT⟩]
      rw [e]
      obtain ⟨_, _, _, hd, _, hx⟩ := toInt_near _ h
      rw [← hd] at hx
      have hA := near_code _ hn.rt
      rw [decide_eq_true h] at hA
      exact whole_ok n i ⟨hi, hx, hA, hT⟩ w
    · have e : wholeV (ofB n.toNat) = (0, false) := by unfold wholeV; rw [hi]; simp only; rw [if_neg (fun k => hT k.2)]
      rw [e]
      have hT' : (FloatKind.f64.format.order (truncB (ofB n.toNat)) (ofB n.toNat) == some Ordering.eq) = false := by simpa using hT
      exact whole_no n (fun p w hc => whole1_part p n hn h hT' w hc) w
  · rw [wholeV_far _ h]
    exact whole_no n (fun p w hc => whole1_far p n hn h w hc) w

set_option maxRecDepth 100000 in
theorem rwhole_any (n : Int) (hn : Wf64 n) (w : World) : Calls Tryd.prog 13 #[.int .u64 n] w fun e w' => e = .returned (pairV (wholeV (ofB n.toNat))) ∧ w = w' := by
  have hf := rfloat_any n hn w
  have hR := near_ref _ hn.rt
  by_cases h : rungB (ofB n.toNat) ≤ 4845873199050653696
  · rw [decide_eq_true h, Bool.and_eq_true] at hR
    obtain ⟨hR1, hR2⟩ := hR
    obtain ⟨i, hi, hb⟩ := whole_both _ hn.rt.lt h
    have hcv : ∀ w : World, (convert 40 3 (.float .f64 (ofB n.toNat))).run Tryd.prog w = .ok (.int .i64 i) w := fun w => run_convert_float_int w _ _ _ _ _ _ (by rw [Tryd.underlying40]; rfl) Tryd.underlying3 hi
    unfold wholeV pairV
    rw [hi]
    simp only
    generalize hq : (FloatKind.f64.format.order (truncB (ofB n.toNat)) (ofB n.toNat) == some Ordering.eq) = q at *
    have hb' : (FloatKind.f64.format.order (floatOfInt .f64 i) (ofB n.toNat) != some Ordering.eq) = !q := by rw [← hb]; rfl
    cases q with
    | true =>
      rw [if_pos ⟨h, rfl⟩]
      generalize ofB n.toNat = x at *
      clear hn h hi hq
      go_enter Tryd.func13, Tryd.ntmps13
      go_wp2_with fail
      refine hf.mono ?_
      rintro e w1 ⟨rfl, rfl⟩
      clear hf
      go_wp2
      go_ret2
      exact ⟨rfl, rfl⟩
    | false =>
      rw [if_neg (fun k => by cases k.2)]
      generalize ofB n.toNat = x at *
      clear hn h hi hq
      go_enter Tryd.func13, Tryd.ntmps13
      go_wp2_with fail
      refine hf.mono ?_
      rintro e w1 ⟨rfl, rfl⟩
      clear hf
      go_wp2
      go_ret2
      exact ⟨rfl, rfl⟩
  · rw [wholeV_far _ h]
    rw [decide_eq_false h] at hR
    generalize ofB n.toNat = x at *
    clear hn h
    unfold pairV
    cases hR1 : (FloatKind.f64.format.order x 14069245235905429504 == some Ordering.gt || FloatKind.f64.format.order x 14069245235905429504 == some Ordering.eq) with
    | false =>
      clear hR
      go_enter Tryd.func13, Tryd.ntmps13
      go_wp2_with fail
      refine hf.mono ?_
      rintro e w1 ⟨rfl, rfl⟩
      clear hf
      go_wp2
      go_ret2
      exact ⟨rfl, rfl⟩
    | true =>
      rw [hR1, Bool.true_and] at hR
      go_enter Tryd.func13, Tryd.ntmps13
      go_wp2_with fail
      refine hf.mono ?_
      rintro e w1 ⟨rfl, rfl⟩
      clear hf
      go_wp2
      go_ret2
      exact ⟨rfl, rfl⟩

theorem rint_ok (n : Int) (h0 : -9007199254740992 ≤ n) (h1 : n ≤ 9007199254740992) (w : World) :
    Calls Tryd.prog 12 #[.int .i64 n] w fun e w' => e = .returned (.tuple #[.int .u64 (ofB (floatOfInt .f64 n)), .bool true]) ∧ w = w' := by
  have h0' : decide (n < -9007199254740992) = false := decide_eq_false (by omega)
  have h1' : decide (9007199254740992 < n) = false := decide_eq_false (by omega)
  go_enter Tryd.func12, Tryd.ntmps12
  go_wp2_with fail
  refine (rof_any _ w).mono ?_
  rintro e w1 ⟨rfl, rfl⟩
  go_wp2
  go_ret2
  exact ⟨rfl, rfl⟩

theorem rint_no (n : Int) (h : ¬ (-9007199254740992 ≤ n ∧ n ≤ 9007199254740992)) (w : World) :
    Calls Tryd.prog 12 #[.int .i64 n] w fun e w' => e = .returned (.tuple #[.int .u64 0, .bool false]) ∧ w = w' := by
  by_cases h0 : n < -9007199254740992
  · clear h
    go_enter Tryd.func12, Tryd.ntmps12
    go_wp2
    go_ret2
    exact ⟨rfl, rfl⟩
  · have h0' : decide (n < -9007199254740992) = false := decide_eq_false h0
    have h1 : 9007199254740992 < n := by omega
    clear h
    go_enter Tryd.func12, Tryd.ntmps12
    go_wp2
    go_ret2
    exact ⟨rfl, rfl⟩

end Go.Proofs.YthkedpfbnaeaaabDoor
