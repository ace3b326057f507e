/-
  Negative, Less, ClassOf, Neg BY THEIR CONTRACTS.
-/
import Derived.Test.YthkedpfbnaeaaabDoorValueBase
import Derived.Laws.Bits64
namespace Go.Proofs.YthkedpfbnaeaaabDoor
set_option linter.unusedVariables false
set_option linter.unusedSimpArgs false
open Go.RowKit

/-- Is the sign set? -/
def negB (b : Nat) : Bool := bits .and .u64 (b : Int) 9223372036854775808 != 0
/-- Does x come ahead of y? -/
def lessB (x y : Nat) : Bool :=
  if nanB x then false else if nanB y then true else if FloatKind.f64.format.order x y == some .eq then negB x && !negB y else FloatKind.f64.format.order x y == some .lt

theorem negative_any (n : Int) (w : World) : Calls Tryd.prog 43 #[.int .u64 n] w fun e w' => e = .returned (.bool (negB (ofB n.toNat))) ∧ w = w' := by
  unfold negB
  go_enter Tryd.func43, Tryd.ntmps43
  go_wp2_with fail
  refine (canon_any _ _).mono ?_
  rintro e w1 ⟨rfl, rfl⟩
  go_wp2
  go_ret
  exact ⟨rfl, rfl⟩

theorem less_any (a b : Int) (w : World) : Calls Tryd.prog 27 #[.int .u64 a, .int .u64 b] w fun e w' => e = .returned (.bool (lessB (ofB a.toNat) (ofB b.toNat))) ∧ w = w' := by
  have hf := fun n => float_any n w
  have hna := negative_any a w
  have hnb := negative_any b w
  unfold lessB
  have hx := fun w => isNaN_any (ofB a.toNat) w
  have hy := fun w => isNaN_any (ofB b.toNat) w
  have fa := hf a
  have fb := hf b
  clear hf
  generalize ofB a.toNat = x at *
  generalize ofB b.toNat = y at *
  cases q1 : nanB x with
  | true =>
    have hx' := hx w
    rw [q1] at hx'
    clear hna hnb hy hx
    go_enter Tryd.func27, Tryd.ntmps27
    go_wp2_with fail
    refine fa.mono ?_
    rintro e w1 ⟨rfl, rfl⟩
    go_wp2_with fail
    refine fb.mono ?_
    rintro e w1 ⟨rfl, rfl⟩
    go_wp2_with fail
    refine hx'.mono ?_
    rintro e w1 ⟨rfl, rfl⟩
    clear fa fb hx' q1
    go_wp2
    go_ret
    exact ⟨rfl, rfl⟩
  | false =>
    have hx' := hx w
    rw [q1] at hx'
    cases q2 : nanB y with
    | true =>
      have hy' := hy w
      rw [q2] at hy'
      clear hna hnb hy hx
      go_enter Tryd.func27, Tryd.ntmps27
      go_wp2_with fail
      refine fa.mono ?_
      rintro e w1 ⟨rfl, rfl⟩
      go_wp2_with fail
      refine fb.mono ?_
      rintro e w1 ⟨rfl, rfl⟩
      go_wp2_with fail
      refine hx'.mono ?_
      rintro e w1 ⟨rfl, rfl⟩
      go_wp2_with fail
      refine hy'.mono ?_
      rintro e w1 ⟨rfl, rfl⟩
      clear fa fb hx' hy' q1 q2
      go_wp2
      go_ret
      exact ⟨rfl, rfl⟩
    | false =>
      have hy' := hy w
      rw [q2] at hy'
      clear hy hx
      generalize hord : FloatKind.f64.format.order x y = od at *
      cases q3 : (od == some Ordering.eq) with
      | true =>
        go_enter Tryd.func27, Tryd.ntmps27
        go_wp2_with fail
        refine fa.mono ?_
        rintro e w1 ⟨rfl, rfl⟩
        go_wp2_with fail
        refine fb.mono ?_
        rintro e w1 ⟨rfl, rfl⟩
        go_wp2_with fail
        refine hx'.mono ?_
        rintro e w1 ⟨rfl, rfl⟩
        go_wp2_with fail
        refine hy'.mono ?_
        rintro e w1 ⟨rfl, rfl⟩
        clear fa fb hx' hy' q1 q2
        go_wp2_with fail
        refine hna.mono ?_
        rintro e w1 ⟨rfl, rfl⟩
        clear hna
        cases q4 : negB x with
        | true =>
          go_wp2_with fail
          refine hnb.mono ?_
          rintro e w1 ⟨rfl, rfl⟩
          clear hnb
          go_wp2
          go_ret
          exact ⟨by first | rfl | (rw [q4]; rfl), rfl⟩
        | false =>
          clear hnb
          go_wp2
          go_ret
          exact ⟨by first | rfl | (rw [q4]; rfl), rfl⟩
      | false =>
        clear hna hnb
        go_enter Tryd.func27, Tryd.ntmps27
        go_wp2_with fail
        refine fa.mono ?_
        rintro e w1 ⟨rfl, rfl⟩
        go_wp2_with fail
        refine fb.mono ?_
        rintro e w1 ⟨rfl, rfl⟩
        go_wp2_with fail
        refine hx'.mono ?_
        rintro e w1 ⟨rfl, rfl⟩
        go_wp2_with fail
        refine hy'.mono ?_
        rintro e w1 ⟨rfl, rfl⟩
        clear fa fb hx' hy' q1 q2
        go_wp2
        go_ret
        exact ⟨rfl, rfl⟩

/-- A right value's class, as its number. -/
def classB (x : Nat) : Int :=
  if nanB x then 3 else if (FloatKind.f64.format.order (bits BinOp.andNot IntKind.u64 (x : Int) 9223372036854775808).toNat 9218868437227405311 == some Ordering.gt) then 2 else if (FloatKind.f64.format.order x 0 == some Ordering.eq) then 0 else 1

theorem classB_nan (x : Nat) (h : nanB x = true) : classB x = 3 := by simp [classB, h]
theorem classB_num (x : Nat) (h : nanB x = false) : classB x ≠ 3 := by
  unfold classB; rw [h]; simp only [Bool.false_eq_true, if_false]; split
  · decide
  · split <;> decide

theorem neg_inf (w : World) : Calls Tryd.prog 8 #[.int .u64 9218868437227405312] w fun e w' => e = .returned (.int .u64 18442240474082181120) ∧ w = w' := by
  have hf := float_any 9218868437227405312 w
  rw [show ofB (9218868437227405312 : Int).toNat = 9218868437227405312 by decide +kernel] at hf
  have ho := of_any 18442240474082181120 w
  rw [show ofB 18442240474082181120 = 18442240474082181120 by decide +kernel] at ho
  go_enter Tryd.func8, Tryd.ntmps8
  go_wp2_with fail
  refine hf.mono ?_
  rintro e w1 ⟨rfl, rfl⟩
  clear hf
  have hneg : ∀ w : World, (Op.unary .neg (.float .f64 9218868437227405312)).run Tryd.prog w = .ok (.float .f64 18442240474082181120) w := fun _ => by kernel_rfl
  go_wp2_with fail
  refine ho.mono ?_
  rintro e w1 ⟨rfl, rfl⟩
  go_wp2
  go_ret
  exact ⟨rfl, rfl⟩

theorem neg_same (w : World) : Calls Tryd.prog 8 #[.int .u64 9218868437227405312] w fun e w' => e = .returned (.int .u64 18442240474082181120) ∧ w' = w :=
  (neg_inf w).mono fun _ _ h => ⟨h.1, h.2.symm⟩

/-! ### Plain facts on the order of bits -/
theorem ofB_idem (b : Nat) : ofB (ofB b) = ofB b := by
  unfold ofB
  cases h : nanB b with
  | true => simp only [if_true]; decide +kernel
  | false => simp [h]

theorem cmp_swap (a b : Int) : compare b a = (compare a b).swap := by
  simp only [compare, compareOfLessAndEq]
  rcases Int.lt_trichotomy a b with h | h | h
  · rw [if_neg (by omega), if_neg (by omega), if_pos h]; rfl
  · subst h; simp
  · rw [if_pos h, if_neg (by omega), if_neg (by omega)]; rfl

theorem datum_swap (a b : Ieee.Datum) : b.order a = (a.order b).map Ordering.swap := by
  cases a with
  | nan s t => cases b <;> simp [Ieee.Datum.order]
  | infinity s =>
    cases b with
    | nan _ _ => simp [Ieee.Datum.order]
    | infinity t => cases s <;> cases t <;> rfl
    | number t n j => cases s <;> rfl
  | number s m i =>
    cases b with
    | nan _ _ => simp [Ieee.Datum.order]
    | infinity t => cases t <;> rfl
    | number t n j =>
      simp only [Ieee.Datum.order, Option.map_some, Option.some.injEq]
      rw [Int.min_comm j i]
      exact cmp_swap _ _

theorem order_swap (x y : Nat) : FloatKind.f64.format.order y x = (FloatKind.f64.format.order x y).map Ordering.swap := datum_swap _ _

theorem less_asym (x y : Nat) (h : lessB x y = true) : lessB y x = false := by
  unfold lessB at h ⊢
  rw [order_swap x y]
  cases hx : nanB x with
  | true => simp [hx] at h
  | false =>
    cases hy : nanB y with
    | true => simp
    | false =>
      simp only [hx, hy] at h ⊢
      cases ho : FloatKind.f64.format.order x y with
      | none => rw [ho] at h; simp at h
      | some o =>
        rw [ho] at h
        cases o with
        | lt => rfl
        | gt => simp at h
        | eq =>
          simp at h
          simp [h.1, h.2]

/-- Whatever is a number comes ahead of what is none. -/
theorem less_nan (x y : Nat) (hx : nanB x = false) (hy : nanB y = true) : lessB x y = true := by simp [lessB, hx, hy]

theorem read_inf (x : Nat) (hlt : x < 18446744073709551616) (h : Ieee.double.read x = .infinity true) : x = 18442240474082181120 := by
  unfold Ieee.Format.read at h
  simp only at h
  split at h
  · cases h
  · split at h
    · cases h
    · split at h
      · rename_i h3
        have e1 : Ieee.double.signWeight = 9223372036854775808 := by decide +kernel
        have e2 : Ieee.double.infRung = 9218868437227405312 := by decide +kernel
        rw [e1, e2] at h3
        rw [e1] at h
        simp only [Ieee.Datum.infinity.injEq, beq_iff_eq] at h
        omega
      · cases h

/-- The infinite one below 0 comes ahead of all others. -/
theorem inf_first (x : Nat) (hlt : x < 18446744073709551616) (hne : x ≠ 18442240474082181120) : lessB 18442240474082181120 x = true := by
  unfold lessB
  rw [show nanB 18442240474082181120 = false by decide +kernel]
  cases hx : nanB x with
  | true => simp
  | false =>
    have hr : FloatKind.f64.format.read 18442240474082181120 = .infinity true := by decide +kernel
    have ho : FloatKind.f64.format.order 18442240474082181120 x = some .lt := by
      unfold Ieee.Format.order
      rw [hr]
      have hx' : nanB x = false := hx
      unfold nanB Ieee.Format.order at hx'
      cases hd : FloatKind.f64.format.read x with
      | nan s t => rw [hd] at hx'; simp [Ieee.Datum.order] at hx'
      | number s m i => rfl
      | infinity s =>
        cases s with
        | false => rfl
        | true => exact absurd (read_inf x hlt hd) hne
    rw [ho]
    rfl

theorem zero_first : lessB 9223372036854775808 0 = true := by decide +kernel

theorem ofB_lt (b : Nat) (h : b < 18446744073709551616) : ofB b < 18446744073709551616 := by
  unfold ofB; split <;> omega

end Go.Proofs.YthkedpfbnaeaaabDoor
