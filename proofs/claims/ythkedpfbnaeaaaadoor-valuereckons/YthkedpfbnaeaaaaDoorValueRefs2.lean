/-
  CLASSES, SIGNS AND ORDER OF VALUES, of both sides, BY THEIR CONTRACTS.
-/
import Derived.Test.YthkedpfbnaeaaaaDoorValueRefs
namespace Go.Proofs.YthkedpfbnaeaaaaDoor
set_option linter.unusedVariables false
set_option linter.unusedSimpArgs false
open Go.RowKit

theorem rclass_any (n : Int) (h : Wf64 n) (w : World) : Calls Tryd.prog 17 #[.int .u64 n] w fun e w' => e = .returned (.int .u8 (classB (ofB n.toNat))) ∧ w = w' := by
  rw [← refClass_eq h.rt]
  have hf := rfloat_any n h w
  generalize ofB n.toNat = x at *
  clear h
  unfold refClass nanB
  generalize hq : (FloatKind.f64.format.order x x == some Ordering.eq) = q
  have hq' : (FloatKind.f64.format.order x x != some Ordering.eq) = !q := by rw [← hq]; rfl
  rw [hq']
  generalize hc1 : (FloatKind.f64.format.order x 0 == some Ordering.eq) = c1
  generalize hc2 : (FloatKind.f64.format.order x 9218868437227405311 == some Ordering.gt) = c2
  generalize hc3 : (FloatKind.f64.format.order x 18442240474082181119 == some Ordering.lt) = c3
  cases q <;> cases c1 <;> cases c2 <;> cases c3
  all_goals
    go_enter Tryd.func17, Tryd.ntmps17
    go_wp2_with fail
    refine hf.mono ?_
    rintro e w1 ⟨rfl, rfl⟩
    clear hf
    go_wp2
    go_ret
    exact ⟨by simp, rfl⟩

theorem class_any (n : Int) (w : World) : Calls Tryd.prog 16 #[.int .u64 n] w fun e w' => e = .returned (.int .u8 (classB (ofB n.toNat))) ∧ w = w' :=
  (classOf_is n w).mono fun _ _ h => ⟨h.1, h.2.symm⟩

theorem classB_3 (x : Nat) : (classB x == 3) = nanB x := by
  cases h : nanB x with
  | true => rw [classB_nan x h]; rfl
  | false => simpa using classB_num x h

theorem negB_ofB {n : Int} (h : Wf64 n) : negB (ofB n.toNat) = (!(classB (ofB n.toNat) == 3) && decide (9223372036854775808 ≤ n)) := by
  rw [classB_3, negB_is _ h.rt.lt, h.rt.nan]
  unfold Wf64 at h
  rcases ofB_cases n.toNat (by omega) with ⟨h1, e⟩ | ⟨h1, e⟩
  · rw [e]
    have hne : ¬ n.toNat = 9221120237041090560 := by
      intro e2
      rw [e2] at h1
      revert h1
      decide
    rw [decide_eq_false hne]
    simp only [Bool.not_false, Bool.true_and]
    congr 1
    apply propext
    omega
  · rw [e]; simp

theorem rnegative_any (n : Int) (h : Wf64 n) (w : World) : Calls Tryd.prog 19 #[.int .u64 n] w fun e w' => e = .returned (.bool (negB (ofB n.toNat))) ∧ w = w' := by
  rw [negB_ofB h]
  have hc := rclass_any n h w
  generalize classB (ofB n.toNat) = c at *
  generalize hq : (c == 3) = q
  have hq' : (c != 3) = !q := by rw [← hq]; rfl
  clear h
  cases q
  all_goals
    go_enter Tryd.func19, Tryd.ntmps19
    go_wp2_with fail
    refine hc.mono ?_
    rintro e w1 ⟨rfl, rfl⟩
    clear hc
    go_wp2
    go_ret
    exact ⟨by simp, rfl⟩

/-- The other sign. -/
def negV (x : Nat) : Int := if classB x == 3 then 9221120237041090560 else if negB x then (x : Int) - 9223372036854775808 else (x : Int) + 9223372036854775808

theorem negV_is {x : Nat} (h : Rt x) : ((ofB (Op.negFloat .f64 x) : Nat) : Int) = negV x := by
  unfold negV
  rw [neg_of h, classB_3, h.nan, negB_is x h.lt]
  have := h.lt
  by_cases h1 : x = 9221120237041090560
  · simp [h1]
  · by_cases h2 : 9223372036854775808 ≤ x
    · simp only [h1, h2, if_false, if_true, decide_false, decide_true, Bool.false_eq_true]; omega
    · simp only [h1, h2, if_false, decide_false, Bool.false_eq_true]; omega

theorem neg_any (n : Int) (h : Wf64 n) (w : World) : Calls Tryd.prog 30 #[.int .u64 n] w fun e w' => e = .returned (.int .u64 (negV (ofB n.toNat))) ∧ w = w' := by
  rw [← negV_is h.rt]
  have hf := float_any n w
  generalize ofB n.toNat = x at *
  have ho := of_any (Op.negFloat .f64 x) w
  have hneg : ∀ w : World, (Op.unary .neg (.float .f64 x)).run Tryd.prog w = .ok (.float .f64 (Op.negFloat .f64 x)) w := fun _ => rfl
  generalize Op.negFloat .f64 x = y at *
  clear h
  go_enter Tryd.func30, Tryd.ntmps30
  go_wp2_with fail
  refine hf.mono ?_
  rintro e w1 ⟨rfl, rfl⟩
  clear hf
  go_wp2_with fail
  refine ho.mono ?_
  rintro e w1 ⟨rfl, rfl⟩
  go_wp2
  go_ret
  exact ⟨by simp, rfl⟩

theorem rneg_any (n : Int) (h : Wf64 n) (w : World) : Calls Tryd.prog 31 #[.int .u64 n] w fun e w' => e = .returned (.int .u64 (negV (ofB n.toNat))) ∧ w = w' := by
  have hc := rclass_any n h w
  have hn := rnegative_any n h w
  have hw : Wf64 n := h
  unfold negV
  unfold Wf64 at h
  cases hq : (classB (ofB n.toNat) == 3) with
  | true =>
    have e : classB (ofB n.toNat) = 3 := by simpa using hq
    rw [e] at hc
    clear hq e hn hw
    go_enter Tryd.func31, Tryd.ntmps31
    go_wp2_with fail
    refine hc.mono ?_
    rintro e w1 ⟨rfl, rfl⟩
    clear hc
    go_wp2
    go_ret
    exact ⟨by simp, rfl⟩
  | false =>
    have hnan : nanB (ofB n.toNat) = false := by rw [← classB_3]; exact hq
    have hx : ofB n.toNat = n.toNat := by
      rcases ofB_cases n.toNat (by omega) with ⟨_, e⟩ | ⟨_, e⟩
      · exact e
      · have h3 : nanB 9221120237041090560 = true := by decide +kernel
        rw [e, h3] at hnan
        cases hnan
    have hxi : ((ofB n.toNat : Nat) : Int) = n := by rw [hx]; omega
    rw [hxi]
    have hb := negB_is (ofB n.toNat) hw.rt.lt
    have hbd : (9223372036854775808 ≤ ofB n.toNat) ↔ 9223372036854775808 ≤ n := by rw [hx]; omega
    generalize hg : classB (ofB n.toNat) = c at *
    generalize negB (ofB n.toNat) = g at *
    clear hg hx hxi hnan hw
    cases g with
    | true =>
      have h9 : 9223372036854775808 ≤ n := hbd.1 (of_decide_eq_true hb.symm)
      clear hb hbd
      go_enter Tryd.func31, Tryd.ntmps31
      go_wp2_with fail
      refine hc.mono ?_
      rintro e w1 ⟨rfl, rfl⟩
      clear hc
      go_wp2_with fail
      refine hn.mono ?_
      rintro e w1 ⟨rfl, rfl⟩
      clear hn
      go_wp2
      go_ret
      exact ⟨by simp, rfl⟩
    | false =>
      have h9 : ¬ 9223372036854775808 ≤ n := fun k => of_decide_eq_false hb.symm (hbd.2 k)
      clear hb hbd
      go_enter Tryd.func31, Tryd.ntmps31
      go_wp2_with fail
      refine hc.mono ?_
      rintro e w1 ⟨rfl, rfl⟩
      clear hc
      go_wp2_with fail
      refine hn.mono ?_
      rintro e w1 ⟨rfl, rfl⟩
      clear hn
      go_wp2
      go_ret
      exact ⟨by simp, rfl⟩

/-- Without its sign. -/
def absV (x : Nat) : Int := if negB x then negV x else x
theorem absV_is {x : Nat} (h : Rt x) : ((ofB (absB x) : Nat) : Int) = absV x := by
  unfold absV negV
  rw [abs_of h, classB_3, h.nan, negB_is x h.lt, rungB_is x h.lt]
  have := h.lt
  by_cases h1 : x = 9221120237041090560
  · simp [h1]
  · by_cases h2 : 9223372036854775808 ≤ x
    · simp only [h1, h2, if_false, if_true, decide_false, decide_true, Bool.false_eq_true]; omega
    · simp only [h1, h2, if_false, decide_false, Bool.false_eq_true]

theorem vabs_any (n : Int) (h : Wf64 n) (w : World) : Calls Tryd.prog 32 #[.int .u64 n] w fun e w' => e = .returned (.int .u64 (absV (ofB n.toNat))) ∧ w = w' := by
  rw [← absV_is h.rt]
  have hf := float_any n w
  generalize ofB n.toNat = x at *
  have ha := abs_any x w
  have ho := of_any (absB x) w
  generalize absB x = y at *
  clear h
  go_enter Tryd.func32, Tryd.ntmps32
  go_wp2_with fail
  refine hf.mono ?_
  rintro e w1 ⟨rfl, rfl⟩
  clear hf
  go_wp2_with fail
  refine ha.mono ?_
  rintro e w1 ⟨rfl, rfl⟩
  clear ha
  go_wp2_with fail
  refine ho.mono ?_
  rintro e w1 ⟨rfl, rfl⟩
  clear ho
  go_wp2
  go_ret
  exact ⟨by simp, rfl⟩

theorem rabs_any (n : Int) (h : Wf64 n) (w : World) : Calls Tryd.prog 33 #[.int .u64 n] w fun e w' => e = .returned (.int .u64 (absV (ofB n.toNat))) ∧ w = w' := by
  have hn := rnegative_any n h w
  have hg := rneg_any n h w
  have hc := rcanon_any n h w
  unfold absV
  generalize negV (ofB n.toNat) = v at *
  generalize negB (ofB n.toNat) = q at *
  generalize ofB n.toNat = x at *
  clear h
  cases q with
  | true =>
    go_enter Tryd.func33, Tryd.ntmps33
    go_wp2_with fail
    refine hn.mono ?_
    rintro e w1 ⟨rfl, rfl⟩
    go_wp2_with fail
    refine hg.mono ?_
    rintro e w1 ⟨rfl, rfl⟩
    clear hn hg hc
    go_wp2
    go_ret
    exact ⟨by simp, rfl⟩
  | false =>
    go_enter Tryd.func33, Tryd.ntmps33
    go_wp2_with fail
    refine hn.mono ?_
    rintro e w1 ⟨rfl, rfl⟩
    go_wp2_with fail
    refine hc.mono ?_
    rintro e w1 ⟨rfl, rfl⟩
    clear hn hg hc
    go_wp2
    go_ret
    exact ⟨by simp, rfl⟩

theorem rless_any (a b : Int) (ha : Wf64 a) (hb : Wf64 b) (w : World) : Calls Tryd.prog 39 #[.int .u64 a, .int .u64 b] w fun e w' => e = .returned (.bool (lessB (ofB a.toNat) (ofB b.toNat))) ∧ w = w' := by
  rw [← refLess_eq ha.rt hb.rt]
  have ca := rcanon_any a ha w
  have cb := rcanon_any b hb w
  have fa := rfloat_any _ (wf_ofB ha) w
  have fb := rfloat_any _ (wf_ofB hb) w
  rw [ofB_ofB] at fa fb
  generalize ofB a.toNat = x at *
  generalize ofB b.toNat = y at *
  unfold refLess
  clear ha hb
  by_cases h1 : x = 9221120237041090560
  · subst h1
    clear fa fb
    go_enter Tryd.func39, Tryd.ntmps39
    go_wp2_with fail
    refine ca.mono ?_
    rintro e w1 ⟨rfl, rfl⟩
    go_wp2_with fail
    refine cb.mono ?_
    rintro e w1 ⟨rfl, rfl⟩
    clear ca cb
    go_wp2
    go_ret
    exact ⟨by simp, rfl⟩
  · have h1' : ¬ (x : Int) = 9221120237041090560 := by omega
    rw [if_neg h1]
    by_cases h2 : y = 9221120237041090560
    · subst h2
      clear fa fb
      go_enter Tryd.func39, Tryd.ntmps39
      go_wp2_with fail
      refine ca.mono ?_
      rintro e w1 ⟨rfl, rfl⟩
      go_wp2_with fail
      refine cb.mono ?_
      rintro e w1 ⟨rfl, rfl⟩
      clear ca cb
      go_wp2
      go_ret
      exact ⟨by simp, rfl⟩
    · have h2' : ¬ (y : Int) = 9221120237041090560 := by omega
      rw [if_neg h2]
      by_cases h3 : x = 9223372036854775808
      · subst h3
        by_cases h4 : y = 0
        · subst h4
          rw [if_pos ⟨rfl, rfl⟩]
          clear fa fb
          go_enter Tryd.func39, Tryd.ntmps39
          go_wp2_with fail
          refine ca.mono ?_
          rintro e w1 ⟨rfl, rfl⟩
          go_wp2_with fail
          refine cb.mono ?_
          rintro e w1 ⟨rfl, rfl⟩
          clear ca cb
          go_wp2
          go_ret
          exact ⟨by simp, rfl⟩
        · have h4' : ¬ (y : Int) = 0 := by omega
          rw [if_neg (fun k => h4 k.2)]
          go_enter Tryd.func39, Tryd.ntmps39
          go_wp2_with fail
          refine ca.mono ?_
          rintro e w1 ⟨rfl, rfl⟩
          go_wp2_with fail
          refine cb.mono ?_
          rintro e w1 ⟨rfl, rfl⟩
          clear ca cb
          go_wp2_with fail
          refine fa.mono ?_
          rintro e w1 ⟨rfl, rfl⟩
          go_wp2_with fail
          refine fb.mono ?_
          rintro e w1 ⟨rfl, rfl⟩
          clear fa fb
          go_wp2
          go_ret
          exact ⟨by simp, rfl⟩
      · have h3' : ¬ (x : Int) = 9223372036854775808 := by omega
        rw [if_neg (fun k => h3 k.1)]
        go_enter Tryd.func39, Tryd.ntmps39
        go_wp2_with fail
        refine ca.mono ?_
        rintro e w1 ⟨rfl, rfl⟩
        go_wp2_with fail
        refine cb.mono ?_
        rintro e w1 ⟨rfl, rfl⟩
        clear ca cb
        go_wp2_with fail
        refine fa.mono ?_
        rintro e w1 ⟨rfl, rfl⟩
        go_wp2_with fail
        refine fb.mono ?_
        rintro e w1 ⟨rfl, rfl⟩
        clear fa fb
        go_wp2
        go_ret
        exact ⟨by simp, rfl⟩

theorem equal_any (a b : Int) (w : World) : Calls Tryd.prog 40 #[.int .u64 a, .int .u64 b] w fun e w' => e = .returned (.bool (FloatKind.f64.format.order (ofB a.toNat) (ofB b.toNat) == some .eq)) ∧ w = w' := by
  have fa := float_any a w
  have fb := float_any b w
  generalize ofB a.toNat = x at *
  generalize ofB b.toNat = y at *
  go_enter Tryd.func40, Tryd.ntmps40
  go_wp2_with fail
  refine fa.mono ?_
  rintro e w1 ⟨rfl, rfl⟩
  go_wp2_with fail
  refine fb.mono ?_
  rintro e w1 ⟨rfl, rfl⟩
  clear fa fb
  go_wp2
  go_ret
  exact ⟨by simp, rfl⟩

theorem requal_any (a b : Int) (ha : Wf64 a) (hb : Wf64 b) (w : World) : Calls Tryd.prog 41 #[.int .u64 a, .int .u64 b] w fun e w' => e = .returned (.bool (FloatKind.f64.format.order (ofB a.toNat) (ofB b.toNat) == some .eq)) ∧ w = w' := by
  have fa := rfloat_any a ha w
  have fb := rfloat_any b hb w
  clear ha hb
  generalize ofB a.toNat = x at *
  generalize ofB b.toNat = y at *
  go_enter Tryd.func41, Tryd.ntmps41
  go_wp2_with fail
  refine fa.mono ?_
  rintro e w1 ⟨rfl, rfl⟩
  go_wp2_with fail
  refine fb.mono ?_
  rintro e w1 ⟨rfl, rfl⟩
  clear fa fb
  go_wp2
  go_ret
  exact ⟨by simp, rfl⟩

theorem same_any (a b : Int) (w : World) : Calls Tryd.prog 42 #[.int .u64 a, .int .u64 b] w fun e w' => e = .returned (.bool (((ofB a.toNat : Nat) : Int) == (ofB b.toNat : Nat))) ∧ w = w' := by
  have fa := canon_any a w
  have fb := canon_any b w
  generalize ((ofB a.toNat : Nat) : Int) = x at *
  generalize ((ofB b.toNat : Nat) : Int) = y at *
  go_enter Tryd.func42, Tryd.ntmps42
  go_wp2_with fail
  refine fa.mono ?_
  rintro e w1 ⟨rfl, rfl⟩
  go_wp2_with fail
  refine fb.mono ?_
  rintro e w1 ⟨rfl, rfl⟩
  clear fa fb
  go_wp2
  go_ret
  exact ⟨by simp, rfl⟩

theorem rsame_any (a b : Int) (ha : Wf64 a) (hb : Wf64 b) (w : World) : Calls Tryd.prog 43 #[.int .u64 a, .int .u64 b] w fun e w' => e = .returned (.bool (((ofB a.toNat : Nat) : Int) == (ofB b.toNat : Nat))) ∧ w = w' := by
  have fa := rcanon_any a ha w
  have fb := rcanon_any b hb w
  clear ha hb
  generalize ((ofB a.toNat : Nat) : Int) = x at *
  generalize ((ofB b.toNat : Nat) : Int) = y at *
  go_enter Tryd.func43, Tryd.ntmps43
  go_wp2_with fail
  refine fa.mono ?_
  rintro e w1 ⟨rfl, rfl⟩
  go_wp2_with fail
  refine fb.mono ?_
  rintro e w1 ⟨rfl, rfl⟩
  clear fa fb
  go_wp2
  go_ret
  exact ⟨by simp, rfl⟩

def pick2 (q : Bool) (x y : Nat) : Nat := if q then x else y
def truthB (c : Int) : Bool := (c == 1) || (c == 2)
theorem classB_in (x : Nat) : classB x = 0 ∨ classB x = 1 ∨ classB x = 2 ∨ classB x = 3 := by
  unfold classB
  repeat' split
  all_goals simp

theorem truth_any (n : Int) (w : World) : Calls Tryd.prog 44 #[.int .u64 n] w fun e w' => e = .returned (.bool (truthB (classB (ofB n.toNat)))) ∧ w = w' := by
  have hc := class_any n w
  rcases classB_in (ofB n.toNat) with h | h | h | h
  all_goals
    rw [h] at hc ⊢
    clear h
    go_enter Tryd.func44, Tryd.ntmps44
    go_wp2_with fail
    refine hc.mono ?_
    rintro e w1 ⟨rfl, rfl⟩
    clear hc
    go_wp2
    go_ret
    exact ⟨by simp [truthB], rfl⟩

theorem rtruth_any (n : Int) (h : Wf64 n) (w : World) : Calls Tryd.prog 45 #[.int .u64 n] w fun e w' => e = .returned (.bool (truthB (classB (ofB n.toNat)))) ∧ w = w' := by
  have hc := rclass_any n h w
  clear h
  rcases classB_in (ofB n.toNat) with h | h | h | h
  all_goals
    rw [h] at hc ⊢
    clear h
    go_enter Tryd.func45, Tryd.ntmps45
    go_wp2_with (go_at_call 17; refine hc.mono ?_; rintro e w1 ⟨rfl, rfl⟩)
    go_ret
    exact ⟨by simp [truthB], rfl⟩

theorem min_any (a b : Int) (w : World) : Calls Tryd.prog 34 #[.int .u64 a, .int .u64 b] w fun e w' => e = .returned (.int .u64 (pick2 (lessB (ofB b.toNat) (ofB a.toNat)) (ofB b.toNat) (ofB a.toNat))) ∧ w = w' := by
  have hl := less_any b a w
  have ca := canon_any a w
  have cb := canon_any b w
  generalize lessB (ofB b.toNat) (ofB a.toNat) = q at *
  cases q with
  | true =>
    go_enter Tryd.func34, Tryd.ntmps34
    go_wp2_with fail
    refine hl.mono ?_
    rintro e w1 ⟨rfl, rfl⟩
    clear hl
    go_wp2_with fail
    refine cb.mono ?_
    rintro e w1 ⟨rfl, rfl⟩
    clear ca cb
    go_wp2
    go_ret
    exact ⟨by simp [pick2], rfl⟩
  | false =>
    go_enter Tryd.func34, Tryd.ntmps34
    go_wp2_with fail
    refine hl.mono ?_
    rintro e w1 ⟨rfl, rfl⟩
    clear hl
    go_wp2_with fail
    refine ca.mono ?_
    rintro e w1 ⟨rfl, rfl⟩
    clear ca cb
    go_wp2
    go_ret
    exact ⟨by simp [pick2], rfl⟩

theorem max_any (a b : Int) (w : World) : Calls Tryd.prog 36 #[.int .u64 a, .int .u64 b] w fun e w' => e = .returned (.int .u64 (pick2 (lessB (ofB a.toNat) (ofB b.toNat)) (ofB b.toNat) (ofB a.toNat))) ∧ w = w' := by
  have hl := less_any a b w
  have ca := canon_any a w
  have cb := canon_any b w
  generalize lessB (ofB a.toNat) (ofB b.toNat) = q at *
  cases q with
  | true =>
    go_enter Tryd.func36, Tryd.ntmps36
    go_wp2_with fail
    refine hl.mono ?_
    rintro e w1 ⟨rfl, rfl⟩
    clear hl
    go_wp2_with fail
    refine cb.mono ?_
    rintro e w1 ⟨rfl, rfl⟩
    clear ca cb
    go_wp2
    go_ret
    exact ⟨by simp [pick2], rfl⟩
  | false =>
    go_enter Tryd.func36, Tryd.ntmps36
    go_wp2_with fail
    refine hl.mono ?_
    rintro e w1 ⟨rfl, rfl⟩
    clear hl
    go_wp2_with fail
    refine ca.mono ?_
    rintro e w1 ⟨rfl, rfl⟩
    clear ca cb
    go_wp2
    go_ret
    exact ⟨by simp [pick2], rfl⟩

theorem rmin_any (a b : Int) (ha : Wf64 a) (hb : Wf64 b) (w : World) : Calls Tryd.prog 35 #[.int .u64 a, .int .u64 b] w fun e w' => e = .returned (.int .u64 (pick2 (lessB (ofB b.toNat) (ofB a.toNat)) (ofB b.toNat) (ofB a.toNat))) ∧ w = w' := by
  have hl := rless_any b a hb ha w
  have ca := rcanon_any a ha w
  have cb := rcanon_any b hb w
  generalize lessB (ofB b.toNat) (ofB a.toNat) = q at *
  cases q with
  | true =>
    go_enter Tryd.func35, Tryd.ntmps35
    go_wp2_with fail
    refine hl.mono ?_
    rintro e w1 ⟨rfl, rfl⟩
    clear hl
    go_wp2_with fail
    refine cb.mono ?_
    rintro e w1 ⟨rfl, rfl⟩
    clear ca cb
    go_wp2
    go_ret
    exact ⟨by simp [pick2], rfl⟩
  | false =>
    go_enter Tryd.func35, Tryd.ntmps35
    go_wp2_with fail
    refine hl.mono ?_
    rintro e w1 ⟨rfl, rfl⟩
    clear hl
    go_wp2_with fail
    refine ca.mono ?_
    rintro e w1 ⟨rfl, rfl⟩
    clear ca cb
    go_wp2
    go_ret
    exact ⟨by simp [pick2], rfl⟩

theorem rmax_any (a b : Int) (ha : Wf64 a) (hb : Wf64 b) (w : World) : Calls Tryd.prog 37 #[.int .u64 a, .int .u64 b] w fun e w' => e = .returned (.int .u64 (pick2 (lessB (ofB a.toNat) (ofB b.toNat)) (ofB b.toNat) (ofB a.toNat))) ∧ w = w' := by
  have hl := rless_any a b ha hb w
  have ca := rcanon_any a ha w
  have cb := rcanon_any b hb w
  generalize lessB (ofB a.toNat) (ofB b.toNat) = q at *
  cases q with
  | true =>
    go_enter Tryd.func37, Tryd.ntmps37
    go_wp2_with fail
    refine hl.mono ?_
    rintro e w1 ⟨rfl, rfl⟩
    clear hl
    go_wp2_with fail
    refine cb.mono ?_
    rintro e w1 ⟨rfl, rfl⟩
    clear ca cb
    go_wp2
    go_ret
    exact ⟨by simp [pick2], rfl⟩
  | false =>
    go_enter Tryd.func37, Tryd.ntmps37
    go_wp2_with fail
    refine hl.mono ?_
    rintro e w1 ⟨rfl, rfl⟩
    clear hl
    go_wp2_with fail
    refine ca.mono ?_
    rintro e w1 ⟨rfl, rfl⟩
    clear ca cb
    go_wp2
    go_ret
    exact ⟨by simp [pick2], rfl⟩

end Go.Proofs.YthkedpfbnaeaaaaDoor
