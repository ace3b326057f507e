/-
  THE LAWS ON VALUES, WALKED: floats, the order.
-/
import Derived.Test.YthkedpfbnaeaaaaDoorValueRefs2
import Derived.Test.YthkedpfbnaeaaaaDoorValueLive
namespace Go.Proofs.YthkedpfbnaeaaaaDoor
set_option linter.unusedVariables false
set_option linter.unusedSimpArgs false
open Go.RowKit

theorem wf_nat {b : Nat} (h : b < 18446744073709551616) : Wf64 (b : Int) := by unfold Wf64; omega
theorem rightB_of (b : Nat) : rightB (ofB b : Nat) = true := by
  unfold rightB
  rw [Int.toNat_natCast, ofB_idem]
  exact decide_eq_true rfl
theorem order_self {b : Nat} (h : nanB b = false) : (FloatKind.f64.format.order b b == some Ordering.eq) = true := by
  unfold nanB at h
  simpa [bne] using h
theorem order_nan {b c : Nat} (h : nanB b = true) : FloatKind.f64.format.order b c = none := by
  have hr := read_is b
  rw [nanB_rung] at h
  have h1 := of_decide_eq_true h
  rcases hr with ⟨h2, _⟩ | ⟨h2, _⟩ | ⟨_, e⟩
  · omega
  · omega
  · show (Ieee.double.read b).order (Ieee.double.read c) = none
    rw [e]
    cases Ieee.double.read c <;> rfl

set_option maxRecDepth 100000 in
set_option maxHeartbeats 1000000 in
theorem floats_walk (b : Nat) (w : World) (Z : Tz w) : Calls Tryd.prog 4 #[.float .f64 b] w fun e w' => e = .returned (.bool true) ∧ Touch w w' [] := by
  have hl := vlive_any w Z
  have ho := of_any b w
  have hf := float_any ((ofB b : Nat) : Int) w
  have hr := fun w => rof_any b w
  have hg := fun w => right_any ((ofB b : Nat) : Int) w
  rw [rightB_of] at hg
  rw [Int.toNat_natCast, ofB_idem] at hf
  clear Z
  cases hn : nanB b with
  | false =>
    have e : ofB b = b := by unfold ofB; rw [if_neg (by rw [hn]; simp)]
    rw [e] at ho hf hr hg
    have hs := order_self hn
    clear hn e
    go_enter Tryd.func4, Tryd.ntmps4
    go_wp2_with fail
    refine ho.mono ?_
    rintro e w1 ⟨rfl, rfl⟩
    go_wp2_with fail
    refine hf.mono ?_
    rintro e w1 ⟨rfl, rfl⟩
    go_wp2_with fail
    refine hl.mono ?_
    rintro e w1 ⟨rfl, t1⟩
    go_wp2_with fail
    refine (hr w1).mono ?_
    rintro e w2 ⟨rfl, rfl⟩
    go_wp2_with fail
    refine (hg w1).mono ?_
    rintro e w2 ⟨rfl, rfl⟩
    clear ho hf hl hr hg
    go_wp2
    go_ret
    exact ⟨by simp, t1⟩
  | true =>
    have e : ofB b = 9221120237041090560 := by unfold ofB; rw [if_pos hn]
    rw [e] at ho hf hr hg
    have hs1 : FloatKind.f64.format.order b 9221120237041090560 = none := order_nan hn
    have hs2 : FloatKind.f64.format.order b b = none := order_nan hn
    have hs3 : FloatKind.f64.format.order 9221120237041090560 9221120237041090560 = none := order_nan (by decide +kernel)
    clear hn e
    go_enter Tryd.func4, Tryd.ntmps4
    go_wp2_with fail
    refine ho.mono ?_
    rintro e w1 ⟨rfl, rfl⟩
    go_wp2_with fail
    refine hf.mono ?_
    rintro e w1 ⟨rfl, rfl⟩
    go_wp2_with fail
    refine hl.mono ?_
    rintro e w1 ⟨rfl, t1⟩
    go_wp2_with fail
    refine (hr w1).mono ?_
    rintro e w2 ⟨rfl, rfl⟩
    go_wp2_with fail
    refine (hg w1).mono ?_
    rintro e w2 ⟨rfl, rfl⟩
    clear ho hf hl hr hg
    go_wp2
    go_ret
    exact ⟨by simp, t1⟩

set_option maxRecDepth 100000 in
set_option maxHeartbeats 1000000 in
theorem order_walk (a b c : Int) (ha : Wf64 a) (hb : Wf64 b) (hc : Wf64 c) (w : World) (Z : Tz w) : Calls Tryd.prog 8 #[.int .u64 a, .int .u64 b, .int .u64 c] w fun e w' => e = .returned (.bool true) ∧ Touch w w' [] := by
  have hl := vlive_any w Z
  have lab := fun w => less_any a b w
  have lba := fun w => less_any b a w
  have lbc := fun w => less_any b c w
  have lac := fun w => less_any a c w
  have laa := fun w => less_any a a w
  have sab := fun w => same_any a b w
  rw [lessB_key ha.rt hb.rt] at lab
  rw [lessB_key hb.rt ha.rt] at lba
  rw [lessB_key hb.rt hc.rt] at lbc
  rw [lessB_key ha.rt hc.rt] at lac
  rw [lessB_key ha.rt ha.rt, decide_eq_false (by omega)] at laa
  have hi := @keyB_inj _ _ ha.rt.lt hb.rt.lt
  generalize ofB a.toNat = x at *
  generalize ofB b.toNat = y at *
  generalize ofB c.toNat = z at *
  clear Z ha hb hc
  rcases Int.lt_trichotomy (keyB x) (keyB y) with h | h | h
  · rw [decide_eq_true h] at lab
    rw [decide_eq_false (by omega)] at lba
    have hne : (((x : Nat) : Int) == (y : Nat)) = false := by
      have : x ≠ y := fun e => by rw [e] at h; omega
      have h9 : ¬ (x : Int) = y := by omega
      simp [h9]
    rw [hne] at sab
    by_cases h2 : keyB y < keyB z
    · rw [decide_eq_true h2] at lbc
      rw [decide_eq_true (by omega)] at lac
      clear h h2 hi hne
      go_enter Tryd.func8, Tryd.ntmps8
      go_wp2_with fail
      refine (lab w).mono ?_
      rintro e w1 ⟨rfl, rfl⟩
      go_wp2_with fail
      refine (lba w).mono ?_
      rintro e w1 ⟨rfl, rfl⟩
      go_wp2_with fail
      refine (sab w).mono ?_
      rintro e w1 ⟨rfl, rfl⟩
      go_wp2_with fail
      refine hl.mono ?_
      rintro e w1 ⟨rfl, t1⟩
      go_wp2_with fail
      refine (lbc w1).mono ?_
      rintro e w2 ⟨rfl, rfl⟩
      go_wp2_with fail
      refine (lac w1).mono ?_
      rintro e w2 ⟨rfl, rfl⟩
      go_wp2_with fail
      refine (laa w1).mono ?_
      rintro e w2 ⟨rfl, rfl⟩
      clear lab lba lbc lac laa sab hl
      go_wp2
      go_ret
      exact ⟨by simp, t1⟩
    · rw [decide_eq_false h2] at lbc
      clear h h2 hi hne
      go_enter Tryd.func8, Tryd.ntmps8
      go_wp2_with fail
      refine (lab w).mono ?_
      rintro e w1 ⟨rfl, rfl⟩
      go_wp2_with fail
      refine (lba w).mono ?_
      rintro e w1 ⟨rfl, rfl⟩
      go_wp2_with fail
      refine (sab w).mono ?_
      rintro e w1 ⟨rfl, rfl⟩
      go_wp2_with fail
      refine hl.mono ?_
      rintro e w1 ⟨rfl, t1⟩
      go_wp2_with fail
      refine (lbc w1).mono ?_
      rintro e w2 ⟨rfl, rfl⟩
      go_wp2_with fail
      refine (laa w1).mono ?_
      rintro e w2 ⟨rfl, rfl⟩
      clear lab lba lbc lac laa sab hl
      go_wp2
      go_ret
      exact ⟨by simp, t1⟩
  · rw [decide_eq_false (by omega)] at lab
    rw [decide_eq_false (by omega)] at lba
    have hne : (((x : Nat) : Int) == (y : Nat)) = true := by
      have := hi h
      simp [this]
    rw [hne] at sab
    clear h hi hne
    go_enter Tryd.func8, Tryd.ntmps8
    go_wp2_with fail
    refine (lab w).mono ?_
    rintro e w1 ⟨rfl, rfl⟩
    go_wp2_with fail
    refine (lba w).mono ?_
    rintro e w1 ⟨rfl, rfl⟩
    go_wp2_with fail
    refine (sab w).mono ?_
    rintro e w1 ⟨rfl, rfl⟩
    go_wp2_with fail
    refine hl.mono ?_
    rintro e w1 ⟨rfl, t1⟩
    go_wp2_with fail
    refine (laa w1).mono ?_
    rintro e w2 ⟨rfl, rfl⟩
    clear lab lba lbc lac laa sab hl
    go_wp2
    go_ret
    exact ⟨by simp, t1⟩
  · rw [decide_eq_false (by omega)] at lab
    rw [decide_eq_true h] at lba
    have hne : (((x : Nat) : Int) == (y : Nat)) = false := by
      have : x ≠ y := fun e => by rw [e] at h; omega
      have h9 : ¬ (x : Int) = y := by omega
      simp [h9]
    rw [hne] at sab
    clear h hi hne
    go_enter Tryd.func8, Tryd.ntmps8
    go_wp2_with fail
    refine (lab w).mono ?_
    rintro e w1 ⟨rfl, rfl⟩
    go_wp2_with fail
    refine (lba w).mono ?_
    rintro e w1 ⟨rfl, rfl⟩
    go_wp2_with fail
    refine (sab w).mono ?_
    rintro e w1 ⟨rfl, rfl⟩
    go_wp2_with fail
    refine hl.mono ?_
    rintro e w1 ⟨rfl, t1⟩
    go_wp2_with fail
    refine (laa w1).mono ?_
    rintro e w2 ⟨rfl, rfl⟩
    clear lab lba lbc lac laa sab hl
    go_wp2
    go_ret
    exact ⟨by simp, t1⟩

end Go.Proofs.YthkedpfbnaeaaaaDoor
