/-
  THE LAWS ON VALUES, WALKED.
-/
import Derived.Test.YthkedpfbnaeaaaaDoorValueRefs2
import Derived.Test.YthkedpfbnaeaaaaDoorValueLive
namespace Go.Proofs.YthkedpfbnaeaaaaDoor
set_option linter.unusedVariables false
set_option linter.unusedSimpArgs false
open Go.RowKit

set_option maxRecDepth 100000 in
set_option maxHeartbeats 1000000 in
theorem forms_walk (n : Int) (h : Wf64 n) (w : World) (Z : Tz w) : Calls Tryd.prog 3 #[.int .u64 n] w fun e w' => e = .returned (.bool true) ∧ Touch w w' [] := by
  have hl := vlive_any w Z
  have HW : Hid _ := h
  clear Z
  go_enter Tryd.func3, Tryd.ntmps3
  go_wp2_with fail
  refine (float_any n w).mono ?_
  rintro e w1 ⟨rfl, rfl⟩
  go_wp2_with fail
  refine (rfloat_any n HW.out w).mono ?_
  rintro e w1 ⟨rfl, rfl⟩
  go_wp2_with fail
  refine hl.mono ?_
  rintro e w2 ⟨rfl, t⟩
  clear hl
  go_wp2_with fail
  refine (right_any n w2).mono ?_
  rintro e w1 ⟨rfl, rfl⟩
  go_wp2_with fail
  refine (rright_any n HW.out w2).mono ?_
  rintro e w1 ⟨rfl, rfl⟩
  go_wp2_with fail
  refine (canon_any n w2).mono ?_
  rintro e w1 ⟨rfl, rfl⟩
  go_wp2_with fail
  refine (rcanon_any n HW.out w2).mono ?_
  rintro e w1 ⟨rfl, rfl⟩
  go_wp2_with fail
  refine (class_any n w2).mono ?_
  rintro e w1 ⟨rfl, rfl⟩
  go_wp2_with fail
  refine (rclass_any n HW.out w2).mono ?_
  rintro e w1 ⟨rfl, rfl⟩
  go_wp2_with fail
  refine (negative_any n w2).mono ?_
  rintro e w1 ⟨rfl, rfl⟩
  go_wp2_with fail
  refine (rnegative_any n HW.out w2).mono ?_
  rintro e w1 ⟨rfl, rfl⟩
  have ho := of_any (ofB n.toNat) w2
  have hr := rof_any (ofB n.toNat) w2
  have hc := canon_any n w2
  rw [ofB_idem] at ho hr
  go_wp2_with fail
  refine ho.mono ?_
  rintro e w1 ⟨rfl, rfl⟩
  go_wp2_with fail
  refine hr.mono ?_
  rintro e w1 ⟨rfl, rfl⟩
  go_wp2_with fail
  refine ho.mono ?_
  rintro e w1 ⟨rfl, rfl⟩
  go_wp2_with fail
  refine hc.mono ?_
  rintro e w1 ⟨rfl, rfl⟩
  clear ho hr hc
  go_wp2
  go_ret
  exact ⟨by simp, t⟩

set_option maxRecDepth 100000 in
set_option maxHeartbeats 1000000 in
theorem reckons_walk (a b : Int) (ha : Wf64 a) (hb : Wf64 b) (w : World) (Z : Tz w) : Calls Tryd.prog 5 #[.int .u64 a, .int .u64 b] w fun e w' => e = .returned (.bool true) ∧ Touch w w' [] := by
  have hl := vlive_any w Z
  have HA : Hid _ := ha
  have HB : Hid _ := hb
  clear Z ha hb
  go_enter Tryd.func5, Tryd.ntmps5
  go_wp2_with fail
  refine hl.mono ?_
  rintro e w0 ⟨rfl, t0⟩
  clear hl
  go_wp2_with fail
  refine (add_any a b w0).mono ?_
  rintro e w1 ⟨rfl, u⟩
  have t1 : Touch w w1 [] := t0.trans u (by simp)
  clear u t0
  go_wp2_with fail
  refine (radd_any a b HA.out HB.out w1).mono ?_
  rintro e w2 ⟨rfl, u⟩
  have t2 : Touch w w2 [] := t1.trans u (by simp)
  clear u t1
  go_wp2_with fail
  refine (sub_any a b w2).mono ?_
  rintro e w3 ⟨rfl, u⟩
  have t3 : Touch w w3 [] := t2.trans u (by simp)
  clear u t2
  go_wp2_with fail
  refine (rsub_any a b HA.out HB.out w3).mono ?_
  rintro e w4 ⟨rfl, u⟩
  have t4 : Touch w w4 [] := t3.trans u (by simp)
  clear u t3
  go_wp2_with fail
  refine (mul_any a b w4).mono ?_
  rintro e w5 ⟨rfl, u⟩
  have t5 : Touch w w5 [] := t4.trans u (by simp)
  clear u t4
  go_wp2_with fail
  refine (rmul_any a b HA.out HB.out w5).mono ?_
  rintro e w6 ⟨rfl, u⟩
  have t6 : Touch w w6 [] := t5.trans u (by simp)
  clear u t5
  go_wp2_with fail
  refine (div_any a b w6).mono ?_
  rintro e w7 ⟨rfl, u⟩
  have t7 : Touch w w7 [] := t6.trans u (by simp)
  clear u t6
  go_wp2_with fail
  refine (rdiv_any a b HA.out HB.out w7).mono ?_
  rintro e w8 ⟨rfl, u⟩
  have t8 : Touch w w8 [] := t7.trans u (by simp)
  clear u t7
  go_wp2
  go_ret
  exact ⟨by simp, t8⟩

set_option maxRecDepth 100000 in
set_option maxHeartbeats 1000000 in
theorem signs_walk (a b : Int) (ha : Wf64 a) (hb : Wf64 b) (w : World) (Z : Tz w) : Calls Tryd.prog 6 #[.int .u64 a, .int .u64 b] w fun e w' => e = .returned (.bool true) ∧ Touch w w' [] := by
  have hl := vlive_any w Z
  have HA : Hid _ := ha
  have HB : Hid _ := hb
  clear Z ha hb
  go_enter Tryd.func6, Tryd.ntmps6
  go_wp2_with fail
  refine hl.mono ?_
  rintro e w0 ⟨rfl, t0⟩
  clear hl
  go_wp2_with fail
  refine (neg_any a HA.out w0).mono ?_
  rintro e w1 ⟨rfl, rfl⟩
  go_wp2_with fail
  refine (rneg_any a HA.out w0).mono ?_
  rintro e w1 ⟨rfl, rfl⟩
  go_wp2_with fail
  refine (vabs_any a HA.out w0).mono ?_
  rintro e w1 ⟨rfl, rfl⟩
  go_wp2_with fail
  refine (rabs_any a HA.out w0).mono ?_
  rintro e w1 ⟨rfl, rfl⟩
  go_wp2_with fail
  refine (min_any a b w0).mono ?_
  rintro e w1 ⟨rfl, rfl⟩
  go_wp2_with fail
  refine (rmin_any a b HA.out HB.out w0).mono ?_
  rintro e w1 ⟨rfl, rfl⟩
  go_wp2_with fail
  refine (max_any a b w0).mono ?_
  rintro e w1 ⟨rfl, rfl⟩
  go_wp2_with fail
  refine (rmax_any a b HA.out HB.out w0).mono ?_
  rintro e w1 ⟨rfl, rfl⟩
  go_wp2
  go_ret
  exact ⟨by simp, t0⟩

set_option maxRecDepth 100000 in
set_option maxHeartbeats 1000000 in
theorem asks_walk (a b : Int) (ha : Wf64 a) (hb : Wf64 b) (w : World) (Z : Tz w) : Calls Tryd.prog 7 #[.int .u64 a, .int .u64 b] w fun e w' => e = .returned (.bool true) ∧ Touch w w' [] := by
  have hl := vlive_any w Z
  have HA : Hid _ := ha
  have HB : Hid _ := hb
  clear Z ha hb
  go_enter Tryd.func7, Tryd.ntmps7
  go_wp2_with fail
  refine hl.mono ?_
  rintro e w0 ⟨rfl, t0⟩
  clear hl
  go_wp2_with fail
  refine (less_any a b w0).mono ?_
  rintro e w1 ⟨rfl, rfl⟩
  go_wp2_with fail
  refine (rless_any a b HA.out HB.out w0).mono ?_
  rintro e w1 ⟨rfl, rfl⟩
  go_wp2_with fail
  refine (equal_any a b w0).mono ?_
  rintro e w1 ⟨rfl, rfl⟩
  go_wp2_with fail
  refine (requal_any a b HA.out HB.out w0).mono ?_
  rintro e w1 ⟨rfl, rfl⟩
  go_wp2_with fail
  refine (same_any a b w0).mono ?_
  rintro e w1 ⟨rfl, rfl⟩
  go_wp2_with fail
  refine (rsame_any a b HA.out HB.out w0).mono ?_
  rintro e w1 ⟨rfl, rfl⟩
  go_wp2_with fail
  refine (truth_any a w0).mono ?_
  rintro e w1 ⟨rfl, rfl⟩
  go_wp2_with fail
  refine (rtruth_any a HA.out w0).mono ?_
  rintro e w1 ⟨rfl, rfl⟩
  go_wp2
  go_ret
  exact ⟨by simp, t0⟩

end Go.Proofs.YthkedpfbnaeaaaaDoor
