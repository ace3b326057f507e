/-
  ValueTurns walked: the other sign twice, in sums; whole numbers that come back.
-/
import Derived.Test.YthkedpfbnaeaaabDoorValueExact
import Derived.Test.YthkedpfbnaeaaabDoorValueRefs2
import Derived.Test.YthkedpfbnaeaaabDoorValueLive
namespace Go.Proofs.YthkedpfbnaeaaabDoor
set_option linter.unusedVariables false
set_option linter.unusedSimpArgs false
open Go.RowKit

theorem read_neg (y : Nat) (h : y < 18446744073709551616) : Ieee.double.read (Op.negFloat .f64 y) = (Ieee.double.read y).opposite := by
  have e1 : Ieee.double.signWeight = 9223372036854775808 := by decide +kernel
  have hn := negFloat_is y h
  have hr : Op.negFloat .f64 y % 9223372036854775808 = y % 9223372036854775808 := by rw [hn]; split <;> omega
  have hs : (Op.negFloat .f64 y / 9223372036854775808 % 2 == 1) = !(y / 9223372036854775808 % 2 == 1) := by
    rw [hn]
    by_cases h1 : 9223372036854775808 ≤ y
    · rw [if_pos h1]
      have g1 : (y - 9223372036854775808) / 9223372036854775808 = 0 := by omega
      have g2 : y / 9223372036854775808 = 1 := by omega
      rw [g1, g2]; rfl
    · rw [if_neg h1]
      have g1 : (y + 9223372036854775808) / 9223372036854775808 = 1 := by omega
      have g2 : y / 9223372036854775808 = 0 := by omega
      rw [g1, g2]; rfl
  unfold Ieee.Format.read
  simp only [e1]
  rw [hr, hs]
  generalize (y / 9223372036854775808 % 2 == 1) = s
  generalize y % 9223372036854775808 = r
  repeat' split
  all_goals rfl

theorem sub_neg {x y : Nat} (hy : Rt y) : arithB .sub x y = arithB .add x (ofB (Op.negFloat .f64 y)) := by
  unfold arithB floatBits
  simp only
  by_cases h1 : y = 9221120237041090560
  · subst h1
    have e : ofB (Op.negFloat .f64 9221120237041090560) = 9221120237041090560 := by decide +kernel
    rw [e]
    have hrd : ∃ a b, Ieee.double.read 9221120237041090560 = .nan a b := by
      rcases read_is 9221120237041090560 with ⟨h, _⟩ | ⟨h, _⟩ | ⟨_, h⟩
      · exact absurd h (by decide)
      · exact absurd h (by decide)
      · exact ⟨_, _, h⟩
    obtain ⟨a, b, hrd⟩ := hrd
    have s1 : FloatKind.f64.format.sub x 9221120237041090560 = none := by
      show ((Ieee.double.read x).sum (Ieee.double.read 9221120237041090560).opposite).map _ = none
      rw [hrd]
      cases Ieee.double.read x <;> rfl
    have s2 : FloatKind.f64.format.add x 9221120237041090560 = none := by
      show ((Ieee.double.read x).sum (Ieee.double.read 9221120237041090560)).map _ = none
      rw [hrd]
      cases Ieee.double.read x <;> rfl
    rw [s1, s2]
  · have hn : ofB (Op.negFloat .f64 y) = Op.negFloat .f64 y := by
      rw [neg_of hy, if_neg h1, negFloat_is y hy.lt]
    rw [hn]
    have e : FloatKind.f64.format.sub x y = FloatKind.f64.format.add x (Op.negFloat .f64 y) := by
      show ((Ieee.double.read x).sum (Ieee.double.read y).opposite).map _ = ((Ieee.double.read x).sum (Ieee.double.read (Op.negFloat .f64 y))).map _
      rw [read_neg y hy.lt]
    rw [e]

theorem negV_nat {x : Nat} (h : Rt x) : Wf64 (negV x) ∧ Rt (negV x).toNat ∧ ofB (negV x).toNat = (negV x).toNat ∧ negV (negV x).toNat = x := by
  have e := negV_is h
  have hl : Op.negFloat .f64 x < 18446744073709551616 := by rw [negFloat_is x h.lt]; have := h.lt; split <;> omega
  have hr := rt_of _ hl
  have et : (negV x).toNat = ofB (Op.negFloat .f64 x) := by rw [← e, Int.toNat_natCast]
  refine ⟨by rw [← e]; have := hr.lt; unfold Wf64; omega, by rw [et]; exact hr, by rw [et, ofB_idem], ?_⟩
  rw [et, ← negV_is hr]
  by_cases h1 : x = 9221120237041090560
  · subst h1; decide +kernel
  · rw [neg_of hr]
    have e2 := neg_of h
    rw [if_neg h1] at e2
    have := h.lt
    have hxr : rungB x ≤ 9218868437227405312 := h.r.resolve_right h1
    have hrx := rungB_is x h.lt
    have hne : ¬ ofB (Op.negFloat .f64 x) = 9221120237041090560 := by
      rw [e2]
      split at hrx
      · rw [if_pos ‹_›]; omega
      · rw [if_neg ‹_›]; omega
    rw [if_neg hne, e2]
    by_cases h2 : 9223372036854775808 ≤ x
    · rw [if_pos h2, if_neg (by omega)]; omega
    · rw [if_neg h2, if_pos (by omega)]; omega

theorem wf_i32 {x : Int} (h : (Lit.int .i32 x).wf = true) : -2147483648 ≤ x ∧ x ≤ 2147483647 := by
  simp [Lit.wf, IntKind.min, IntKind.max, IntKind.signed, IntKind.bits] at h; omega

set_option maxRecDepth 100000 in
set_option maxHeartbeats 1000000 in
theorem turns_walk (a b n : Int) (ha : Wf64 a) (hb : Wf64 b) (hn0 : -2147483648 ≤ n) (hn1 : n ≤ 2147483647) (w : World) (Z : Tz w) : Calls Tryd.prog 3 #[.int .u64 a, .int .u64 b, .int .i32 n] w fun e w' => e = .returned (.bool true) ∧ Touch w w' [] := by
  have HZ : Hid _ := Z
  have HA : Hid _ := ha
  have hi := int_ok n (by omega) (by omega) w
  have hlog : n.natAbs.log2 ≤ 52 := by
    rcases Nat.eq_zero_or_pos n.natAbs with h | h
    · rw [h]; decide
    · have g1 := (Nat.log2_lt (n := n.natAbs) (k := 53) (by omega)).2 (by rw [pow53]; omega)
      omega
  have hw := fun w1 : World => whole_ok _ _ (wholeB_exact n hlog) w1
  generalize ofB (floatOfInt .f64 n) = m3 at *
  have hna := fun w1 : World => neg_any a ha w1
  have hnb := fun w1 : World => neg_any b hb w1
  obtain ⟨g1, g2, g3, g4⟩ := negV_nat ha.rt
  obtain ⟨k1, k2, k3, k4⟩ := negV_nat hb.rt
  have hnn := fun w1 : World => neg_any (negV (ofB a.toNat)) g1 w1
  rw [g3, g4] at hnn
  have hca := fun w1 : World => canon_any a w1
  have hsb := fun w1 : World => sub_any a b w1
  have had := fun w1 : World => add_any a (negV (ofB b.toNat)) w1
  have es : arithB .sub (ofB a.toNat) (ofB b.toNat) = arithB .add (ofB a.toNat) (ofB (negV (ofB b.toNat)).toNat) := by
    have et : (negV (ofB b.toNat)).toNat = ofB (Op.negFloat .f64 (ofB b.toNat)) := by rw [← negV_is hb.rt, Int.toNat_natCast]
    rw [sub_neg hb.rt, et, ofB_idem]
  rw [← es] at had
  generalize arithB .sub (ofB a.toNat) (ofB b.toNat) = su at *
  generalize negV (ofB b.toNat) = nb at *
  generalize negV (ofB a.toNat) = na at *
  generalize ofB a.toNat = x at *
  clear Z ha hb g1 g2 g3 g4 k1 k2 k3 k4 es hlog
  go_enter Tryd.func3, Tryd.ntmps3
  go_wp2_with fail
  refine hi.mono ?_
  rintro e w1 ⟨rfl, t1⟩
  have hw1 := hw w1
  clear hi hw
  go_wp2_with fail
  refine hw1.mono ?_
  rintro e w2 ⟨rfl, t2'⟩
  have t2 : Touch w w2 [] := t1.trans t2' (by simp)
  have hl := vlive_any w2 (HZ.out.touch t2)
  clear hw1 t1 t2'
  go_wp2_with fail
  refine hl.mono ?_
  rintro e w3 ⟨rfl, t3'⟩
  have t3 : Touch w w3 [] := t2.trans t3' (by simp)
  clear hl t2 t3'
  go_wp2_with fail
  refine (hna w3).mono ?_
  rintro e w4 ⟨rfl, rfl⟩
  go_wp2_with fail
  refine (hnn w3).mono ?_
  rintro e w4 ⟨rfl, rfl⟩
  go_wp2_with fail
  refine (hca w3).mono ?_
  rintro e w4 ⟨rfl, rfl⟩
  go_wp2_with fail
  refine (hsb w3).mono ?_
  rintro e w4 ⟨rfl, t4'⟩
  have t4 : Touch w w4 [] := t3.trans t4' (by simp)
  clear t4'
  go_wp2_with fail
  refine (hnb w4).mono ?_
  rintro e w5 ⟨rfl, rfl⟩
  go_wp2_with fail
  refine (had w4).mono ?_
  rintro e w5 ⟨rfl, t5'⟩
  have t5 : Touch w w5 [] := t4.trans t5' (by simp)
  clear hna hnn hca hsb hnb had t5' t3 t4
  go_wp2
  go_ret
  exact ⟨by simp, t5⟩

end Go.Proofs.YthkedpfbnaeaaabDoor
