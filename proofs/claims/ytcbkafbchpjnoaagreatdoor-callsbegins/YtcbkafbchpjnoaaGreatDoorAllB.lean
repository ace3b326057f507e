/-
  WHICH SIGN A WHOLE VALUE HAS: it has none, just if its number is none below 0, and it is not -0.
-/
import Derived.Test.YtcbkafbchpjnoaaGreatDoorAllA
import Derived.Test.YtcbkafbchpjnoaaGreatDoorClBegin
import Derived.Deep.RegionHeld3
import Derived.Test.YtcbkafbchpjnoaaGreatDoorClLaw
namespace Go.Proofs.YtcbkafbchpjnoaaGreatDoor
set_option linter.unusedVariables false
set_option linter.unusedSimpArgs false
open Go.RowKit

/-- What a number's float is like. -/
theorem near_sign (n : Int) (h : n.natAbs ≤ 9007199254740992) : isNeg (floatOfInt .f64 n) = decide (n < 0) ∧ rungB (floatOfInt .f64 n) ≤ 9218868437227405312 ∧ (rungB (floatOfInt .f64 n) = 0 ↔ n = 0) := by
  rw [floatOfInt_is]
  by_cases h0 : n = 0
  · subst h0; decide +kernel
  · by_cases h53 : n.natAbs = 9007199254740992
    · rw [h53]
      have e : (Int.natAbs n : Int) = 9007199254740992 := by omega
      by_cases hn : n < 0
      · rw [decide_eq_true hn]
        have : isNeg (Ieee.double.nearest true 9007199254740992 0) = true ∧ rungB (Ieee.double.nearest true 9007199254740992 0) ≤ 9218868437227405312 ∧ ¬ rungB (Ieee.double.nearest true 9007199254740992 0) = 0 := by decide +kernel
        exact ⟨this.1, this.2.1, fun k => absurd k this.2.2, fun k => absurd k h0⟩
      · rw [decide_eq_false hn]
        have : isNeg (Ieee.double.nearest false 9007199254740992 0) = false ∧ rungB (Ieee.double.nearest false 9007199254740992 0) ≤ 9218868437227405312 ∧ ¬ rungB (Ieee.double.nearest false 9007199254740992 0) = 0 := by decide +kernel
        exact ⟨this.1, this.2.1, fun k => absurd k this.2.2, fun k => absurd k h0⟩
    · have hm : 0 < n.natAbs := by omega
      have hl : n.natAbs.log2 ≤ 52 := by
        have := (Nat.log2_lt (by omega : n.natAbs ≠ 0)).2 (show n.natAbs < 2 ^ 53 by rw [pow53]; omega)
        omega
      have hk := kept_lt _ hl
      have hg := kept_ge _ hm hl
      rw [exact_word _ _ hm hl]
      have hR : (n.natAbs.log2 + 1022) * 4503599627370496 + n.natAbs * 2 ^ (52 - n.natAbs.log2) < 9218868437227405312 := by
        generalize n.natAbs * 2 ^ (52 - n.natAbs.log2) = K at *
        omega
      obtain ⟨_, a, b⟩ := word_is (decide (n < 0)) _ (show (n.natAbs.log2 + 1022) * 4503599627370496 + n.natAbs * 2 ^ (52 - n.natAbs.log2) < 9223372036854775808 by omega)
      rw [a, b]
      refine ⟨rfl, by omega, fun k => ?_, fun k => absurd k h0⟩
      generalize n.natAbs * 2 ^ (52 - n.natAbs.log2) = K at *
      omega

theorem whole_sign {x : Nat} (h : Rt x) {n : Int} (hw : wholeV x = (n, true)) : (-9007199254740992 ≤ n ∧ n ≤ 9007199254740992) ∧ negB x = (decide (n < 0) || decide (x = 9223372036854775808)) := by
  unfold wholeV at hw
  split at hw
  · rename_i i hi
    split at hw
    · rename_i hc
      simp only [Prod.mk.injEq, and_true] at hw
      subst hw
      obtain ⟨hr, hT⟩ := hc
      obtain ⟨j, hj, hb⟩ := whole_both x h.lt hr
      rw [hi] at hj
      cases hj
      obtain ⟨s, c, hc, hd, hin, _⟩ := toInt_near x hr
      have es : Ieee.signed s c 0 = sgn s c := by rw [signed_sgn]; simp
      have hn : i = sgn s c := by
        unfold floatToIntVal Ieee.Datum.toInt at hi
        rw [hd, hin] at hi
        simp only [es] at hi
        split at hi
        · cases hi; rfl
        · cases hi
      have hbd : -9007199254740992 ≤ i ∧ i ≤ 9007199254740992 := by rw [hn]; unfold sgn; split <;> omega
      refine ⟨hbd, ?_⟩
      rw [hT] at hb
      obtain ⟨f1, f2, f3⟩ := near_sign i (by omega)
      rw [order_key _ x f2 (by omega), cmp_is_eq, f1, decide_eq_true_eq] at hb
      rw [negB_is x h.lt]
      have hxl := h.lt
      have hxn := isNeg_is x hxl
      have hxr := rungB_is x hxl
      rw [hxn] at hb
      generalize rungB (floatOfInt .f64 i) = F at *
      generalize rungB x = R at *
      by_cases h1 : 9223372036854775808 ≤ x <;> by_cases h2 : i < 0
      · simp [h1, h2]
      · rw [decide_eq_true h1, decide_eq_false h2] at hb
        rw [if_pos h1] at hxr
        rw [decide_eq_true h1, decide_eq_false h2, Bool.false_or]
        symm
        apply decide_eq_true
        have e1 : (F : Int) = -(R : Int) := hb
        omega
      · rw [decide_eq_false h1, decide_eq_true h2] at hb
        have e1 : -(F : Int) = (R : Int) := hb
        have : F = 0 := by omega
        have := f3.1 this
        omega
      · have h3 : ¬ x = 9223372036854775808 := by omega
        simp [h1, h2, h3]
    · cases hw
  · cases hw

end Go.Proofs.YtcbkafbchpjnoaaGreatDoor
/-
  package calls: number, allRight, round BY THEIR CONTRACTS; the document's whole.
-/
namespace Go.Proofs.YtcbkafbchpjnoaaGreatDoor
set_option linter.unusedVariables false
set_option linter.unusedSimpArgs false
open Go.RowKit
attribute [local go_sem] Oper.semAt_some

/-- A value as a number from 0 to most. -/
def numR (v most : Int) : Int × Bool := if (wholeV (ofB v.toNat)).2 = true ∧ negB (ofB v.toNat) = false ∧ (wholeV (ofB v.toNat)).1 ≤ most then ((wholeV (ofB v.toNat)).1, true) else (0, false)
theorem numR_nonneg {v most : Int} (hv : Wf64 v) (h : (numR v most).2 = true) : 0 ≤ (numR v most).1 ∧ (numR v most).1 ≤ most ∧ (numR v most).1 ≤ 9007199254740992 := by
  unfold numR at h ⊢
  split at h
  · rename_i hc
    rw [if_pos hc]
    have hs := whole_sign hv.rt (n := (wholeV (ofB v.toNat)).1) (by rw [← hc.1])
    have h2 := hc.2.1
    rw [hs.2] at h2
    simp only [Bool.or_eq_false_iff, decide_eq_false_iff_not] at h2
    exact ⟨by simp only; omega, hc.2.2, hs.1.2⟩
  · cases h
theorem numR_zero {v most : Int} (h : (numR v most).2 = false) : (numR v most).1 = 0 := by
  unfold numR at h ⊢
  split at h
  · cases h
  · rename_i hc; rw [if_neg hc]
theorem numR_range {v most : Int} (hv : Wf64 v) (hm : 0 ≤ most) : 0 ≤ (numR v most).1 ∧ (numR v most).1 ≤ most := by
  cases h : (numR v most).2 with
  | true => have := numR_nonneg hv h; omega
  | false => rw [numR_zero h]; omega
theorem numR_far {v : Int} (hv : Wf64 v) : numR v 9007199254740992 = numR v 9223372036854775807 := by
  unfold numR
  by_cases h : (wholeV (ofB v.toNat)).2 = true
  · have hs := whole_sign hv.rt (n := (wholeV (ofB v.toNat)).1) (by rw [← h])
    have h1 : (wholeV (ofB v.toNat)).1 ≤ 9007199254740992 := hs.1.2
    have h2 : (wholeV (ofB v.toNat)).1 ≤ 9223372036854775807 := by omega
    simp [h1, h2]
  · rw [if_neg (fun c => h c.1), if_neg (fun c => h c.1)]

set_option maxRecDepth 100000 in
theorem clnumber_any (v most : Int) (hv : Wf64 v) (w : World) : Calls Tryz.prog 70 #[.int .u64 v, .int .i64 most] w fun e w' => e = .returned (.tuple #[.int .i64 (numR v most).1, .bool (numR v most).2]) ∧ Touch w w' [] := by
  have HN : Hid (numR v most = if (wholeV (ofB v.toNat)).2 = true ∧ negB (ofB v.toNat) = false ∧ (wholeV (ofB v.toNat)).1 ≤ most then ((wholeV (ofB v.toNat)).1, true) else (0, false)) := rfl
  have HW : HidC _ _ _ _ _ := ⟨whole_any v hv w⟩
  have HG : Hid (∀ W, HidC Tryz.prog 103 #[.int .u64 v] W fun e w' => e = .returned (.bool (negB (ofB v.toNat))) ∧ W = w') := fun W => ⟨negative_any v W⟩
  unfold pairV at HW
  generalize negB (ofB v.toNat) = nb at *
  generalize wholeV (ofB v.toNat) = r at *
  obtain ⟨x, ok⟩ := r
  generalize numR v most = R at *
  obtain ⟨R1, R2⟩ := R
  simp only at HN HW ⊢
  clear hv
  cases ok with
  | false =>
    have HE : Hid ((R1, R2) = ((0 : Int), false)) := by show _ = _; rw [HN.out, if_neg (by simp)]
    clear HN
    go_enter Tryz.func70, Tryz.ntmps70
    go_wp2_with fail
    refine HW.out.mono ?_
    clear HW
    rintro e w1 ⟨rfl, t⟩
    have HT : Hid _ := t
    clear t
    go_wp2
    obtain ⟨rfl, rfl⟩ := Prod.mk.inj HE.out
    exact bodyPost_ret (v := .tuple #[.int .i64 0, .bool false]) (by simp [results, Tryz.results70, go_sem]) rfl ⟨rfl, HT.out⟩
  | true =>
    cases nb with
    | true =>
      have HE : Hid ((R1, R2) = ((0 : Int), false)) := by show _ = _; rw [HN.out, if_neg (by simp)]
      clear HN
      go_enter Tryz.func70, Tryz.ntmps70
      go_wp2_with fail
      refine HW.out.mono ?_
      clear HW
      rintro e w1 ⟨rfl, t⟩
      have HT : Hid _ := t
      clear t
      go_wp2_with fail
      refine (HG.out _).out.mono ?_
      clear HG
      rintro e _ ⟨rfl, rfl⟩
      go_wp2
      obtain ⟨rfl, rfl⟩ := Prod.mk.inj HE.out
      exact bodyPost_ret (v := .tuple #[.int .i64 0, .bool false]) (by simp [results, Tryz.results70, go_sem]) rfl ⟨rfl, HT.out⟩
    | false =>
      by_cases hm : x ≤ most
      · have HE : Hid ((R1, R2) = (x, true)) := by show _ = _; rw [HN.out, if_pos (by simp [hm])]
        have hm' : ¬ most < x := by omega
        clear HN hm
        go_enter Tryz.func70, Tryz.ntmps70
        go_wp2_with fail
        refine HW.out.mono ?_
        clear HW
        rintro e w1 ⟨rfl, t⟩
        have HT : Hid _ := t
        clear t
        go_wp2_with fail
        refine (HG.out _).out.mono ?_
        clear HG
        rintro e _ ⟨rfl, rfl⟩
        go_wp2
        obtain ⟨rfl, rfl⟩ := Prod.mk.inj HE.out
        exact bodyPost_ret (v := .tuple #[.int .i64 R1, .bool true]) (by simp [results, Tryz.results70, go_sem]) rfl ⟨rfl, HT.out⟩
      · have HE : Hid ((R1, R2) = ((0 : Int), false)) := by show _ = _; rw [HN.out, if_neg (by simp [hm])]
        have hm' : most < x := by omega
        clear HN hm
        go_enter Tryz.func70, Tryz.ntmps70
        go_wp2_with fail
        refine HW.out.mono ?_
        clear HW
        rintro e w1 ⟨rfl, t⟩
        have HT : Hid _ := t
        clear t
        go_wp2_with fail
        refine (HG.out _).out.mono ?_
        clear HG
        rintro e _ ⟨rfl, rfl⟩
        go_wp2
        obtain ⟨rfl, rfl⟩ := Prod.mk.inj HE.out
        exact bodyPost_ret (v := .tuple #[.int .i64 0, .bool false]) (by simp [results, Tryz.results70, go_sem]) rfl ⟨rfl, HT.out⟩

/-- The document's: -1 where there is none. -/
def numW (v most : Int) : Int := if (numR v most).2 then (numR v most).1 else -1
theorem right_is {v : Int} (hv : Wf64 v) (h : rightB v = true) : ofB v.toNat = v.toNat := by
  unfold rightB at h
  rw [decide_eq_true_eq] at h
  have h0 := hv.1
  omega
theorem numW_is {v most : Int} (hv : Wf64 v) (hr : rightB v = true) : numW v most = if (wholeV (ofB v.toNat)).2 = true ∧ ¬ (wholeV (ofB v.toNat)).1 < 0 ∧ ¬ most < (wholeV (ofB v.toNat)).1 ∧ ¬ v = 9223372036854775808 then (wholeV (ofB v.toNat)).1 else -1 := by
  have e := right_is hv hr
  unfold numW
  by_cases h : (wholeV (ofB v.toNat)).2 = true
  · have hs := whole_sign hv.rt (n := (wholeV (ofB v.toNat)).1) (by rw [← h])
    have hg : negB (ofB v.toNat) = false ↔ ¬ (wholeV (ofB v.toNat)).1 < 0 ∧ ¬ v = 9223372036854775808 := by
      rw [hs.2, e]
      simp only [Bool.or_eq_false_iff, decide_eq_false_iff_not]
      have h0 := hv.1
      constructor
      · rintro ⟨a, b⟩; exact ⟨a, by omega⟩
      · rintro ⟨a, b⟩; exact ⟨a, by omega⟩
    by_cases h2 : negB (ofB v.toNat) = false ∧ (wholeV (ofB v.toNat)).1 ≤ most
    · have h3 := hg.1 h2.1
      rw [show numR v most = ((wholeV (ofB v.toNat)).1, true) from if_pos ⟨h, h2⟩]
      exact Eq.trans (if_pos rfl) (Eq.symm (if_pos ⟨h, h3.1, by omega, h3.2⟩))
    · rw [show numR v most = (0, false) from if_neg (fun c => h2 c.2)]
      exact Eq.trans (if_neg (by simp)) (Eq.symm (if_neg (fun c => h2 ⟨hg.2 ⟨c.2.1, c.2.2.2⟩, by omega⟩)))
  · rw [show numR v most = (0, false) from if_neg (fun c => h c.1)]
    exact Eq.trans (if_neg (by simp)) (Eq.symm (if_neg (fun c => h c.1)))

set_option maxRecDepth 100000 in
theorem rwhole24_any (v most : Int) (hv : Wf64 v) (hr : rightB v = true) (w : World) : Calls Tryz.prog 40 #[.int .u64 v, .int .i64 most] w fun e w' => e = .returned (.int .i64 (numW v most)) ∧ w = w' := by
  have HN : Hid _ := numW_is (most := most) hv hr
  have HW : HidC _ _ _ _ _ := ⟨rwhole_any v hv w⟩
  unfold pairV at HW
  generalize wholeV (ofB v.toNat) = r at *
  obtain ⟨x, ok⟩ := r
  generalize numW v most = R at *
  simp only at HN HW ⊢
  clear hv hr
  cases ok with
  | false =>
    have HE : Hid (R = -1) := by show _ = _; rw [HN.out, if_neg (by simp)]
    clear HN
    go_enter Tryz.func40, Tryz.ntmps40
    go_wp2_with fail
    refine HW.out.mono ?_
    clear HW
    rintro e w1 ⟨rfl, rfl⟩
    go_wp2
    go_ret
    exact ⟨by rw [HE.out]; rfl, rfl⟩
  | true =>
    by_cases h1 : x < 0
    · have HE : Hid (R = -1) := by show _ = _; rw [HN.out, if_neg (by simp [h1])]
      clear HN
      go_enter Tryz.func40, Tryz.ntmps40
      go_wp2_with fail
      refine HW.out.mono ?_
      clear HW
      rintro e w1 ⟨rfl, rfl⟩
      go_wp2
      go_ret
      exact ⟨by rw [HE.out]; rfl, rfl⟩
    · by_cases h2 : most < x
      · have HE : Hid (R = -1) := by show _ = _; rw [HN.out, if_neg (by simp [h2])]
        clear HN
        go_enter Tryz.func40, Tryz.ntmps40
        go_wp2_with fail
        refine HW.out.mono ?_
        clear HW
        rintro e w1 ⟨rfl, rfl⟩
        go_wp2
        go_ret
        exact ⟨by rw [HE.out]; rfl, rfl⟩
      · by_cases h3 : v = 9223372036854775808
        · have HE : Hid (R = -1) := by show _ = _; rw [HN.out, if_neg (by simp [h3])]
          clear HN
          subst h3
          go_enter Tryz.func40, Tryz.ntmps40
          go_wp2_with fail
          refine HW.out.mono ?_
          clear HW
          rintro e w1 ⟨rfl, rfl⟩
          go_wp2
          go_ret
          exact ⟨by rw [HE.out]; rfl, rfl⟩
        · have HE : Hid (R = x) := by show _ = _; rw [HN.out, if_pos ⟨rfl, h1, h2, h3⟩]
          have h3' : (v == 9223372036854775808) = false := by simpa using h3
          clear HN
          go_enter Tryz.func40, Tryz.ntmps40
          go_wp2_with fail
          refine HW.out.mono ?_
          clear HW
          rintro e w1 ⟨rfl, rfl⟩
          go_wp2
          go_ret
          exact ⟨by rw [HE.out]; rfl, rfl⟩

end Go.Proofs.YtcbkafbchpjnoaaGreatDoor
/-
  package calls: allRight, round BY THEIR CONTRACTS; SameVals of equal rows.
-/
namespace Go.Proofs.YtcbkafbchpjnoaaGreatDoor
set_option linter.unusedVariables false
set_option linter.unusedSimpArgs false
open Go.RowKit
attribute [local go_sem] Oper.semAt_some

/-- A row of values that can be read. -/
def clc (x : Int) : List Value := [.int .u64 x]
structure ClV (w : World) (ao : Option Addr) (n cap : Nat) (l : List Int) : Prop where
  len : n = l.length
  row : SRow 1 clc w (.slice ao l.length cap) l
  le : n ≤ cap
  wf : ∀ x ∈ l, Wf64 x
theorem ClV.keep {w w' : World} {ao : Option Addr} {n cap : Nat} {l : List Int} (h : ClV w ao n cap l) (t : Touch w w' []) : ClV w' ao n cap l := ⟨h.len, SRow.keep h.row t (by simp), h.le, h.wf⟩
theorem ClV.at {w : World} {ao : Option Addr} {n cap : Nat} {l : List Int} (h : ClV w ao n cap l) (k : Nat) (hk : k < l.length) : ∃ g off, ao = some ⟨g, off, none⟩ ∧ g < w.heap.size ∧ w.cell? ⟨g, off + k, none⟩ = some (.int .u64 l[k]) := by
  obtain ⟨g, off, e, hg, hc⟩ := SRow.at h.row k hk
  exact ⟨g, off, e, hg, by simpa [clc] using hc 0 (by omega)⟩

set_option maxRecDepth 100000 in
theorem allRight_any {w : World} {ao : Option Addr} {n cap : Nat} {l : List Int} (h : ClV w ao n cap l) (hn : n ≤ 1000000) :
    Calls Tryz.prog 69 #[.slice ao n cap] w fun e w' => e = .returned (.bool (l.all rightB)) ∧ Touch w w' [] := by
  have HL : Hid _ := h
  have HM : Hid _ := h.len
  clear h
  go_enter Tryz.func69, Tryz.ntmps69
  go_wp2_with fail
  go_loopw [7] (fun i wr => ∃ j : Nat, i = .int .i64 j ∧ j ≤ n ∧ l.all rightB = (l.drop j).all rightB ∧ Touch w wr []) (fun i _ => n - (intOf i).toNat)
  case atStart => exact ⟨0, rfl, Nat.zero_le _, rfl, Touch.refl _ _⟩
  case round =>
    obtain ⟨j, rfl, hj, hR, hT⟩ := hrel
    by_cases hlt : j < n
    · have h1 : (j : Int) < n := by omega
      have h0 : (0 : Int) ≤ j := by omega
      have hjl : j < l.length := by rw [← HM.out]; exact hlt
      have hjc : j < cap := Nat.lt_of_lt_of_le hlt HL.out.le
      obtain ⟨g, off, rfl, hg, x0⟩ := (HL.out.keep hT).at j hjl
      have hdrop : l.drop j = l[j] :: l.drop (j + 1) := List.drop_eq_getElem_cons hjl
      rw [hdrop, List.all_cons] at hR
      generalize l[j] = x at *
      have HRI : Hid (HidC Tryz.prog 85 #[.int .u64 x] wr fun e w' => e = .returned (.bool (rightB x)) ∧ wr = w') := ⟨right_any x wr⟩
      have HR : Hid _ := hR
      have HT : Hid _ := hT
      clear hR hT hdrop
      generalize rightB x = rb at *
      go_wp2_with fail
      refine HRI.out.out.mono ?_
      clear HRI
      rintro e w1 ⟨rfl, rfl⟩
      cases rb with
      | false =>
        have HR2 : Hid (l.all rightB = false) := by show _ = _; rw [show l.all rightB = _ from HR.out]; rfl
        clear HR
        go_wp2
        go_ret
        exact ⟨by rw [HR2.out]; rfl, HT.out⟩
      | true =>
        have HR2 : Hid (l.all rightB = (l.drop (j + 1)).all rightB) := by show _ = _; rw [show l.all rightB = _ from HR.out]; simp
        clear HR
        go_wp2
        go_roundw
        case rel => exact ⟨j + 1, by go_num, by omega, HR2.out, HT.out⟩
        case measure => simp [intOf]; omega
    · have h1 : ¬ (j : Int) < n := by omega
      have hjN : j = l.length := by rw [← HM.out]; omega
      rw [hjN, List.drop_length] at hR
      have HR2 : Hid (l.all rightB = true) := hR
      have HT : Hid _ := hT
      clear hR hT
      go_wp2
      go_ret
      exact ⟨by rw [HR2.out]; rfl, HT.out⟩

set_option maxRecDepth 100000 in
set_option maxHeartbeats 1600000 in
theorem clsame_any {ao bo : Option Addr} {n ca cb : Nat} {l : List Int} {w : World} (hn : n ≤ 1000) (ha : ClV w ao n ca l) (hb : ClV w bo n cb l) :
    Calls Tryz.prog 19 #[.slice ao n ca, .slice bo n cb] w fun e w' => e = .returned (.bool true) ∧ Touch w w' [] := by
  have HA : Hid _ := ha
  have HB : Hid _ := hb
  have HN : Hid _ := ha.len
  clear ha hb
  go_enter Tryz.func19, Tryz.ntmps19
  go_wp2_with fail
  go_loopw [5] (fun i wr => ∃ k : Nat, i = .int .i64 k ∧ k ≤ n ∧ Touch w wr []) (fun i _ => n - (intOf i).toNat)
  case atStart => exact ⟨0, rfl, Nat.zero_le _, Touch.refl _ _⟩
  case round =>
    obtain ⟨k, rfl, hk, t⟩ := hrel
    by_cases hlt : k < n
    · have h1 : (k : Int) < n := by omega
      have h0 : (0 : Int) ≤ k := by omega
      have hkl : k < l.length := by rw [← HN.out]; exact hlt
      obtain ⟨ga, oa, rfl, hga, c1⟩ := (HA.out.keep t).at k hkl
      obtain ⟨gb, ob, rfl, hgb, c2⟩ := (HB.out.keep t).at k hkl
      generalize l[k] = x at *
      go_wp2_with fail
      go_quiet (fail)
      go_wp2
      go_roundw
      case rel => exact ⟨k + 1, by go_num, by omega, t.drewN _⟩
      case measure => simp [intOf]; omega
    · go_wp2
      go_ret
      exact ⟨rfl, t⟩

/-- So many places, gone round. -/
def rndL (P : List Int) (f : Nat) (a : Nat) : List Int := (List.range a).map fun i => P.getD ((f + i) % P.length) 0
theorem rndL_succ (P : List Int) (f a : Nat) : rndL P f (a + 1) = rndL P f a ++ [P.getD ((f + a) % P.length) 0] := by
  unfold rndL; rw [List.range_succ, List.map_append]; rfl
theorem rndL_len (P : List Int) (f a : Nat) : (rndL P f a).length = a := by unfold rndL; simp
theorem rndL_wf {P : List Int} (h : ∀ x ∈ P, Wf64 x) (f a : Nat) : ∀ x ∈ rndL P f a, Wf64 x := by
  intro x hx
  unfold rndL at hx
  obtain ⟨i, _, rfl⟩ := List.mem_map.1 hx
  rw [List.getD_eq_getElem?_getD]
  cases hq : P[(f + i) % P.length]? with
  | none => exact ⟨by decide, by decide⟩
  | some y => exact h y (List.mem_of_getElem? hq)

/-- A row of values of one's own. -/
def clOwn (w : World) (B : Nat) (v : Value) (l : List Int) : Prop := w.ownsRow B 50 1 v l.length (l.flatMap clc)
theorem clOwn.v {w : World} {B : Nat} {a : Option Addr} {n c : Nat} {l : List Int} (h : clOwn w B (.slice a n c) l) (hn : n = l.length) (hw : ∀ x ∈ l, Wf64 x) : ClV w a n c l := by
  subst hn
  refine ⟨rfl, srow_of (cells := clc) (n := 1) (fun _ => rfl) h, ?_, hw⟩
  rcases h.2 with ⟨e, h0⟩ | ⟨g, cap, cur, e, _, _, hc, _⟩
  · simp only [Value.slice.injEq] at e; omega
  · simp only [Value.slice.injEq] at e; omega
theorem cl_app1 {w0 w : World} {v : Value} {xs : List Int} (ob : clOwn w w0.heap.size v xs) (t : Touch w0 w []) (x : Int) (n : Nat) (hn : xs.length = n) (h100 : n ≤ 100) :
    ∃ ao cap w', (Builtin.append_ #[33, 33] 33 #[v, .slice (some ⟨w.heap.size, 0, none⟩) 1 1]).run Tryz.prog (w.alloc (.cells #[.int .u64 x] 50)) = .ok (.slice ao (n + 1) cap) w' ∧ clOwn w' w0.heap.size (.slice ao (n + 1) cap) (xs ++ [x]) ∧ Touch w0 w' [] := by
  have ta : Touch w (w.alloc (.cells #[.int .u64 x] 50)) [] := (Touch.refl w []).alloc _
  have hlit : (w.alloc (.cells #[.int .u64 x] 50)).ownsRow w.heap.size 50 1 (.slice (some ⟨w.heap.size, 0, none⟩) 1 1) 1 [.int .u64 x] :=
    World.ownsRow_lit (base := w.heap.size) (e := 50) (size := 1) w #[.int .u64 x] 1 (Nat.le_refl _) (by unfold maxLen; omega) rfl
  obtain ⟨i0, hi, hz0, hz1, hz2⟩ := info_partsC Tryz.info_valC
  subst hn
  obtain ⟨v', w', h1, h2, h3, h4⟩ := run_app (P := Tryz.prog) (cells := clc) 33 33 50 i0 _ 1 8 Tryz.underlying33 hi hz0 hz1 hz2 rfl (by decide) (fun _ => rfl) (fun x u hu => by simp [clc] at hu; subst hu; rfl) (ownsRow_touch ob ta (by simp)) (l := [x]) (srow_of (cells := clc) (n := 1) (fun _ => rfl) hlit) (by simp; omega) (by decide) (Nat.le_trans t.size ta.size)
  have h2' : clOwn w' w0.heap.size v' (xs ++ [x]) := by
    show w'.ownsRow _ _ _ _ _ _
    rw [List.length_append, List.flatMap_append]
    exact h2
  obtain ⟨ao', cap', rfl⟩ := owns_slice h2
  refine ⟨ao', cap', w', h1, h2', (t.trans ta (by simp)).trans ((Touch.refl _ v.ownBlock.toList).grown h3 (fun k hk => .inl (by simp [hk]))) (fun x hx => .inr ?_)⟩
  exact (World.ownsRow.lt ob x (by simpa using hx)).1

set_option maxRecDepth 100000 in
set_option maxHeartbeats 1000000 in
theorem round_any {w : World} {g off p cap : Nat} {P : List Int} (h : ClV w (some ⟨g, off, none⟩) p cap P) (hp : 1 ≤ p ∧ p ≤ 100) (f a : Nat) (hf : f ≤ 100) (ha : a ≤ 100) :
    Calls Tryz.prog 71 #[.slice (some ⟨g, off, none⟩) p cap, .int .i64 f, .int .i64 a] w fun e w' => ∃ b c, e = .returned (.slice b a c) ∧ ClV w' b a c (rndL P f a) ∧ Touch w w' [] ∧ ∀ x, (Value.slice b a c).ownBlock = some x → w.heap.size ≤ x := by
  have HL : Hid _ := h
  have HM : Hid _ := h.len
  clear h
  go_enter Tryz.func71, Tryz.ntmps71
  go_wp2_with fail
  go_loopw [7, 10] (fun vv i wr => ∃ (j : Nat) (b : Option Addr) (c : Nat), i = .int .i64 j ∧ j ≤ a ∧ vv = .slice b j c ∧ clOwn wr w.heap.size (.slice b j c) (rndL P f j) ∧ Touch w wr []) (fun _ i _ => a - (intOf i).toNat)
  case atStart => exact ⟨0, none, 0, rfl, Nat.zero_le _, rfl, World.ownsRow_nil _ _ _ _, Touch.refl _ _⟩
  case round =>
    obtain ⟨j, b, c, rfl, hj, rfl, hown, hT⟩ := hrel
    by_cases hlt : j < a
    · have h1 : (j : Int) < a := by omega
      have h0 : (0 : Int) ≤ j := by omega
      have hlt2 : (f + j) % p < p := Nat.mod_lt _ (by omega)
      have hjl : (f + j) % p < P.length := by rw [← HM.out]; exact hlt2
      obtain ⟨g', off', e', hg, x0⟩ := (HL.out.keep hT).at ((f + j) % p) hjl
      simp only [Option.some.injEq, Addr.mk.injEq, and_true] at e'
      obtain ⟨rfl, rfl⟩ := e'
      have hx : P[(f + j) % p] = P.getD ((f + j) % P.length) 0 := by
        rw [← (show p = P.length from HM.out), List.getD_eq_getElem?_getD, List.getElem?_eq_getElem hjl]; rfl
      rw [hx] at x0
      have hs := rndL_succ P f j
      generalize P.getD ((f + j) % P.length) 0 = x at *
      obtain ⟨a1, c1, w1, r1, o1, t1⟩ := cl_app1 hown hT x j (rndL_len _ _ _) (by omega)
      rw [← hs] at o1
      have HO1 : Hid _ := o1
      have HT1 : Hid _ := t1
      obtain ⟨md, hmd⟩ : ∃ m : Nat, m = (f + j) % p := ⟨_, rfl⟩
      rw [← hmd] at x0 hlt2
      have hw1 : IntKind.i64.wrap ((f : Int) + j) = (f : Int) + j := by rw [IntKind.wrap_i64]; omega
      have hrem : ((f : Int) + j).tmod p = md := by rw [hmd]; rw [Int.natCast_emod, Int.natCast_add, Int.tmod_eq_emod_of_nonneg (by omega)]
      have hpz : ((p : Int) == 0) = false := by simp; omega
      have hm0 : (0 : Int) ≤ md := by omega
      have hm1 : (md : Int) < p := by omega
      have hm2 : md < cap := Nat.lt_of_lt_of_le hlt2 HL.out.le
      clear hown hT o1 t1 hx hs hjl hmd
      go_wp2_with (at_builtin; refine Lib.wpList_append_run _ rfl (.tmp 13) (.tmp 23) _ _ rfl _ _ rfl rfl _ _ r1 ?_)
      refine ⟨⟨j + 1, a1, c1, by go_num, by omega, rfl, HO1.out, HT1.out⟩, ?_⟩
      simp [intOf]; omega
    · have h1 : ¬ (j : Int) < a := by omega
      obtain rfl : j = a := by omega
      have HO : Hid _ := hown
      have HT : Hid _ := hT
      clear hown hT
      go_wp2
      go_ret
      exact ⟨b, c, rfl, clOwn.v HO.out (rndL_len _ _ _).symm (rndL_wf HL.out.wf _ _), HT.out, fun x hx => (World.ownsRow.lt HO.out x hx).1⟩

end Go.Proofs.YtcbkafbchpjnoaaGreatDoor
/-
  package calls: shape BY ITS CONTRACT.
-/
namespace Go.Proofs.YtcbkafbchpjnoaaGreatDoor
set_option linter.unusedVariables false
set_option linter.unusedSimpArgs false
open Go.RowKit
attribute [local go_sem] Oper.semAt_some

/-- How an object is. -/
structure ShD where
  o : Int
  c : Int
  g : Int
  l : List Int
def goodN (k n : Int) (h : List Int) : Bool := if k = 1 then (numR (h.getD 0 0) 4).2 else if k = 2 then (numR (h.getD 0 0) 99).2 else if k = 3 then (numR (h.getD 0 0) n).2 && (numR (h.getD 1 0) (n - 1)).2 else (numR (h.getD 0 0) (n - 1)).2 && (numR (h.getD 1 0) 9223372036854775807).2
def goodS (k n : Int) (h : List Int) : Bool := h.all rightB && goodN k n h
def datS (k n : Int) (h : List Int) : ShD := if k = 1 then ⟨(numR (h.getD 0 0) 4).1 - 1, 0, 0, []⟩ else if k = 2 then ⟨-1, (numR (h.getD 0 0) 99).1, 0, []⟩ else if k = 3 then ⟨-1, 0, 0, rndL (h.drop 2) (numR (h.getD 1 0) (n - 1)).1.toNat (numR (h.getD 0 0) n).1.toNat⟩ else ⟨-1, (numR (h.getD 0 0) (n - 1)).1, (numR (h.getD 1 0) 9223372036854775807).1, []⟩
def ShP (w : World) (k n : Int) (h : List Int) (e : Ending) (w' : World) : Prop :=
  ∃ (D : ShD) (m : Nat) (a : Option Addr) (cp : Nat), e = .returned (.tuple #[.agg #[.int .i64 D.o, .int .i64 D.c, .int .i64 D.g, .slice a m cp], .bool (goodS k n h)]) ∧ ClV w' a m cp D.l ∧ (goodS k n h = true → D = datS k n h) ∧ Touch w w' [] ∧ ∀ x, (Value.slice a m cp).ownBlock = some x → w.heap.size ≤ x
theorem clv_nil (w : World) : ClV w none 0 0 [] := ⟨rfl, ⟨none, 0, rfl, fun h => absurd rfl h⟩, Nat.le_refl _, fun x hx => by simp at hx⟩
theorem list1 {α : Type} {l : List α} (h : l.length = 1) : ∃ x, l = [x] := by
  match l, h with
  | [x], _ => exact ⟨x, rfl⟩
theorem list2 {α : Type} {l : List α} (h : l.length = 2) : ∃ x y, l = [x, y] := by
  match l, h with
  | [x, y], _ => exact ⟨x, y, rfl⟩
theorem list2' {α : Type} {l : List α} (h : 2 ≤ l.length) : ∃ x y t, l = x :: y :: t := by
  match l, h with
  | x :: y :: t, _ => exact ⟨x, y, t, rfl⟩

/-- The cell of a result that is a Shape. -/
structure ShW (w V : World) : Prop where
  st : V.heap[w.heap.size]? = some (.cells #[.int .i64 0, .int .i64 0, .int .i64 0, .slice none 0 0] 37 (0, 0))
  t : Touch w V []
theorem ShW.new (w : World) : ShW w (w.alloc (.cells #[.int .i64 0, .int .i64 0, .int .i64 0, .slice none 0 0] 37)) := ⟨heap_alloc_new w _, (Touch.refl _ _).alloc _⟩
theorem ShW.keep {w V V' : World} (h : ShW w V) (t : Touch V V' []) : ShW w V' := ⟨(t.block _ (lt_of_heap h.st) (by simp)).trans h.st, h.t.trans t (by simp)⟩
theorem shp4 {W : World} {p : Nat} {x y z u : Value} (h : W.heap[p]? = some (.cells #[x, y, z, u] 37 (0, 0))) : W.cell? ⟨p, 0, none⟩ = some x ∧ W.cell? ⟨p, 1, none⟩ = some y ∧ W.cell? ⟨p, 2, none⟩ = some z ∧ W.cell? ⟨p, 3, none⟩ = some u := ⟨by unfold World.cell?; rw [h]; rfl, by unfold World.cell?; rw [h]; rfl, by unfold World.cell?; rw [h]; rfl, by unfold World.cell?; rw [h]; rfl⟩
theorem ShW.fr {w V : World} (h : ShW w V) (j : Nat) : V.frozen? ⟨w.heap.size, j, none⟩ = false := by unfold World.frozen?; rw [h.st]; simp
theorem ShW.fin {w V : World} (h : ShW w V) (x y z u : Value) : Touch V ((((V.setCell ⟨w.heap.size, 0, none⟩ x).setCell ⟨w.heap.size, 1, none⟩ y).setCell ⟨w.heap.size, 2, none⟩ z).setCell ⟨w.heap.size, 3, none⟩ u) [w.heap.size] ∧ Touch w ((((V.setCell ⟨w.heap.size, 0, none⟩ x).setCell ⟨w.heap.size, 1, none⟩ y).setCell ⟨w.heap.size, 2, none⟩ z).setCell ⟨w.heap.size, 3, none⟩ u) [] ∧ ((((V.setCell ⟨w.heap.size, 0, none⟩ x).setCell ⟨w.heap.size, 1, none⟩ y).setCell ⟨w.heap.size, 2, none⟩ z).setCell ⟨w.heap.size, 3, none⟩ u).heap[w.heap.size]? = some (.cells #[x, y, z, u] 37 (0, 0)) := by
  have t0 : Touch V ((((V.setCell ⟨w.heap.size, 0, none⟩ x).setCell ⟨w.heap.size, 1, none⟩ y).setCell ⟨w.heap.size, 2, none⟩ z).setCell ⟨w.heap.size, 3, none⟩ u) [w.heap.size] := ((((Touch.refl V _).setCell (.inl (by simp)) _).setCell (.inl (by simp)) _).setCell (.inl (by simp)) _).setCell (.inl (by simp)) _
  refine ⟨t0, h.t.trans t0 (fun x hx => .inr (by simp at hx; omega)), ?_⟩
  rw [heap_setCell_same _ _ _ _ _ _ (heap_setCell_same _ _ _ _ _ _ (heap_setCell_same _ _ _ _ _ _ (heap_setCell_same _ _ _ _ _ _ h.st)))]
  rfl
theorem ClV.other {w w' : World} {ao : Option Addr} {n cap : Nat} {l : List Int} {S : List Nat} (h : ClV w ao n cap l) (t : Touch w w' S) (hS : l ≠ [] → ∀ x, (Value.slice ao l.length cap).ownBlock = some x → x ∉ S) : ClV w' ao n cap l := ⟨h.len, SRow.keepB h.row t hS, h.le, h.wf⟩
theorem ClV.drop2 {w : World} {g off n cap : Nat} {x y : Int} {t : List Int} (h : ClV w (some ⟨g, off, none⟩) n cap (x :: y :: t)) : ClV w (some ⟨g, off + 2, none⟩) (n - 2) (cap - 2) t := by
  have hl := h.len
  have hc := h.le
  simp only [List.length_cons] at hl
  refine ⟨by omega, ?_, by omega, fun z hz => h.wf z (by simp [hz])⟩
  obtain ⟨ao, cp, e, h1⟩ := h.row
  simp only [Value.slice.injEq, true_and] at e
  obtain ⟨rfl, rfl⟩ := e
  obtain ⟨g', off', e2, hlt, hcl⟩ := h1 (by simp)
  simp only [Option.some.injEq, Addr.mk.injEq, and_true] at e2
  obtain ⟨rfl, rfl⟩ := e2
  refine ⟨_, _, rfl, fun _ => ⟨g, off + 2, rfl, hlt, fun k hk j hj => ?_⟩⟩
  have := hcl (k + 2) (by simp; omega) j hj
  rw [show off + (k + 2) * 1 + j = off + 2 + k * 1 + j by omega] at this
  rw [this]
  rfl

set_option maxRecDepth 100000 in
set_option maxHeartbeats 1000000 in
theorem shape_no {w : World} (k n : Int) {ao : Option Addr} {p cap : Nat} {h : List Int} (hh : ClV w ao p cap h) (hp : p ≤ 10) (hr : h.all rightB = false) :
    Calls Tryz.prog 38 #[.int .u8 k, .int .i64 n, .slice ao p cap] w (ShP w k n h) := by
  have hc := allRight_any (hh.keep ((Touch.refl w []).alloc (.cells #[.int .i64 0, .int .i64 0, .int .i64 0, .slice none 0 0] 37))) (by omega)
  rw [hr] at hc
  have HC : HidC _ _ _ _ _ := ⟨hc⟩
  have HG : Hid (goodS k n h = false) := by show _ = _; unfold goodS; rw [hr]; rfl
  have HS0 : Hid _ := ShW.new w
  clear hc hh hr
  go_enter Tryz.func38, Tryz.ntmps38
  go_wp2_with fail
  refine HC.out.mono ?_
  clear HC
  rintro e w1 ⟨rfl, t⟩
  have hs := HS0.out.keep t
  have HS : Hid (ShW w w1) := hs
  obtain ⟨s0, s1, s2, s3⟩ := shp4 hs.st
  have f0 := hs.fr 0
  have f1 := hs.fr 1
  have f2 := hs.fr 2
  have f3 := hs.fr 3
  have HFIN : Hid _ := (show ShW w w1 from hs).fin (.int .i64 0) (.int .i64 0) (.int .i64 0) (.slice none 0 0)
  clear t hs HS0
  go_wp2
  obtain ⟨u0, u1, u2⟩ := HFIN.out
  obtain ⟨p0, p1, p2, p3⟩ := shp4 u2
  refine bodyPost_ret (v := .tuple #[.agg #[.int .i64 0, .int .i64 0, .int .i64 0, .slice none 0 0], .bool false]) ?_ rfl ⟨⟨0, 0, 0, []⟩, 0, none, 0, by rw [HG.out], clv_nil _, (fun hq => by rw [show goodS k n h = false from HG.out] at hq; cases hq), u1, fun x hx => by simp [Value.ownBlock] at hx⟩
  simp [results, Tryz.results38, go_sem, p0, p1, p2, p3]

set_option maxRecDepth 100000 in
set_option maxHeartbeats 1000000 in
theorem shape_1 {w : World} {ao : Option Addr} {cap : Nat} {x : Int} (hh : ClV w ao 1 cap [x]) (hr : [x].all rightB = true) :
    Calls Tryz.prog 38 #[.int .u8 1, .int .i64 0, .slice ao 1 cap] w (ShP w 1 0 [x]) := by
  have hc := allRight_any (hh.keep ((Touch.refl w []).alloc (.cells #[.int .i64 0, .int .i64 0, .int .i64 0, .slice none 0 0] 37))) (by omega)
  rw [hr] at hc
  have HC : HidC _ _ _ _ _ := ⟨hc⟩
  have HNU : Hid (∀ W, HidC Tryz.prog 70 #[.int .u64 x, .int .i64 4] W fun e w' => e = .returned (.tuple #[.int .i64 (numR x 4).1, .bool (numR x 4).2]) ∧ Touch W w' []) := fun W => ⟨clnumber_any x 4 (hh.wf x (by simp)) W⟩
  have hrg := numR_range (hh.wf x (by simp)) (show (0 : Int) ≤ 4 by omega)
  have HG : Hid (goodS 1 0 [x] = (numR x 4).2) := by show _ = _; unfold goodS; rw [hr]; rfl
  have HD : Hid (datS 1 0 [x] = ⟨(numR x 4).1 - 1, 0, 0, []⟩) := rfl
  have hw1 : IntKind.i64.wrap ((numR x 4).1 - 1) = (numR x 4).1 - 1 := by rw [IntKind.wrap_i64]; omega
  have HS0 : Hid _ := ShW.new w
  have hcap := hh.le
  obtain ⟨g, off, rfl, hg, c0⟩ := hh.at 0 (by simp)
  have HX : Hid (∀ W, Touch w W [] → W.cell? ⟨g, off, none⟩ = some (.int .u64 x)) := fun W tw => (tw.cell (p := ⟨g, off, none⟩) hg (by simp)).trans c0
  generalize numR x 4 = r at *
  obtain ⟨r1, r2⟩ := r
  simp only at HNU HG HD hw1
  clear hc hh hr hrg c0
  go_enter Tryz.func38, Tryz.ntmps38
  go_wp2_with fail
  refine HC.out.mono ?_
  clear HC
  rintro e w1 ⟨rfl, t⟩
  have HS1 : Hid (ShW w w1) := HS0.out.keep t
  have x0 := HX.out w1 (show ShW w w1 from HS1.out).t
  clear t HS0
  go_wp2_with fail
  refine (HNU.out _).out.mono ?_
  clear HNU
  rintro e w2 ⟨rfl, t⟩
  have hs : ShW w w2 := HS1.out.keep t
  obtain ⟨s0, s1, s2, s3⟩ := shp4 hs.st
  have f0 := hs.fr 0
  have f1 := hs.fr 1
  have f2 := hs.fr 2
  have f3 := hs.fr 3
  have HFIN : Hid _ := hs.fin (.int .i64 (r1 - 1)) (.int .i64 0) (.int .i64 0) (.slice none 0 0)
  clear t hs HS1 x0
  go_wp2
  obtain ⟨u0, u1, u2⟩ := HFIN.out
  obtain ⟨p0, p1, p2, p3⟩ := shp4 u2
  refine bodyPost_ret (v := .tuple #[.agg #[.int .i64 (r1 - 1), .int .i64 0, .int .i64 0, .slice none 0 0], .bool r2]) ?_ rfl ⟨⟨r1 - 1, 0, 0, []⟩, 0, none, 0, by rw [HG.out], clv_nil _, fun _ => HD.out.symm, u1, fun x hx => by simp [Value.ownBlock] at hx⟩
  simp [results, Tryz.results38, go_sem, p0, p1, p2, p3]

set_option maxRecDepth 100000 in
set_option maxHeartbeats 1000000 in
theorem shape_2 {w : World} {ao : Option Addr} {cap : Nat} {x : Int} (hh : ClV w ao 1 cap [x]) (hr : [x].all rightB = true) (n : Int) :
    Calls Tryz.prog 38 #[.int .u8 2, .int .i64 n, .slice ao 1 cap] w (ShP w 2 n [x]) := by
  have hc := allRight_any (hh.keep ((Touch.refl w []).alloc (.cells #[.int .i64 0, .int .i64 0, .int .i64 0, .slice none 0 0] 37))) (by omega)
  rw [hr] at hc
  have HC : HidC _ _ _ _ _ := ⟨hc⟩
  have HNU : Hid (∀ W, HidC Tryz.prog 70 #[.int .u64 x, .int .i64 99] W fun e w' => e = .returned (.tuple #[.int .i64 (numR x 99).1, .bool (numR x 99).2]) ∧ Touch W w' []) := fun W => ⟨clnumber_any x 99 (hh.wf x (by simp)) W⟩
  have hrg := numR_range (hh.wf x (by simp)) (show (0 : Int) ≤ 99 by omega)
  have HG : Hid (goodS 2 n [x] = (numR x 99).2) := by show _ = _; unfold goodS goodN; rw [hr, if_neg (by decide), if_pos rfl, Bool.true_and]; rfl
  have HD : Hid (datS 2 n [x] = ⟨-1, (numR x 99).1, 0, []⟩) := by show _ = _; unfold datS; rw [if_neg (by decide), if_pos rfl]; rfl
  have HS0 : Hid _ := ShW.new w
  have hcap := hh.le
  obtain ⟨g, off, rfl, hg, c0⟩ := hh.at 0 (by simp)
  have HX : Hid (∀ W, Touch w W [] → W.cell? ⟨g, off, none⟩ = some (.int .u64 x)) := fun W tw => (tw.cell (p := ⟨g, off, none⟩) hg (by simp)).trans c0
  generalize numR x 99 = r at *
  obtain ⟨r1, r2⟩ := r
  simp only at HNU HG HD
  clear hc hh hr hrg c0
  go_enter Tryz.func38, Tryz.ntmps38
  go_wp2_with fail
  refine HC.out.mono ?_
  clear HC
  rintro e w1 ⟨rfl, t⟩
  have HS1 : Hid (ShW w w1) := HS0.out.keep t
  have x0 := HX.out w1 (show ShW w w1 from HS1.out).t
  clear t HS0
  go_wp2_with fail
  refine (HNU.out _).out.mono ?_
  clear HNU
  rintro e w2 ⟨rfl, t⟩
  have hs : ShW w w2 := HS1.out.keep t
  obtain ⟨s0, s1, s2, s3⟩ := shp4 hs.st
  have f0 := hs.fr 0
  have f1 := hs.fr 1
  have f2 := hs.fr 2
  have f3 := hs.fr 3
  have HFIN : Hid _ := hs.fin (.int .i64 (-1)) (.int .i64 r1) (.int .i64 0) (.slice none 0 0)
  clear t hs HS1 x0
  go_wp2
  obtain ⟨u0, u1, u2⟩ := HFIN.out
  obtain ⟨p0, p1, p2, p3⟩ := shp4 u2
  refine bodyPost_ret (v := .tuple #[.agg #[.int .i64 (-1), .int .i64 r1, .int .i64 0, .slice none 0 0], .bool r2]) ?_ rfl ⟨⟨-1, r1, 0, []⟩, 0, none, 0, by rw [HG.out], clv_nil _, fun _ => HD.out.symm, u1, fun x hx => by simp [Value.ownBlock] at hx⟩
  simp [results, Tryz.results38, go_sem, p0, p1, p2, p3]

set_option maxRecDepth 100000 in
set_option maxHeartbeats 1000000 in
theorem shape_4 {w : World} {ao : Option Addr} {cap : Nat} {x y : Int} (hh : ClV w ao 2 cap [x, y]) (hr : [x, y].all rightB = true) (n : Int) (hn : 1 ≤ n ∧ n ≤ 4) :
    Calls Tryz.prog 38 #[.int .u8 4, .int .i64 n, .slice ao 2 cap] w (ShP w 4 n [x, y]) := by
  have hc := allRight_any (hh.keep ((Touch.refl w []).alloc (.cells #[.int .i64 0, .int .i64 0, .int .i64 0, .slice none 0 0] 37))) (by omega)
  rw [hr] at hc
  have HC : HidC _ _ _ _ _ := ⟨hc⟩
  have HNX : Hid (∀ W, HidC Tryz.prog 70 #[.int .u64 x, .int .i64 (n - 1)] W fun e w' => e = .returned (.tuple #[.int .i64 (numR x (n - 1)).1, .bool (numR x (n - 1)).2]) ∧ Touch W w' []) := fun W => ⟨clnumber_any x (n - 1) (hh.wf x (by simp)) W⟩
  have HNY : Hid (∀ W, HidC Tryz.prog 70 #[.int .u64 y, .int .i64 9223372036854775807] W fun e w' => e = .returned (.tuple #[.int .i64 (numR y 9223372036854775807).1, .bool (numR y 9223372036854775807).2]) ∧ Touch W w' []) := fun W => ⟨clnumber_any y 9223372036854775807 (hh.wf y (by simp)) W⟩
  have HG : Hid (goodS 4 n [x, y] = ((numR x (n - 1)).2 && (numR y 9223372036854775807).2)) := by show _ = _; unfold goodS; rw [hr]; rfl
  have HD : Hid (datS 4 n [x, y] = ⟨-1, (numR x (n - 1)).1, (numR y 9223372036854775807).1, []⟩) := rfl
  have hw1 : IntKind.i64.wrap (n - 1) = n - 1 := by rw [IntKind.wrap_i64]; omega
  have HS0 : Hid _ := ShW.new w
  have hcap := hh.le
  obtain ⟨g, off, rfl, hg, c0⟩ := hh.at 0 (by simp)
  obtain ⟨g', off', e', hg', c1⟩ := hh.at 1 (by simp)
  simp only [Option.some.injEq, Addr.mk.injEq, and_true] at e'
  obtain ⟨rfl, rfl⟩ := e'
  have HX : Hid (∀ W, Touch w W [] → W.cell? ⟨g, off, none⟩ = some (.int .u64 x) ∧ W.cell? ⟨g, off + 1, none⟩ = some (.int .u64 y)) := fun W tw => ⟨(tw.cell (p := ⟨g, off, none⟩) hg (by simp)).trans c0, (tw.cell (p := ⟨g, off + 1, none⟩) hg (by simp)).trans c1⟩
  generalize numR x (n - 1) = r at *
  generalize numR y 9223372036854775807 = q at *
  obtain ⟨r1, r2⟩ := r
  obtain ⟨q1, q2⟩ := q
  simp only at HNX HNY HG HD
  clear hc hh hr c0 c1
  go_enter Tryz.func38, Tryz.ntmps38
  go_wp2_with fail
  refine HC.out.mono ?_
  clear HC
  rintro e w1 ⟨rfl, t⟩
  have HS1 : Hid (ShW w w1) := HS0.out.keep t
  obtain ⟨x0, y0⟩ := HX.out w1 (show ShW w w1 from HS1.out).t
  clear t HS0
  go_wp2_with fail
  refine (HNX.out _).out.mono ?_
  clear HNX
  rintro e w2 ⟨rfl, t⟩
  have HS2 : Hid (ShW w w2) := HS1.out.keep t
  obtain ⟨x2, y2⟩ := HX.out w2 (show ShW w w2 from HS2.out).t
  clear t HS1 x0 y0
  go_wp2_with fail
  refine (HNY.out _).out.mono ?_
  clear HNY
  rintro e w3 ⟨rfl, t⟩
  have hs : ShW w w3 := HS2.out.keep t
  obtain ⟨s0, s1, s2, s3⟩ := shp4 hs.st
  have f0 := hs.fr 0
  have f1 := hs.fr 1
  have f2 := hs.fr 2
  have f3 := hs.fr 3
  have HFIN : Hid _ := hs.fin (.int .i64 (-1)) (.int .i64 r1) (.int .i64 q1) (.slice none 0 0)
  clear t hs HS2 x2 y2
  cases r2 with
  | true =>
    go_wp2
    obtain ⟨u0, u1, u2⟩ := HFIN.out
    obtain ⟨p0, p1, p2, p3⟩ := shp4 u2
    refine bodyPost_ret (v := .tuple #[.agg #[.int .i64 (-1), .int .i64 r1, .int .i64 q1, .slice none 0 0], .bool q2]) ?_ rfl ⟨⟨-1, r1, q1, []⟩, 0, none, 0, by rw [HG.out]; simp, clv_nil _, fun _ => HD.out.symm, u1, fun x hx => by simp [Value.ownBlock] at hx⟩
    simp [results, Tryz.results38, go_sem, p0, p1, p2, p3]
  | false =>
    go_wp2
    obtain ⟨u0, u1, u2⟩ := HFIN.out
    obtain ⟨p0, p1, p2, p3⟩ := shp4 u2
    refine bodyPost_ret (v := .tuple #[.agg #[.int .i64 (-1), .int .i64 r1, .int .i64 q1, .slice none 0 0], .bool false]) ?_ rfl ⟨⟨-1, r1, q1, []⟩, 0, none, 0, by rw [HG.out]; simp, clv_nil _, fun _ => HD.out.symm, u1, fun x hx => by simp [Value.ownBlock] at hx⟩
    simp [results, Tryz.results38, go_sem, p0, p1, p2, p3]

set_option maxRecDepth 100000 in
set_option maxHeartbeats 1000000 in
theorem shape_3 {w : World} {ao : Option Addr} {p cap : Nat} {x y : Int} {P : List Int} (hh : ClV w ao p cap (x :: y :: P)) (hr : (x :: y :: P).all rightB = true) (n : Int) (hn : 1 ≤ n ∧ n ≤ 4) (hp : (p : Int) = n + 2) :
    Calls Tryz.prog 38 #[.int .u8 3, .int .i64 n, .slice ao p cap] w (ShP w 3 n (x :: y :: P)) := by
  have hc := allRight_any (hh.keep ((Touch.refl w []).alloc (.cells #[.int .i64 0, .int .i64 0, .int .i64 0, .slice none 0 0] 37))) (by omega)
  rw [hr] at hc
  have HC : HidC _ _ _ _ _ := ⟨hc⟩
  have HNX : Hid (∀ W, HidC Tryz.prog 70 #[.int .u64 x, .int .i64 n] W fun e w' => e = .returned (.tuple #[.int .i64 (numR x n).1, .bool (numR x n).2]) ∧ Touch W w' []) := fun W => ⟨clnumber_any x n (hh.wf x (by simp)) W⟩
  have HNY : Hid (∀ W, HidC Tryz.prog 70 #[.int .u64 y, .int .i64 (n - 1)] W fun e w' => e = .returned (.tuple #[.int .i64 (numR y (n - 1)).1, .bool (numR y (n - 1)).2]) ∧ Touch W w' []) := fun W => ⟨clnumber_any y (n - 1) (hh.wf y (by simp)) W⟩
  have HG : Hid (goodS 3 n (x :: y :: P) = ((numR x n).2 && (numR y (n - 1)).2)) := by show _ = _; unfold goodS; rw [hr]; rfl
  have HD : Hid (datS 3 n (x :: y :: P) = ⟨-1, 0, 0, rndL P (numR y (n - 1)).1.toNat (numR x n).1.toNat⟩) := rfl
  have hw1 : IntKind.i64.wrap (n - 1) = n - 1 := by rw [IntKind.wrap_i64]; omega
  have hrx := numR_range (hh.wf x (by simp)) (show (0 : Int) ≤ n by omega)
  have hry := numR_range (hh.wf y (by simp)) (show (0 : Int) ≤ n - 1 by omega)
  have HS0 : Hid _ := ShW.new w
  have hcap := hh.le
  obtain ⟨g, off, rfl, hg, c0⟩ := hh.at 0 (by simp)
  obtain ⟨g', off', e', hg', c1⟩ := hh.at 1 (by simp)
  simp only [Option.some.injEq, Addr.mk.injEq, and_true] at e'
  obtain ⟨rfl, rfl⟩ := e'
  have HX : Hid (∀ W, Touch w W [] → W.cell? ⟨g, off, none⟩ = some (.int .u64 x) ∧ W.cell? ⟨g, off + 1, none⟩ = some (.int .u64 y)) := fun W tw => ⟨(tw.cell (p := ⟨g, off, none⟩) hg (by simp)).trans c0, (tw.cell (p := ⟨g, off + 1, none⟩) hg (by simp)).trans c1⟩
  have hd2 := hh.drop2
  obtain ⟨rx, hrxe⟩ : ∃ m : Nat, (m : Int) = (numR x n).1 := ⟨(numR x n).1.toNat, by omega⟩
  obtain ⟨ry, hrye⟩ : ∃ m : Nat, (m : Int) = (numR y (n - 1)).1 := ⟨(numR y (n - 1)).1.toNat, by omega⟩
  have HD2 : Hid (datS 3 n (x :: y :: P) = ⟨-1, 0, 0, rndL P ry rx⟩) := by show _ = _; rw [HD.out, ← hrxe, ← hrye]; simp
  have HRN : Hid (∀ W, Touch w W [] → HidC Tryz.prog 71 #[.slice (some ⟨g, off + 2, none⟩) (p - 2 : Nat) (cap - 2 : Nat), .int .i64 ry, .int .i64 rx] W fun e w' => ∃ b c, e = .returned (.slice b rx c) ∧ ClV w' b rx c (rndL P ry rx) ∧ Touch W w' [] ∧ ∀ x, (Value.slice b rx c).ownBlock = some x → W.heap.size ≤ x) := fun W tw => ⟨round_any (hd2.keep tw) (by omega) ry rx (by omega) (by omega)⟩
  have hr2 : (numR x n).2 = (numR x n).2 := rfl
  generalize hR : numR x n = r at *
  generalize hQ : numR y (n - 1) = q at *
  obtain ⟨r1, r2⟩ := r
  obtain ⟨q1, q2⟩ := q
  simp only at HNX HNY HG HD hrxe hrye
  subst hrxe hrye
  have hp2 : (2 : Int) ≤ p := by omega
  have hp3 : ((p : Int) - 2) = ((p - 2 : Nat) : Int) := by omega
  clear hc hh hr c0 c1 HD hd2 hR hQ hr2 hrx hry
  go_enter Tryz.func38, Tryz.ntmps38
  go_wp2_with fail
  refine HC.out.mono ?_
  clear HC
  rintro e w1 ⟨rfl, t⟩
  have HS1 : Hid (ShW w w1) := HS0.out.keep t
  obtain ⟨x0, y0⟩ := HX.out w1 (show ShW w w1 from HS1.out).t
  clear t HS0
  go_wp2_with fail
  refine (HNX.out _).out.mono ?_
  clear HNX
  rintro e w2 ⟨rfl, t⟩
  have HS2 : Hid (ShW w w2) := HS1.out.keep t
  obtain ⟨x2, y2⟩ := HX.out w2 (show ShW w w2 from HS2.out).t
  clear t HS1 x0 y0
  go_wp2_with fail
  refine (HNY.out _).out.mono ?_
  clear HNY
  rintro e w3 ⟨rfl, t⟩
  have HS3 : Hid (ShW w w3) := HS2.out.keep t
  clear t HS2 x2 y2
  have HRN3 := HRN.out w3 (show ShW w w3 from HS3.out).t
  clear HRN
  go_wp2_with fail
  refine HRN3.out.mono ?_
  clear HRN3
  rintro e w4 ⟨b, c, rfl, hv, t, hnew⟩
  have hs : ShW w w4 := HS3.out.keep t
  obtain ⟨s0, s1, s2, s3⟩ := shp4 hs.st
  have f0 := hs.fr 0
  have f1 := hs.fr 1
  have f2 := hs.fr 2
  have f3 := hs.fr 3
  have hfin := hs.fin (.int .i64 (-1)) (.int .i64 0) (.int .i64 0) (.slice b rx c)
  have HV : Hid (ClV ((((w4.setCell ⟨w.heap.size, 0, none⟩ (.int .i64 (-1))).setCell ⟨w.heap.size, 1, none⟩ (.int .i64 0)).setCell ⟨w.heap.size, 2, none⟩ (.int .i64 0)).setCell ⟨w.heap.size, 3, none⟩ (.slice b rx c)) b rx c (rndL P ry rx)) := by
    refine hv.other hfin.1 (fun _ x hx hm => ?_)
    have hq := lt_of_heap (show ShW w w3 from HS3.out).st
    rw [rndL_len] at hx
    have := hnew x hx
    simp at hm
    omega
  have HFIN : Hid _ := hfin
  have HNEW : Hid (∀ x, (Value.slice b rx c).ownBlock = some x → w.heap.size ≤ x) := fun x hx => Nat.le_trans (show ShW w w3 from HS3.out).t.size (hnew x hx)
  clear hs hv hfin t HS3 hnew
  cases r2 with
  | true =>
    go_wp2
    obtain ⟨u0, u1, u2⟩ := HFIN.out
    obtain ⟨p0, p1, p2, p3⟩ := shp4 u2
    refine bodyPost_ret (v := .tuple #[.agg #[.int .i64 (-1), .int .i64 0, .int .i64 0, .slice b rx c], .bool q2]) ?_ rfl ⟨⟨-1, 0, 0, rndL P ry rx⟩, rx, b, c, by rw [HG.out]; simp, HV.out, fun _ => HD2.out.symm, u1, HNEW.out⟩
    simp [results, Tryz.results38, go_sem, p0, p1, p2, p3]
  | false =>
    go_wp2
    obtain ⟨u0, u1, u2⟩ := HFIN.out
    obtain ⟨p0, p1, p2, p3⟩ := shp4 u2
    refine bodyPost_ret (v := .tuple #[.agg #[.int .i64 (-1), .int .i64 0, .int .i64 0, .slice b rx c], .bool false]) ?_ rfl ⟨⟨-1, 0, 0, rndL P ry rx⟩, rx, b, c, by rw [HG.out]; simp, HV.out, fun _ => HD2.out.symm, u1, HNEW.out⟩
    simp [results, Tryz.results38, go_sem, p0, p1, p2, p3]

end Go.Proofs.YtcbkafbchpjnoaaGreatDoor
/-
  package calls: ShapeOf BY ITS CONTRACT.
-/
namespace Go.Proofs.YtcbkafbchpjnoaaGreatDoor
set_option linter.unusedVariables false
set_option linter.unusedSimpArgs false
open Go.RowKit
attribute [local go_sem] Oper.semAt_some

theorem shape_any {w : World} (k n : Int) {ao : Option Addr} {p cap : Nat} {h : List Int} (ho : okO k n = true) (hh : ClV w ao p cap h) (hp : (p : Int) = tvN k n) :
    Calls Tryz.prog 38 #[.int .u8 k, .int .i64 n, .slice ao p cap] w (ShP w k n h) := by
  have hw := (okO_is k n).1 ho
  have htv := tv_le ho
  have htn : tvN k n = if k = 3 then n + 2 else if k = 4 then 2 else 1 := by unfold tvN; rw [ho]; rfl
  cases hr : h.all rightB with
  | false => exact shape_no k n hh (by omega) hr
  | true =>
    rw [htn] at hp
    have hl := hh.len
    rcases hw with ⟨rfl, rfl⟩ | ⟨rfl, h1⟩ | ⟨rfl, h1⟩ | ⟨rfl, h1⟩
    · rw [if_neg (by decide), if_neg (by decide)] at hp
      obtain rfl : p = 1 := by omega
      obtain ⟨x, rfl⟩ := list1 hl.symm
      exact shape_1 hh hr
    · rw [if_neg (by decide), if_neg (by decide)] at hp
      obtain rfl : p = 1 := by omega
      obtain ⟨x, rfl⟩ := list1 hl.symm
      exact shape_2 hh hr n
    · rw [if_pos rfl] at hp
      obtain ⟨x, y, P, rfl⟩ := list2' (show 2 ≤ h.length by omega)
      exact shape_3 hh hr n h1 hp
    · rw [if_neg (by decide), if_pos rfl] at hp
      obtain rfl : p = 2 := by omega
      obtain ⟨x, y, rfl⟩ := list2 hl.symm
      exact shape_4 hh hr n h1

/-- What ShapeOf comes to. -/
def shE (k n : Int) (h : List Int) : Int := if okO k n then (if (h.length : Int) = tvN k n then (if goodS k n h then 0 else 8) else 2) else 3
def shO (k n : Int) (h : List Int) : ShD := if shE k n h = 0 then datS k n h else ⟨0, 0, 0, []⟩
def SoP (w : World) (k n : Int) (h : List Int) (e : Ending) (w' : World) : Prop :=
  ∃ (m : Nat) (a : Option Addr) (cp : Nat), e = .returned (.tuple #[.agg #[.int .i64 (shO k n h).o, .int .i64 (shO k n h).c, .int .i64 (shO k n h).g, .slice a m cp], .int .i64 (shE k n h)]) ∧ ClV w' a m cp (shO k n h).l ∧ Touch w w' []

set_option maxRecDepth 100000 in
set_option maxHeartbeats 600000 in
theorem shapeof_any {w : World} (k n : Int) {ao : Option Addr} {p cap : Nat} {h : List Int} (hh : ClV w ao p cap h) (hp : p ≤ 1000000) :
    Calls Tryz.prog 15 #[.int .u8 k, .int .i64 n, .slice ao p cap] w (SoP w k n h) := by
  have HN : HidC _ _ _ _ _ := ⟨onew_any k n (w.alloc (.cells #[.int .i64 0, .int .i64 0, .int .i64 0, .slice none 0 0] 37))⟩
  have HS0 : Hid _ := ShW.new w
  cases ho : okO k n with
  | false =>
    have HE : Hid (shE k n h = 3) := by show _ = _; unfold shE; rw [ho]; rfl
    have HO : Hid (shO k n h = ⟨0, 0, 0, []⟩) := by show _ = _; unfold shO; rw [HE.out]; rfl
    clear hh
    go_enter Tryz.func15, Tryz.ntmps15
    go_wp2_with fail
    refine HN.out.mono ?_
    clear HN
    rintro e w1 (⟨hq, b, rfl, ha, hb, t⟩ | ⟨hq, rfl, t⟩)
    · rw [ho] at hq; cases hq
    · have hs : ShW w w1 := HS0.out.keep t
      obtain ⟨s0, s1, s2, s3⟩ := shp4 hs.st
      have f0 := hs.fr 0
      have f1 := hs.fr 1
      have f2 := hs.fr 2
      have f3 := hs.fr 3
      have HFIN : Hid _ := hs.fin (.int .i64 0) (.int .i64 0) (.int .i64 0) (.slice none 0 0)
      clear t hs HS0
      go_wp2
      obtain ⟨u0, u1, u2⟩ := HFIN.out
      obtain ⟨p0, p1, p2, p3⟩ := shp4 u2
      refine bodyPost_ret (v := .tuple #[.agg #[.int .i64 0, .int .i64 0, .int .i64 0, .slice none 0 0], .int .i64 3]) ?_ rfl ⟨0, none, 0, by rw [HO.out, HE.out], by rw [HO.out]; exact clv_nil _, u1⟩
      simp [results, Tryz.results15, go_sem, p0, p1, p2, p3]
  | true =>
    have HOK : Hid _ := ho
    have HTN : Hid (∀ W, HidC Tryz.prog 17 #[.int .u8 k, .int .i64 n] W fun e w' => e = .returned (.int .i64 (tvN k n)) ∧ Touch W w' []) := fun W => ⟨tvars_any k n W⟩
    have HHV : Hid _ := hh
    have hl := hh.len
    by_cases hpt : (p : Int) = tvN k n
    · have HPT : Hid _ := hpt
      rw [← hpt] at HTN
      have HLN : Hid _ := hl
      clear hh hpt hl
      go_enter Tryz.func15, Tryz.ntmps15
      go_wp2_with fail
      refine HN.out.mono ?_
      clear HN
      rintro e w1 (⟨hq, b, rfl, ha, hb, t⟩ | ⟨hq, rfl, t⟩)
      · have HS1 : Hid (ShW w w1) := HS0.out.keep t
        clear t HS0 ha hb hq
        go_wp2_with fail
        refine (HTN.out _).out.mono ?_
        clear HTN
        rintro e w2 ⟨rfl, t⟩
        have HS2 : Hid (ShW w w2) := HS1.out.keep t
        have HSH : HidC _ _ _ _ _ := ⟨shape_any k n ho (HHV.out.keep (show ShW w w2 from HS2.out).t) HPT.out⟩
        clear t HS1
        go_wp2_with fail
        refine HSH.out.mono ?_
        clear HSH
        rintro e w3 ⟨D, m, a, cp, rfl, hv, hd, t, hnw⟩
        have hs3 : ShW w w3 := HS2.out.keep t
        obtain ⟨Do, Dc, Dg, Dl⟩ := D
        simp only at hv hd ⊢
        have tA : Touch w3 (w3.alloc (.cells #[.int .i64 Do, .int .i64 Dc, .int .i64 Dg, .slice a m cp] 37)) [] := (Touch.refl _ _).alloc _
        have hs := hs3.keep tA
        obtain ⟨y0, y1, y2, y3⟩ := shp4 (heap_alloc_new w3 (.cells #[.int .i64 Do, .int .i64 Dc, .int .i64 Dg, .slice a m cp] 37))
        obtain ⟨s0, s1, s2, s3⟩ := shp4 hs.st
        have f0 := hs.fr 0
        have f1 := hs.fr 1
        have f2 := hs.fr 2
        have f3 := hs.fr 3
        have hlt := lt_of_heap hs3.st
        cases hg : goodS k n h with
        | false =>
          have HE : Hid (shE k n h = 8) := by show _ = _; unfold shE; rw [ho, if_pos rfl, if_pos (by rw [← (show p = h.length from HLN.out)]; exact HPT.out), hg]; rfl
          have HO : Hid (shO k n h = ⟨0, 0, 0, []⟩) := by show _ = _; unfold shO; rw [HE.out]; rfl
          have HFIN : Hid _ := hs.fin (.int .i64 0) (.int .i64 0) (.int .i64 0) (.slice none 0 0)
          clear t hs hs3 tA hv hd hg HS2 hlt hnw
          go_wp2
          obtain ⟨u0, u1, u2⟩ := HFIN.out
          obtain ⟨p0, p1, p2, p3⟩ := shp4 u2
          refine bodyPost_ret (v := .tuple #[.agg #[.int .i64 0, .int .i64 0, .int .i64 0, .slice none 0 0], .int .i64 8]) ?_ rfl ⟨0, none, 0, by rw [HO.out, HE.out], by rw [HO.out]; exact clv_nil _, u1⟩
          simp [results, Tryz.results15, go_sem, p0, p1, p2, p3]
        | true =>
          have HE : Hid (shE k n h = 0) := by show _ = _; unfold shE; rw [ho, if_pos rfl, if_pos (by rw [← (show p = h.length from HLN.out)]; exact HPT.out), hg]; rfl
          have HO : Hid (shO k n h = ⟨Do, Dc, Dg, Dl⟩) := by show _ = _; unfold shO; rw [if_pos (show shE k n h = 0 from HE.out)]; exact (hd hg).symm
          have hfin := hs.fin (.int .i64 Do) (.int .i64 Dc) (.int .i64 Dg) (.slice a m cp)
          have HFIN : Hid _ := hfin
          have HV : Hid (ClV (((((w3.alloc (.cells #[.int .i64 Do, .int .i64 Dc, .int .i64 Dg, .slice a m cp] 37)).setCell ⟨w.heap.size, 0, none⟩ (.int .i64 Do)).setCell ⟨w.heap.size, 1, none⟩ (.int .i64 Dc)).setCell ⟨w.heap.size, 2, none⟩ (.int .i64 Dg)).setCell ⟨w.heap.size, 3, none⟩ (.slice a m cp)) a m cp Dl) := by
            refine (hv.keep tA).other hfin.1 (fun _ x hx hm => ?_)
            have hq := lt_of_heap (show ShW w w2 from HS2.out).st
            have := hnw x (by rw [hv.len]; exact hx)
            simp at hm
            omega
          clear t hs hs3 tA hv hd hg HS2 hlt hfin hnw
          go_wp2
          obtain ⟨u0, u1, u2⟩ := HFIN.out
          obtain ⟨p0, p1, p2, p3⟩ := shp4 u2
          refine bodyPost_ret (v := .tuple #[.agg #[.int .i64 Do, .int .i64 Dc, .int .i64 Dg, .slice a m cp], .int .i64 0]) ?_ rfl ⟨m, a, cp, by rw [HO.out, HE.out], by rw [HO.out]; exact HV.out, u1⟩
          simp [results, Tryz.results15, go_sem, p0, p1, p2, p3]
      · rw [ho] at hq; cases hq
    · have HE : Hid (shE k n h = 2) := by show _ = _; unfold shE; rw [ho, if_pos rfl, if_neg (by rw [← hl]; exact hpt)]
      have HO : Hid (shO k n h = ⟨0, 0, 0, []⟩) := by show _ = _; unfold shO; rw [HE.out]; rfl
      clear hh HHV hl
      generalize tvN k n = tv at *
      go_enter Tryz.func15, Tryz.ntmps15
      go_wp2_with fail
      refine HN.out.mono ?_
      clear HN
      rintro e w1 (⟨hq, b, rfl, ha, hb, t⟩ | ⟨hq, rfl, t⟩)
      · have HS1 : Hid (ShW w w1) := HS0.out.keep t
        clear t HS0 ha hb hq
        go_wp2_with fail
        refine (HTN.out _).out.mono ?_
        clear HTN
        rintro e w2 ⟨rfl, t⟩
        have hs : ShW w w2 := HS1.out.keep t
        obtain ⟨s0, s1, s2, s3⟩ := shp4 hs.st
        have f0 := hs.fr 0
        have f1 := hs.fr 1
        have f2 := hs.fr 2
        have f3 := hs.fr 3
        have HFIN : Hid _ := hs.fin (.int .i64 0) (.int .i64 0) (.int .i64 0) (.slice none 0 0)
        have hpt2 : ((p : Int) == tv) = false := by simpa using hpt
        clear t hs HS1 hpt
        go_wp2
        obtain ⟨u0, u1, u2⟩ := HFIN.out
        obtain ⟨p0, p1, p2, p3⟩ := shp4 u2
        refine bodyPost_ret (v := .tuple #[.agg #[.int .i64 0, .int .i64 0, .int .i64 0, .slice none 0 0], .int .i64 2]) ?_ rfl ⟨0, none, 0, by rw [HO.out, HE.out], by rw [HO.out]; exact clv_nil _, u1⟩
        simp [results, Tryz.results15, go_sem, p0, p1, p2, p3]
      · rw [ho] at hq; cases hq

end Go.Proofs.YtcbkafbchpjnoaaGreatDoor
/-
  The document's Shape of a new object, SameShape BY THEIR CONTRACTS.
-/
namespace Go.Proofs.YtcbkafbchpjnoaaGreatDoor
set_option linter.unusedVariables false
set_option linter.unusedSimpArgs false
open Go.RowKit
attribute [local go_sem] Oper.semAt_some

theorem RoN.cells' {w : World} {b : Nat} {k n : Int} (h : RoN w b k n) {q : Int} (hq : (if k = 2 then n else 0 : Int) = q) : w.cell? ⟨b, 0, none⟩ = some (.int .u8 k) ∧ w.cell? ⟨b, 1, none⟩ = some (.int .i64 n) ∧ w.cell? ⟨b, 2, none⟩ = some (.int .i64 (-1)) ∧ w.cell? ⟨b, 3, none⟩ = some (.int .i64 q) ∧ w.cell? ⟨b, 4, none⟩ = some (.int .i64 0) ∧ w.cell? ⟨b, 5, none⟩ = some (.slice none 0 0) := by
  rw [← hq]; exact h.cells
theorem cl_app0 (Q : World) (V : World) (hV : V = (Q.alloc (.cells #[] 50)).drew) :
    ∃ a c W, (Builtin.append_ #[33, 33] 33 #[.slice (some ⟨Q.heap.size, 0, none⟩) 0 0, .slice none 0 0]).run Tryz.prog V = .ok (.slice a 0 c) W ∧ Touch Q W [] := by
  have tA : Touch Q V [] := by rw [hV]; exact ((Touch.refl _ []).alloc _).drew
  have hown : V.ownsRow Q.heap.size 50 1 (.slice (some ⟨Q.heap.size, 0, none⟩) 0 0) 0 [] := by
    rw [hV]; exact ownsRow_touch (empty_row Q 50 1) ((Touch.refl _ []).drew) (by simp)
  obtain ⟨i0, hi, hz0, hz1, hz2⟩ := info_partsC Tryz.info_valC
  obtain ⟨v', w', h1, h2, h3, h4⟩ := run_app (P := Tryz.prog) (cells := clc) 33 33 50 i0 _ 1 8 Tryz.underlying33 hi hz0 hz1 hz2 rfl (by decide) (fun _ => rfl) (fun x u hu => by simp [clc] at hu; subst hu; rfl) hown (ao := none) (cap := 0) (l := []) ⟨none, 0, rfl, fun h => absurd rfl h⟩ (by simp) (by decide) tA.size
  obtain ⟨a, c, rfl⟩ := owns_slice h2
  exact ⟨a, c, w', h1, tA.trans ((Touch.refl _ _).grown (S := [Q.heap.size]) h3 (fun k hk => .inl (by simp [Value.ownBlock] at hk; simp [hk]))) (fun x hx => .inr (by simp at hx; omega))⟩

def OsP (w : World) (n : Int) (e : Ending) (w' : World) : Prop := ∃ a c, e = .returned (.agg #[.int .i64 (-1), .int .i64 n, .int .i64 0, .slice a 0 c]) ∧ Touch w w' []
set_option maxRecDepth 100000 in
set_option maxHeartbeats 1600000 in
theorem rshapeN_any {w : World} {b : Nat} {k s n : Int} (h : RoN w b k s) (hn : (if k = 2 then s else 0 : Int) = n) :
    Calls Tryz.prog 26 #[.pointer (some ⟨b, 0, none⟩)] w (OsP w n) := by
  obtain ⟨Q, hQ⟩ : ∃ Q, Q = w.alloc (.cells #[.int .i64 0, .int .i64 0, .int .i64 0, .slice none 0 0] 37) := ⟨_, rfl⟩
  have hq := heap_alloc_new w (.cells #[.int .i64 0, .int .i64 0, .int .i64 0, .slice none 0 0] 37)
  rw [← hQ] at hq
  have tQ : Touch w Q [] := by rw [hQ]; exact (Touch.refl w []).alloc _
  have hob := h.touch tQ (by simp)
  have hblt := lt_of_heap h.st
  obtain ⟨a, c, V, rA, tV⟩ := cl_app0 Q _ rfl
  have tA : Touch Q (Q.alloc (.cells #[] 50)).drew [] := ((Touch.refl _ []).alloc _).drew
  obtain ⟨x0, x1, x2, x3, x4, x5⟩ := (hob.touch ((Touch.refl Q []).drew) (by simp)).cells' hn
  obtain ⟨y0, y1, y2, y3, y4, y5⟩ := (hob.touch tA (by simp)).cells' hn
  obtain ⟨z0, z1, z2, z3, z4, z5⟩ := (hob.touch tV (by simp)).cells' hn
  have hqV := (tV.block _ (lt_of_heap hq) (by simp)).trans hq
  obtain ⟨s0, s1, s2, s3⟩ := shp4 hqV
  have hsv : ShW w V := ⟨hqV, tQ.trans tV (by simp)⟩
  have sf0 := hsv.fr 0
  have sf1 := hsv.fr 1
  have sf2 := hsv.fr 2
  have sf3 := hsv.fr 3
  have HFIN : Hid (∀ x y z u, Touch w ((((V.setCell ⟨w.heap.size, 0, none⟩ x).setCell ⟨w.heap.size, 1, none⟩ y).setCell ⟨w.heap.size, 2, none⟩ z).setCell ⟨w.heap.size, 3, none⟩ u) [] ∧ ((((V.setCell ⟨w.heap.size, 0, none⟩ x).setCell ⟨w.heap.size, 1, none⟩ y).setCell ⟨w.heap.size, 2, none⟩ z).setCell ⟨w.heap.size, 3, none⟩ u).heap[w.heap.size]? = some (.cells #[x, y, z, u] 37 (0, 0))) := fun x y z u => (hsv.fin x y z u).2
  have HS : Hid (∀ W, Touch Q W [w.heap.size] → W.cell? ⟨b, 2, none⟩ = some (.int .i64 (-1)) ∧ W.cell? ⟨b, 3, none⟩ = some (.int .i64 n) ∧ W.cell? ⟨b, 4, none⟩ = some (.int .i64 0) ∧ W.cell? ⟨b, 5, none⟩ = some (.slice none 0 0)) := fun W t => by
    obtain ⟨_, _, c2, c3, c4, c5⟩ := (hob.touch t (by simp; omega)).cells' hn
    exact ⟨c2, c3, c4, c5⟩
  have hd0 : Touch Q Q.drew [w.heap.size] := (Touch.refl Q _).drew
  have hd1 : Touch Q (Q.alloc (.cells #[] 50)).drew [w.heap.size] := tA.mono (by simp)
  have hd2 : Touch Q V [w.heap.size] := tV.mono (by simp)
  have hd3 : ∀ x y z u, Touch Q ((((V.setCell ⟨w.heap.size, 0, none⟩ x).setCell ⟨w.heap.size, 1, none⟩ y).setCell ⟨w.heap.size, 2, none⟩ z).setCell ⟨w.heap.size, 3, none⟩ u) [w.heap.size] := fun x y z u => (((hd2.setCell (.inl (by simp)) _).setCell (.inl (by simp)) _).setCell (.inl (by simp)) _).setCell (.inl (by simp)) _
  have HQ : Hid (w.alloc (.cells #[.int .i64 0, .int .i64 0, .int .i64 0, .slice none 0 0] 37) = Q) := hQ.symm
  clear hQ hq tQ hob h tA tV hqV hsv hn
  go_enter Tryz.func26, Tryz.ntmps26
  go_wp2_with fail
  rw [HQ.out]
  clear HQ
  go_region_held3 (fun w' => w'.cell? ⟨b, 2, none⟩ = some (.int .i64 (-1)) ∧ w'.cell? ⟨b, 3, none⟩ = some (.int .i64 n) ∧ w'.cell? ⟨b, 4, none⟩ = some (.int .i64 0) ∧ w'.cell? ⟨b, 5, none⟩ = some (.slice none 0 0)) ((first | exact HS.out _ hd0 | exact HS.out _ hd1 | exact HS.out _ hd2 | exact HS.out _ (hd3 _ _ _ _))) ((first | (refine step_append_runF _ (by rfl) (.tmp 18) (.tmp 22) 33 33 (by rfl) (.slice (some ⟨Q.heap.size, 0, none⟩) 0 0) (.slice none 0 0) (by rfl) (by rfl) (.slice a 0 c) V rA ?_)))
  all_goals
    go_wp2_with fail
    obtain ⟨h8, h9⟩ := HFIN.out (.int .i64 (-1)) (.int .i64 n) (.int .i64 0) (.slice a 0 c)
    refine bodyPost_ret (v := .agg #[.int .i64 (-1), .int .i64 n, .int .i64 0, .slice a 0 c]) ?_ rfl ⟨a, c, rfl, h8⟩
    rw [res_cellC rfl]
    obtain ⟨p0, p1, p2, p3⟩ := shp4 h9
    simp [go_sem, p0, p1, p2, p3]

set_option maxRecDepth 100000 in
theorem sameshape_any (o c g : Int) {a1 a2 : Option Addr} {n c1 c2 : Nat} {l : List Int} {w : World} (hn : n ≤ 1000) (h1 : ClV w a1 n c1 l) (h2 : ClV w a2 n c2 l) :
    Calls Tryz.prog 20 #[.agg #[.int .i64 o, .int .i64 c, .int .i64 g, .slice a1 n c1], .agg #[.int .i64 o, .int .i64 c, .int .i64 g, .slice a2 n c2]] w fun e w' => e = .returned (.bool true) ∧ Touch w w' [] := by
  have tA : Touch w (w.alloc (.cells #[.int .i64 o, .int .i64 c, .int .i64 g, .slice a1 n c1] 37)) [] := (Touch.refl _ _).alloc _
  obtain ⟨WA, hWA⟩ : ∃ W, W = w.alloc (.cells #[.int .i64 o, .int .i64 c, .int .i64 g, .slice a1 n c1] 37) := ⟨_, rfl⟩
  have tB : Touch WA (WA.alloc (.cells #[.int .i64 o, .int .i64 c, .int .i64 g, .slice a2 n c2] 37)) [] := (Touch.refl _ _).alloc _
  have tA' : Touch w WA [] := by rw [hWA]; exact tA
  have hA : WA.heap[w.heap.size]? = some (.cells #[.int .i64 o, .int .i64 c, .int .i64 g, .slice a1 n c1] 37 (0, 0)) := by rw [hWA]; exact heap_alloc_new w _
  obtain ⟨x0, x1, x2, x3⟩ := shp4 ((tB.block _ (lt_of_heap hA) (by simp)).trans hA)
  obtain ⟨y0, y1, y2, y3⟩ := shp4 (heap_alloc_new WA (.cells #[.int .i64 o, .int .i64 c, .int .i64 g, .slice a2 n c2] 37))
  have tt : Touch w (WA.alloc (.cells #[.int .i64 o, .int .i64 c, .int .i64 g, .slice a2 n c2] 37)) [] := tA'.trans tB (by simp)
  have HC : HidC _ _ _ _ _ := ⟨clsame_any hn (h1.keep tt) (h2.keep tt)⟩
  have HT : Hid _ := tt
  have hws : WA.heap.size = w.heap.size + 1 := by rw [hWA]; simp
  rw [hws] at y0 y1 y2 y3
  clear tA tB tA' hA h1 h2 tt hws
  go_enter Tryz.func20, Tryz.ntmps20
  rw [hWA] at *
  clear hWA
  go_wp2_with fail
  refine HC.out.mono ?_
  clear HC
  rintro e w2 ⟨rfl, t⟩
  have HT2 : Hid (Touch w w2 []) := HT.out.trans t (by simp)
  clear t
  go_wp2
  go_ret
  exact ⟨rfl, HT2.out⟩

end Go.Proofs.YtcbkafbchpjnoaaGreatDoor
/-
  CallsBegins, WALKED. Written by mkclbg.py.
-/
namespace Go.Proofs.YtcbkafbchpjnoaaGreatDoor
set_option linter.unusedVariables false
set_option linter.unusedSimpArgs false
open Go.RowKit
attribute [local go_sem] Oper.semAt_some

/-- The values at first, as numbers. -/
def begL (k n : Int) : List Int := if k = 2 then [numV n] else List.replicate (tvN k n).toNat 0
theorem numV_nine : ∀ n : Fin 10, numR (numV (n.val : Int)) 99 = ((n.val : Int), true) ∧ rightB (numV (n.val : Int)) = true ∧ 0 ≤ numV (n.val : Int) ∧ numV (n.val : Int) < 18446744073709551616 := by decide +kernel
theorem numR_0 : wholeV (ofB 0) = (0, true) ∧ negB (ofB 0) = false := by decide +kernel
theorem numR_none {m : Int} (h : 0 ≤ m) : numR 0 m = (0, true) := by
  unfold numR
  have e : ((0 : Int).toNat) = 0 := rfl
  rw [e, numR_0.1, numR_0.2]
  exact if_pos ⟨rfl, rfl, h⟩
theorem right_0 : rightB 0 = true := by decide +kernel

theorem beg_len {k n : Int} (ho : okO k n = true) : ((begL k n).length : Int) = tvN k n := by
  have htv := tv_le ho
  have hw := (okO_is k n).1 ho
  have htn : tvN k n = if k = 3 then n + 2 else if k = 4 then 2 else 1 := by unfold tvN; rw [ho]; rfl
  unfold begL
  split
  · rename_i h; subst h; rw [htn]; rfl
  · rw [List.length_replicate]; omega
theorem beg_wf {k n : Int} (ho : okO k n = true) : ∀ x ∈ begL k n, Wf64 x := by
  intro x hx
  unfold begL at hx
  split at hx
  · rename_i h; subst h
    have hw := (okO_is 2 n).1 ho
    have := (numV_nine ⟨n.toNat, by omega⟩).2.2
    have e : ((n.toNat : Nat) : Int) = n := by omega
    simp only [e] at this
    rw [List.mem_singleton.1 hx]
    exact ⟨this.1, this.2⟩
  · rw [(List.mem_replicate.1 hx).2]; exact ⟨by decide, by decide⟩
theorem beg_is {k n : Int} (ho : okO k n = true) : shE k n (begL k n) = 0 ∧ shO k n (begL k n) = ⟨-1, if k = 2 then n else 0, 0, []⟩ := by
  have hw := (okO_is k n).1 ho
  have hl := beg_len ho
  have htn : tvN k n = if k = 3 then n + 2 else if k = 4 then 2 else 1 := by unfold tvN; rw [ho]; rfl
  have key : goodS k n (begL k n) = true ∧ datS k n (begL k n) = ⟨-1, if k = 2 then n else 0, 0, []⟩ := by
    rcases hw with ⟨rfl, rfl⟩ | ⟨rfl, h1⟩ | ⟨rfl, h1⟩ | ⟨rfl, h1⟩
    · have e : begL 1 0 = [0] := rfl
      rw [e]
      unfold goodS goodN datS
      simp [right_0, numR_none]
    · have e : begL 2 n = [numV n] := rfl
      have h9 := numV_nine ⟨n.toNat, by omega⟩
      have e9 : ((n.toNat : Nat) : Int) = n := by omega
      simp only [e9] at h9
      rw [e]
      unfold goodS goodN datS
      simp [h9.1, h9.2.1]
    · have e : begL 3 n = List.replicate (n + 2).toNat 0 := by unfold begL; rw [if_neg (by decide), htn]; rfl
      obtain ⟨m, hm⟩ : ∃ m : Nat, (n + 2).toNat = m + 1 + 1 := ⟨n.toNat, by omega⟩
      rw [e, hm, List.replicate_succ, List.replicate_succ]
      unfold goodS goodN datS
      simp [right_0, numR_none (show (0 : Int) ≤ n by omega), numR_none (show (0 : Int) ≤ n - 1 by omega), rndL]
    · have e : begL 4 n = [0, 0] := by unfold begL; rw [if_neg (by decide), htn]; rfl
      rw [e]
      unfold goodS goodN datS
      simp [right_0, numR_none (show (0 : Int) ≤ n - 1 by omega), numR_none (show (0 : Int) ≤ 9223372036854775807 by omega)]
  have hE : shE k n (begL k n) = 0 := by unfold shE; rw [ho, if_pos rfl, if_pos hl, key.1]; rfl
  exact ⟨hE, by unfold shO; rw [if_pos hE]; exact key.2⟩
theorem beg_arr (k n : Int) : (begA k n).toList = (begL k n).flatMap clc := by
  unfold begA begL
  split
  · rfl
  · rw [Array.toList_replicate]
    generalize (tvN k n).toNat = m
    induction m with
    | zero => rfl
    | succ m ih => rw [List.replicate_succ, List.replicate_succ, List.flatMap_cons, ih]; rfl
theorem beg_row {W : World} {g m : Nat} {k n : Int} (ho : okO k n = true) (hm : (m : Int) = tvN k n) (hg : W.heap[g]? = some (.cells (begA k n) 50 (0, 0))) : ClV W (some ⟨g, 0, none⟩) m m (begL k n) := by
  have hl : m = (begL k n).length := by have := beg_len ho; omega
  have htv := tv_le ho
  refine ⟨hl, ?_, Nat.le_refl _, beg_wf ho⟩
  rw [hl]
  have hsz : (begA k n).size = (begL k n).length * 1 := by rw [← Array.length_toList, beg_arr, flat_len (n := 1) (fun _ => rfl)]
  exact srow_of (cells := clc) (n := 1) (fun _ => rfl) (B := g) (e := 50) ⟨flat_len (n := 1) (fun _ => rfl) _, .inr ⟨g, (begL k n).length, begA k n, rfl, Nat.le_refl _, hg, Nat.le_refl _, by unfold maxLen; omega, hsz, by rw [beg_arr, ← flat_len (cells := clc) (n := 1) (fun _ => rfl), List.take_length]⟩⟩

set_option maxRecDepth 100000 in
set_option maxHeartbeats 2000000 in
theorem callsbegins_any {w : World} (hw : Wds w) (k n : Int) : Calls Tryz.prog 7 #[.int .u8 k, .int .i64 n] w fun e w' => e = .returned (.bool true) ∧ Touch w w' [] := by
  have HBG : HidC _ _ _ _ _ := ⟨begin_any k n w⟩
  have HNW : Hid (∀ W, HidC Tryz.prog 22 #[.int .u8 k, .int .i64 n] W (RnP W k n)) := fun W => ⟨rnewC_any k n W⟩
  have HLV : Hid (∀ W, Touch w W [] → HidC Tryz.prog 11 #[] W fun e w' => e = .returned (.bool true) ∧ Touch W w' []) := fun W tw => ⟨cllive_any (hw.touch tw (by simp))⟩
  have HTV : Hid (∀ W, HidC Tryz.prog 17 #[.int .u8 k, .int .i64 n] W fun e w' => e = .returned (.int .i64 (tvN k n)) ∧ Touch W w' []) := fun W => ⟨tvars_any k n W⟩
  clear hw
  cases ho : okO k n with
  | false =>
    have hz : tvN k n = 0 := by unfold tvN; rw [ho]; rfl
    rw [hz] at HTV
    clear hz
    go_enter Tryz.func7, Tryz.ntmps7
    go_wp2_with fail
    refine HBG.out.mono ?_
    clear HBG
    rintro e w1 (⟨hq, g, m, rfl, hm, hh, hs, t1⟩ | ⟨hq, rfl, t1⟩)
    · rw [ho] at hq; cases hq
    · have HT1 : Hid _ := t1
      clear t1 hq
      go_wp2_with fail
      refine (HNW.out _).out.mono ?_
      clear HNW
      rintro e w2 (⟨hq, b, rfl, hb, hs, t2⟩ | ⟨hq, rfl, t2⟩)
      · rw [ho] at hq; cases hq
      · have HT2 : Hid (Touch w w2 []) := HT1.out.trans t2 (by simp)
        clear t2 hq
        go_wp2_with fail
        refine (HLV.out _ HT2.out).out.mono ?_
        clear HLV
        rintro e w3 ⟨rfl, t3⟩
        have HT3 : Hid (Touch w w3 []) := HT2.out.trans t3 (by simp)
        clear t3
        go_wp2_with fail
        refine (HTV.out _).out.mono ?_
        clear HTV
        rintro e w4 ⟨rfl, t4⟩
        have HT4 : Hid (Touch w w4 []) := HT3.out.trans t4 (by simp)
        clear t4
        go_wp2
        go_ret
        exact ⟨rfl, HT4.out⟩
  | true =>
    have hbi := beg_is ho
    have HBI : Hid _ := hbi
    have htv := tv_le ho
    have HTVL : Hid _ := htv
    clear hbi htv
    go_enter Tryz.func7, Tryz.ntmps7
    go_wp2_with fail
    refine HBG.out.mono ?_
    clear HBG
    rintro e w1 (⟨hq, g, m, rfl, hm, hh, hs, t1⟩ | ⟨hq, rfl, t1⟩)
    rotate_left
    · rw [ho] at hq; cases hq
    have HT1 : Hid _ := t1
    have HR1 : Hid _ := beg_row ho hm hh
    have HMM : Hid _ := hm
    clear t1 hq hh hs hm
    go_wp2_with fail
    refine (HNW.out _).out.mono ?_
    clear HNW
    rintro e w2 (⟨hq, ob, rfl, hb, hs, t2⟩ | ⟨hq, rfl, t2⟩)
    rotate_left
    · rw [ho] at hq; cases hq
    have HT2 : Hid (Touch w w2 []) := HT1.out.trans t2 (by simp)
    have hr2 := (show ClV w1 (some ⟨g, 0, none⟩) m m (begL k n) from HR1.out).keep t2
    have hso := shapeof_any k n hr2 (by have := HMM.out; have := HTVL.out; omega)
    have HOB : Hid (RoN w2 ob k n) := hb
    unfold SoP at hso
    rw [HBI.out.1, HBI.out.2] at hso
    have HSO : HidC _ _ _ _ _ := ⟨hso⟩
    obtain ⟨c, hc⟩ : ∃ c : Int, (if k = 2 then n else 0) = c := ⟨_, rfl⟩
    rw [hc] at HSO
    have HCC : Hid _ := hc
    clear t2 hq hs hr2 hso hb HR1 HBI hc
    go_wp2_with fail
    refine HSO.out.mono ?_
    clear HSO
    rintro e w3 ⟨vm, va, vc, rfl, hv, t3⟩
    have hv0 : vm = 0 := hv.len
    subst hv0
    simp only at hv ⊢
    have HT3 : Hid (Touch w w3 []) := HT2.out.trans t3 (by simp)
    have HOB3 : Hid (RoN w3 ob k n) := (show RoN w2 ob k n from HOB.out).touch t3 (by simp)
    have HV3 : Hid (ClV w3 va 0 vc []) := hv
    clear t3 hv HOB
    obtain ⟨XW, hXW⟩ : ∃ W, W = w3.alloc (.cells #[.int .i64 (-1), .int .i64 c, .int .i64 0, .slice va 0 vc] 37) := ⟨_, rfl⟩
    have hx : XW.heap[w3.heap.size]? = some (.cells #[.int .i64 (-1), .int .i64 c, .int .i64 0, .slice va 0 vc] 37 (0, 0)) := by rw [hXW]; exact heap_alloc_new w3 _
    have tX : Touch w3 XW [] := by rw [hXW]; exact (Touch.refl _ _).alloc _
    obtain ⟨q0, q1, q2, q3⟩ := shp4 hx
    have HCE : Hid (∀ W, Touch XW W [] → W.cell? ⟨w3.heap.size, 0, none⟩ = some (.int .i64 (-1)) ∧ W.cell? ⟨w3.heap.size, 1, none⟩ = some (.int .i64 c) ∧ W.cell? ⟨w3.heap.size, 2, none⟩ = some (.int .i64 0) ∧ W.cell? ⟨w3.heap.size, 3, none⟩ = some (.slice va 0 vc)) := fun W t => shp4 ((t.block _ (lt_of_heap hx) (by simp)).trans hx)
    have HD0 : Hid (Touch w XW.drew []) := (HT3.out.trans tX (by simp)).drew
    have HTX : Hid (Touch w XW [] ∧ Touch w3 XW []) := ⟨HT3.out.trans tX (by simp), tX⟩
    have hmt : ((m : Int) == tvN k n) = true := by have := HMM.out; simp [this]
    rw [show tvN k n = (m : Int) from HMM.out.symm] at HTV
    have HN1 : Hid (∀ w4, Touch XW.drew w4 [] → w4.cell? ⟨w3.heap.size, 0, none⟩ = some (.int .i64 (-1)) ∧ w4.cell? ⟨w3.heap.size, 1, none⟩ = some (.int .i64 c) ∧ w4.cell? ⟨w3.heap.size, 2, none⟩ = some (.int .i64 0) ∧ w4.cell? ⟨w3.heap.size, 3, none⟩ = some (.slice va 0 vc) ∧ Hid (Touch XW w4 []) ∧ Hid (HidC Tryz.prog 17 #[.int .u8 k, .int .i64 n] w4 fun e w' => e = .returned (.int .i64 m) ∧ Touch w4 w' [])) := by
      intro w4 t4
      have tt : Touch XW w4 [] := (Touch.refl XW []).drew.trans t4 (by simp)
      obtain ⟨y0, y1, y2, y3⟩ := HCE.out w4 tt
      exact ⟨y0, y1, y2, y3, tt, HTV.out w4⟩
    have HN2 : Hid (∀ w4 w5, Touch XW w4 [] → Touch w4 w5 [] → w5.cell? ⟨w3.heap.size, 0, none⟩ = some (.int .i64 (-1)) ∧ w5.cell? ⟨w3.heap.size, 1, none⟩ = some (.int .i64 c) ∧ w5.cell? ⟨w3.heap.size, 2, none⟩ = some (.int .i64 0) ∧ w5.cell? ⟨w3.heap.size, 3, none⟩ = some (.slice va 0 vc) ∧ Hid (Touch XW w5 []) ∧ Hid (HidC Tryz.prog 26 #[.pointer (some ⟨ob, 0, none⟩)] w5 (OsP w5 c))) := by
      intro w4 w5 t4 t5
      have tt : Touch XW w5 [] := t4.trans t5 (by simp)
      obtain ⟨y0, y1, y2, y3⟩ := HCE.out w5 tt
      exact ⟨y0, y1, y2, y3, tt, ⟨rshapeN_any ((show RoN w3 ob k n from HOB3.out).touch (tX.trans tt (by simp)) (by simp)) HCC.out⟩⟩
    have HN3 : Hid (∀ w5 w6 (xa : Option Addr) (xc : Nat), Touch XW w5 [] → Touch w5 w6 [] → w6.cell? ⟨w3.heap.size, 0, none⟩ = some (.int .i64 (-1)) ∧ w6.cell? ⟨w3.heap.size, 1, none⟩ = some (.int .i64 c) ∧ w6.cell? ⟨w3.heap.size, 2, none⟩ = some (.int .i64 0) ∧ w6.cell? ⟨w3.heap.size, 3, none⟩ = some (.slice va 0 vc) ∧ Hid (Touch XW w6 []) ∧ Hid (HidC Tryz.prog 20 #[.agg #[.int .i64 (-1), .int .i64 c, .int .i64 0, .slice va 0 vc], .agg #[.int .i64 (-1), .int .i64 c, .int .i64 0, .slice xa 0 xc]] w6 fun e w' => e = .returned (.bool true) ∧ Touch w6 w' [])) := by
      intro w5 w6 xa xc t5 t6
      have tt : Touch XW w6 [] := t5.trans t6 (by simp)
      obtain ⟨y0, y1, y2, y3⟩ := HCE.out w6 tt
      exact ⟨y0, y1, y2, y3, tt, ⟨sameshape_any (-1) c 0 (by omega) ((show ClV w3 va 0 vc [] from HV3.out).keep (tX.trans tt (by simp))) ⟨rfl, ⟨xa, xc, rfl, fun h => absurd rfl h⟩, by omega, fun x hx => by simp at hx⟩⟩⟩
    have HN4 : Hid (∀ w6 w7, Touch XW w6 [] → Touch w6 w7 [] → w7.cell? ⟨w3.heap.size, 0, none⟩ = some (.int .i64 (-1)) ∧ w7.cell? ⟨w3.heap.size, 1, none⟩ = some (.int .i64 c) ∧ w7.cell? ⟨w3.heap.size, 2, none⟩ = some (.int .i64 0) ∧ w7.cell? ⟨w3.heap.size, 3, none⟩ = some (.slice va 0 vc) ∧ Hid (Touch XW w7 [])) := by
      intro w6 w7 t6 t7
      have tt : Touch XW w7 [] := t6.trans t7 (by simp)
      obtain ⟨y0, y1, y2, y3⟩ := HCE.out w7 tt
      exact ⟨y0, y1, y2, y3, tt⟩
    clear hx tX HTV HCE HV3 HOB3 HMM HTVL HCC
    go_wp2_with fail
    simp only [← hXW]
    clear hXW
    generalize w3.heap.size = q at *

    refine wp_region_held_drew (S := (fun w' => w'.cell? ⟨q, 0, none⟩ = some (.int .i64 (-1)) ∧ w'.cell? ⟨q, 1, none⟩ = some (.int .i64 c) ∧ w'.cell? ⟨q, 2, none⟩ = some (.int .i64 0) ∧ w'.cell? ⟨q, 3, none⟩ = some (.slice va 0 vc))) (by kernel_rfl) ⟨q0, q1, q2, q3⟩ (fun hHeld => ?_)
    clear hHeld
    refine wpAnyH_ready (rs := [0]) (by kernel_rfl) (by simp) (AllReadyH.cons rfl (fun K hK => ?_) AllReadyH.nil)
    rw [if_pos (by rfl)]
    go_wp2_with fail
    refine (HLV.out _ HD0.out).out.mono ?_
    rintro e w4 ⟨rfl, t4⟩
    obtain ⟨a0, a1, a2, a3, HT4, HTVW⟩ := HN1.out w4 t4
    clear t4 HLV
    refine hK.out _ _ ⟨a0, a1, a2, a3⟩ (fun hHeld => ?_)
    clear hK
    try simp only [Act.put, List.getElem_toArray, List.getElem_cons_succ, List.getElem_cons_zero, List.setIfInBounds_toArray, List.set_cons_zero, List.set_cons_succ]
    refine wpAnyH_take (i := 1) (v := .bool true) rfl (by kernel_rfl) (by kernel_rfl) (by kernel_rfl) (fun _ _ _ h => h) (Or.inl ⟨by rfl, ?_⟩) hHeld ?_
    · intro w' hSw
      try simp only [Act.put, List.getElem_toArray, List.getElem_cons_succ, List.getElem_cons_zero, List.setIfInBounds_toArray, List.set_cons_zero, List.set_cons_succ]
      go_simp
    try simp only [Act.put, List.getElem_toArray, List.getElem_cons_succ, List.getElem_cons_zero, List.setIfInBounds_toArray, List.set_cons_zero, List.set_cons_succ]
    refine wpAnyH_take (i := 2) (v := .int .i64 0) rfl (by kernel_rfl) (by kernel_rfl) (by kernel_rfl) (fun _ _ _ h => h) (Or.inl ⟨by rfl, ?_⟩) hHeld ?_
    · intro w' hSw
      try simp only [Act.put, List.getElem_toArray, List.getElem_cons_succ, List.getElem_cons_zero, List.setIfInBounds_toArray, List.set_cons_zero, List.set_cons_succ]
      go_simp
    try simp only [Act.put, List.getElem_toArray, List.getElem_cons_succ, List.getElem_cons_zero, List.setIfInBounds_toArray, List.set_cons_zero, List.set_cons_succ]
    refine wpAnyH_take (i := 3) (v := .bool true) rfl (by kernel_rfl) (by kernel_rfl) (by kernel_rfl) (fun _ _ _ h => h) (Or.inl ⟨by rfl, ?_⟩) hHeld ?_
    · intro w' hSw
      try simp only [Act.put, List.getElem_toArray, List.getElem_cons_succ, List.getElem_cons_zero, List.setIfInBounds_toArray, List.set_cons_zero, List.set_cons_succ]
      go_simp
    try simp only [Act.put, List.getElem_toArray, List.getElem_cons_succ, List.getElem_cons_zero, List.setIfInBounds_toArray, List.set_cons_zero, List.set_cons_succ]
    refine wpAnyH_take (i := 4) (v := .bool true) rfl (by kernel_rfl) (by kernel_rfl) (by kernel_rfl) (fun _ _ _ h => h) (Or.inl ⟨by rfl, ?_⟩) hHeld ?_
    · intro w' hSw
      try simp only [Act.put, List.getElem_toArray, List.getElem_cons_succ, List.getElem_cons_zero, List.setIfInBounds_toArray, List.set_cons_zero, List.set_cons_succ]
      go_simp
    try simp only [Act.put, List.getElem_toArray, List.getElem_cons_succ, List.getElem_cons_zero, List.setIfInBounds_toArray, List.set_cons_zero, List.set_cons_succ]
    refine wpAnyH_take (i := 5) (v := .bool true) rfl (by kernel_rfl) (by kernel_rfl) (by kernel_rfl) (fun _ _ _ h => h) (Or.inl ⟨by rfl, ?_⟩) hHeld ?_
    · intro w' hSw
      try simp only [Act.put, List.getElem_toArray, List.getElem_cons_succ, List.getElem_cons_zero, List.setIfInBounds_toArray, List.set_cons_zero, List.set_cons_succ]
      go_simp
    try simp only [Act.put, List.getElem_toArray, List.getElem_cons_succ, List.getElem_cons_zero, List.setIfInBounds_toArray, List.set_cons_zero, List.set_cons_succ]
    refine wpAnyH_take (i := 6) (v := .int .i64 0) rfl (by kernel_rfl) (by kernel_rfl) (by kernel_rfl) (fun _ _ _ h => h) (Or.inl ⟨by rfl, ?_⟩) hHeld ?_
    · intro w' hSw
      try simp only [Act.put, List.getElem_toArray, List.getElem_cons_succ, List.getElem_cons_zero, List.setIfInBounds_toArray, List.set_cons_zero, List.set_cons_succ]
      go_simp
    try simp only [Act.put, List.getElem_toArray, List.getElem_cons_succ, List.getElem_cons_zero, List.setIfInBounds_toArray, List.set_cons_zero, List.set_cons_succ]
    refine wpAnyH_take (i := 7) (v := .bool true) rfl (by kernel_rfl) (by kernel_rfl) (by kernel_rfl) (fun _ _ _ h => h) (Or.inl ⟨by rfl, ?_⟩) hHeld ?_
    · intro w' hSw
      try simp only [Act.put, List.getElem_toArray, List.getElem_cons_succ, List.getElem_cons_zero, List.setIfInBounds_toArray, List.set_cons_zero, List.set_cons_succ]
      go_simp
    try simp only [Act.put, List.getElem_toArray, List.getElem_cons_succ, List.getElem_cons_zero, List.setIfInBounds_toArray, List.set_cons_zero, List.set_cons_succ]
    refine wpAnyH_take (i := 8) (v := .bool true) rfl (by kernel_rfl) (by kernel_rfl) (by kernel_rfl) (fun _ _ _ h => h) (Or.inl ⟨by rfl, ?_⟩) hHeld ?_
    · intro w' hSw
      try simp only [Act.put, List.getElem_toArray, List.getElem_cons_succ, List.getElem_cons_zero, List.setIfInBounds_toArray, List.set_cons_zero, List.set_cons_succ]
      go_simp
    try simp only [Act.put, List.getElem_toArray, List.getElem_cons_succ, List.getElem_cons_zero, List.setIfInBounds_toArray, List.set_cons_zero, List.set_cons_succ]
    refine wpAnyH_take (i := 9) (v := .bool true) rfl (by kernel_rfl) (by kernel_rfl) (by kernel_rfl) (fun _ _ _ h => h) (Or.inl ⟨by rfl, ?_⟩) hHeld ?_
    · intro w' hSw
      try simp only [Act.put, List.getElem_toArray, List.getElem_cons_succ, List.getElem_cons_zero, List.setIfInBounds_toArray, List.set_cons_zero, List.set_cons_succ]
      go_simp
    try simp only [Act.put, List.getElem_toArray, List.getElem_cons_succ, List.getElem_cons_zero, List.setIfInBounds_toArray, List.set_cons_zero, List.set_cons_succ]
    refine wpAnyH_take (i := 10) (v := .slice (some ⟨g, 0, none⟩) m m) rfl (by kernel_rfl) (by kernel_rfl) (by kernel_rfl) (fun _ _ _ h => h) (Or.inl ⟨by rfl, ?_⟩) hHeld ?_
    · intro w' hSw
      try simp only [Act.put, List.getElem_toArray, List.getElem_cons_succ, List.getElem_cons_zero, List.setIfInBounds_toArray, List.set_cons_zero, List.set_cons_succ]
      go_simp
    try simp only [Act.put, List.getElem_toArray, List.getElem_cons_succ, List.getElem_cons_zero, List.setIfInBounds_toArray, List.set_cons_zero, List.set_cons_succ]
    refine wpAnyH_take (i := 11) (v := .int .i64 m) rfl (by kernel_rfl) (by kernel_rfl) (by kernel_rfl) (fun _ _ _ h => h) (Or.inl ⟨by rfl, ?_⟩) hHeld ?_
    · intro w' hSw
      try simp only [Act.put, List.getElem_toArray, List.getElem_cons_succ, List.getElem_cons_zero, List.setIfInBounds_toArray, List.set_cons_zero, List.set_cons_succ]
      go_simp
    try simp only [Act.put, List.getElem_toArray, List.getElem_cons_succ, List.getElem_cons_zero, List.setIfInBounds_toArray, List.set_cons_zero, List.set_cons_succ]
    refine wpAnyH_take (i := 12) (v := .int .u8 k) rfl (by kernel_rfl) (by kernel_rfl) (by kernel_rfl) (fun _ _ _ h => h) (Or.inl ⟨by rfl, ?_⟩) hHeld ?_
    · intro w' hSw
      try simp only [Act.put, List.getElem_toArray, List.getElem_cons_succ, List.getElem_cons_zero, List.setIfInBounds_toArray, List.set_cons_zero, List.set_cons_succ]
      go_simp
    try simp only [Act.put, List.getElem_toArray, List.getElem_cons_succ, List.getElem_cons_zero, List.setIfInBounds_toArray, List.set_cons_zero, List.set_cons_succ]
    refine wpAnyH_take (i := 13) (v := .int .i64 n) rfl (by kernel_rfl) (by kernel_rfl) (by kernel_rfl) (fun _ _ _ h => h) (Or.inl ⟨by rfl, ?_⟩) hHeld ?_
    · intro w' hSw
      try simp only [Act.put, List.getElem_toArray, List.getElem_cons_succ, List.getElem_cons_zero, List.setIfInBounds_toArray, List.set_cons_zero, List.set_cons_succ]
      go_simp
    try simp only [Act.put, List.getElem_toArray, List.getElem_cons_succ, List.getElem_cons_zero, List.setIfInBounds_toArray, List.set_cons_zero, List.set_cons_succ]
    clear hHeld
    refine wpAnyH_ready (rs := [14]) (by kernel_rfl) (by simp) (AllReadyH.cons rfl (fun K hK => ?_) AllReadyH.nil)
    rw [if_pos (by rfl)]
    go_wp2_with fail
    refine HTVW.out.out.mono ?_
    clear HTVW
    rintro e w5 ⟨rfl, t5⟩
    obtain ⟨b0, b1, b2, b3, HT5, HSHW⟩ := HN2.out w4 w5 HT4.out t5
    clear t5
    refine hK.out _ _ ⟨b0, b1, b2, b3⟩ (fun hHeld => ?_)
    clear hK
    try simp only [Act.put, List.getElem_toArray, List.getElem_cons_succ, List.getElem_cons_zero, List.setIfInBounds_toArray, List.set_cons_zero, List.set_cons_succ]
    refine wpAnyH_take (i := 15) (v := .bool true) rfl (by kernel_rfl) (by kernel_rfl) (by kernel_rfl) (fun _ _ _ h => h) (Or.inl ⟨by rfl, ?_⟩) hHeld ?_
    · intro w' hSw
      try simp only [Act.put, List.getElem_toArray, List.getElem_cons_succ, List.getElem_cons_zero, List.setIfInBounds_toArray, List.set_cons_zero, List.set_cons_succ]
      go_simp
    try simp only [Act.put, List.getElem_toArray, List.getElem_cons_succ, List.getElem_cons_zero, List.setIfInBounds_toArray, List.set_cons_zero, List.set_cons_succ]
    refine wpAnyH_take (i := 16) (v := .bool true) rfl (by kernel_rfl) (by kernel_rfl) (by kernel_rfl) (fun _ _ _ h => h) (Or.inl ⟨by rfl, ?_⟩) hHeld ?_
    · intro w' hSw
      try simp only [Act.put, List.getElem_toArray, List.getElem_cons_succ, List.getElem_cons_zero, List.setIfInBounds_toArray, List.set_cons_zero, List.set_cons_succ]
      go_simp
    try simp only [Act.put, List.getElem_toArray, List.getElem_cons_succ, List.getElem_cons_zero, List.setIfInBounds_toArray, List.set_cons_zero, List.set_cons_succ]
    refine wpAnyH_take (i := 17) (v := .bool true) rfl (by kernel_rfl) (by kernel_rfl) (by kernel_rfl) (fun _ _ _ h => h) (Or.inl ⟨by rfl, ?_⟩) hHeld ?_
    · intro w' hSw
      try simp only [Act.put, List.getElem_toArray, List.getElem_cons_succ, List.getElem_cons_zero, List.setIfInBounds_toArray, List.set_cons_zero, List.set_cons_succ]
      go_simp
    try simp only [Act.put, List.getElem_toArray, List.getElem_cons_succ, List.getElem_cons_zero, List.setIfInBounds_toArray, List.set_cons_zero, List.set_cons_succ]
    refine wpAnyH_take (i := 18) (v := .agg #[.int .i64 (-1), .int .i64 c, .int .i64 0, .slice va 0 vc]) rfl (by kernel_rfl) (by kernel_rfl) (by kernel_rfl) (fun _ _ _ h => h) (Or.inl ⟨by rfl, ?_⟩) hHeld ?_
    · intro w' hSw
      try simp only [Act.put, List.getElem_toArray, List.getElem_cons_succ, List.getElem_cons_zero, List.setIfInBounds_toArray, List.set_cons_zero, List.set_cons_succ]
      obtain ⟨s0, s1, s2, s3⟩ := hSw; go_simp
    try simp only [Act.put, List.getElem_toArray, List.getElem_cons_succ, List.getElem_cons_zero, List.setIfInBounds_toArray, List.set_cons_zero, List.set_cons_succ]
    refine wpAnyH_take (i := 19) (v := .pointer (some ⟨ob, 0, none⟩)) rfl (by kernel_rfl) (by kernel_rfl) (by kernel_rfl) (fun _ _ _ h => h) (Or.inl ⟨by rfl, ?_⟩) hHeld ?_
    · intro w' hSw
      try simp only [Act.put, List.getElem_toArray, List.getElem_cons_succ, List.getElem_cons_zero, List.setIfInBounds_toArray, List.set_cons_zero, List.set_cons_succ]
      go_simp
    try simp only [Act.put, List.getElem_toArray, List.getElem_cons_succ, List.getElem_cons_zero, List.setIfInBounds_toArray, List.set_cons_zero, List.set_cons_succ]
    clear hHeld
    refine wpAnyH_ready (rs := [20]) (by kernel_rfl) (by simp) (AllReadyH.cons rfl (fun K hK => ?_) AllReadyH.nil)
    rw [if_pos (by rfl)]
    go_wp2_with fail
    refine HSHW.out.out.mono ?_
    clear HSHW
    rintro e w6 ⟨xa, xc, rfl, t6⟩
    obtain ⟨c0, c1, c2, c3, HT6, HSAW⟩ := HN3.out w5 w6 xa xc HT5.out t6
    clear t6
    refine hK.out _ _ ⟨c0, c1, c2, c3⟩ (fun hHeld => ?_)
    clear hK
    try simp only [Act.put, List.getElem_toArray, List.getElem_cons_succ, List.getElem_cons_zero, List.setIfInBounds_toArray, List.set_cons_zero, List.set_cons_succ]
    clear hHeld
    refine wpAnyH_ready (rs := [21]) (by kernel_rfl) (by simp) (AllReadyH.cons rfl (fun K hK => ?_) AllReadyH.nil)
    rw [if_pos (by rfl)]
    go_wp2_with fail
    refine HSAW.out.out.mono ?_
    clear HSAW
    rintro e w7 ⟨rfl, t7⟩
    obtain ⟨e0, e1, e2, e3, HT7⟩ := HN4.out w6 w7 HT6.out t7
    clear t7
    refine hK.out _ _ ⟨e0, e1, e2, e3⟩ (fun hHeld => ?_)
    clear hK
    try simp only [Act.put, List.getElem_toArray, List.getElem_cons_succ, List.getElem_cons_zero, List.setIfInBounds_toArray, List.set_cons_zero, List.set_cons_succ]
    refine wpAnyH_take (i := 22) (v := .bool true) rfl (by kernel_rfl) (by kernel_rfl) (by kernel_rfl) (fun _ _ _ h => h) (Or.inl ⟨by rfl, ?_⟩) hHeld ?_
    · intro w' hSw
      try simp only [Act.put, List.getElem_toArray, List.getElem_cons_succ, List.getElem_cons_zero, List.setIfInBounds_toArray, List.set_cons_zero, List.set_cons_succ]
      go_simp
    try simp only [Act.put, List.getElem_toArray, List.getElem_cons_succ, List.getElem_cons_zero, List.setIfInBounds_toArray, List.set_cons_zero, List.set_cons_succ]
    refine wpAnyH_take (i := 23) (v := .bool true) rfl (by kernel_rfl) (by kernel_rfl) (by kernel_rfl) (fun _ _ _ h => h) (Or.inl ⟨by rfl, ?_⟩) hHeld ?_
    · intro w' hSw
      try simp only [Act.put, List.getElem_toArray, List.getElem_cons_succ, List.getElem_cons_zero, List.setIfInBounds_toArray, List.set_cons_zero, List.set_cons_succ]
      go_simp
    try simp only [Act.put, List.getElem_toArray, List.getElem_cons_succ, List.getElem_cons_zero, List.setIfInBounds_toArray, List.set_cons_zero, List.set_cons_succ]
    clear hHeld
    refine wpAnyH_done (by kernel_rfl) ?_ _
    have HTF : Hid (Touch w w7 []) := HTX.out.1.trans HT7.out (by simp)
    clear q0 q1 q2 q3 a0 a1 a2 a3 b0 b1 b2 b3 c0 c1 c2 c3 e0 e1 e2 e3
    go_wp2
    go_ret
    exact ⟨rfl, HTF.out⟩

end Go.Proofs.YtcbkafbchpjnoaaGreatDoor
