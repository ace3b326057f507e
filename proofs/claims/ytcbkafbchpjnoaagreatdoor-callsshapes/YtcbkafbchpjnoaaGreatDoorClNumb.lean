/-
  package calls: number, allRight, round BY THEIR CONTRACTS; the document's whole.
-/
import Derived.Test.YtcbkafbchpjnoaaGreatDoorAllA
import Derived.Test.YtcbkafbchpjnoaaGreatDoorClBegin
namespace Go.Proofs.YtcbkafbchpjnoaaGreatDoor
set_option linter.unusedVariables false
set_option linter.unusedSimpArgs false
open Go.RowKit
attribute [local go_sem] Oper.semAt_some

/-- A value as a number from 0 to most. -/
def numR (v most : Int) : Int × Bool := if (wholeV (ofB v.toNat)).2 = true ∧ negB (ofB v.toNat) = false ∧ (wholeV (ofB v.toNat)).1 ≤ most then ((wholeV (ofB v.toNat)).1, true) else (0, false)
theorem numR_nonneg {v most : Int} (hv : Wf64 v) (h : (numR v most).2 = true) : 0 ≤ (numR v most).1 ∧ (numR v most).1 ≤ most ∧ (numR v most).1 ≤ 9007199254740992 := by
  unfold numR at h ⊢
  split at h
  · rename_i hc
    rw [if_pos hc]
    have hs := whole_sign hv.rt (n := (wholeV (ofB v.toNat)).1) (by rw [← hc.1])
    have h2 := hc.2.1
    rw [hs.2] at h2
    simp only [Bool.or_eq_false_iff, decide_eq_false_iff_not] at h2
    exact ⟨by simp only; omega, hc.2.2, hs.1.2⟩
  · cases h
theorem numR_zero {v most : Int} (h : (numR v most).2 = false) : (numR v most).1 = 0 := by
  unfold numR at h ⊢
  split at h
  · cases h
  · rename_i hc; rw [if_neg hc]
theorem numR_range {v most : Int} (hv : Wf64 v) (hm : 0 ≤ most) : 0 ≤ (numR v most).1 ∧ (numR v most).1 ≤ most := by
  cases h : (numR v most).2 with
  | true => have := numR_nonneg hv h; omega
  | false => rw [numR_zero h]; omega
theorem numR_far {v : Int} (hv : Wf64 v) : numR v 9007199254740992 = numR v 9223372036854775807 := by
  unfold numR
  by_cases h : (wholeV (ofB v.toNat)).2 = true
  · have hs := whole_sign hv.rt (n := (wholeV (ofB v.toNat)).1) (by rw [← h])
    have h1 : (wholeV (ofB v.toNat)).1 ≤ 9007199254740992 := hs.1.2
    have h2 : (wholeV (ofB v.toNat)).1 ≤ 9223372036854775807 := by omega
    simp [h1, h2]
  · rw [if_neg (fun c => h c.1), if_neg (fun c => h c.1)]

set_option maxRecDepth 100000 in
theorem clnumber_any (v most : Int) (hv : Wf64 v) (w : World) : Calls Tryz.prog 70 #[.int .u64 v, .int .i64 most] w fun e w' => e = .returned (.tuple #[.int .i64 (numR v most).1, .bool (numR v most).2]) ∧ Touch w w' [] := by
  have HN : Hid (numR v most = if (wholeV (ofB v.toNat)).2 = true ∧ negB (ofB v.toNat) = false ∧ (wholeV (ofB v.toNat)).1 ≤ most then ((wholeV (ofB v.toNat)).1, true) else (0, false)) := rfl
  have HW : HidC _ _ _ _ _ := ⟨whole_any v hv w⟩
  have HG : Hid (∀ W, HidC Tryz.prog 103 #[.int .u64 v] W fun e w' => e = .returned (.bool (negB (ofB v.toNat))) ∧ W = w') := fun W => ⟨negative_any v W⟩
  unfold pairV at HW
  generalize negB (ofB v.toNat) = nb at *
  generalize wholeV (ofB v.toNat) = r at *
  obtain ⟨x, ok⟩ := r
  generalize numR v most = R at *
  obtain ⟨R1, R2⟩ := R
  simp only at HN HW ⊢
  clear hv
  cases ok with
  | false =>
    have HE : Hid ((R1, R2) = ((0 : Int), false)) := by show _ = _; rw [HN.out, if_neg (by simp)]
    clear HN
    go_enter Tryz.func70, Tryz.ntmps70
    go_wp2_with fail
    refine HW.out.mono ?_
    clear HW
    rintro e w1 ⟨rfl, t⟩
    have HT : Hid _ := t
    clear t
    go_wp2
    obtain ⟨rfl, rfl⟩ := Prod.mk.inj HE.out
    exact bodyPost_ret (v := .tuple #[.int .i64 0, .bool false]) (by simp [results, Tryz.results70, go_sem]) rfl ⟨rfl, HT.out⟩
  | true =>
    cases nb with
    | true =>
      have HE : Hid ((R1, R2) = ((0 : Int), false)) := by show _ = _; rw [HN.out, if_neg (by simp)]
      clear HN
      go_enter Tryz.func70, Tryz.ntmps70
      go_wp2_with fail
      refine HW.out.mono ?_
      clear HW
      rintro e w1 ⟨rfl, t⟩
      have HT : Hid _ := t
      clear t
      go_wp2_with fail
      refine (HG.out _).out.mono ?_
      clear HG
      rintro e _ ⟨rfl, rfl⟩
      go_wp2
      obtain ⟨rfl, rfl⟩ := Prod.mk.inj HE.out
      exact bodyPost_ret (v := .tuple #[.int .i64 0, .bool false]) (by simp [results, Tryz.results70, go_sem]) rfl ⟨rfl, HT.out⟩
    | false =>
      by_cases hm : x ≤ most
      · have HE : Hid ((R1, R2) = (x, true)) := by show _ = _; rw [HN.out, if_pos (by simp [hm])]
        have hm' : ¬ most < x := by omega
        clear HN hm
        go_enter Tryz.func70, Tryz.ntmps70
        go_wp2_with fail
        refine HW.out.mono ?_
        clear HW
        rintro e w1 ⟨rfl, t⟩
        have HT : Hid _ := t
        clear t
        go_wp2_with fail
        refine (HG.out _).out.mono ?_
        clear HG
        rintro e _ ⟨rfl, rfl⟩
        go_wp2
        obtain ⟨rfl, rfl⟩ := Prod.mk.inj HE.out
        exact bodyPost_ret (v := .tuple #[.int .i64 R1, .bool true]) (by simp [results, Tryz.results70, go_sem]) rfl ⟨rfl, HT.out⟩
      · have HE : Hid ((R1, R2) = ((0 : Int), false)) := by show _ = _; rw [HN.out, if_neg (by simp [hm])]
        have hm' : most < x := by omega
        clear HN hm
        go_enter Tryz.func70, Tryz.ntmps70
        go_wp2_with fail
        refine HW.out.mono ?_
        clear HW
        rintro e w1 ⟨rfl, t⟩
        have HT : Hid _ := t
        clear t
        go_wp2_with fail
        refine (HG.out _).out.mono ?_
        clear HG
        rintro e _ ⟨rfl, rfl⟩
        go_wp2
        obtain ⟨rfl, rfl⟩ := Prod.mk.inj HE.out
        exact bodyPost_ret (v := .tuple #[.int .i64 0, .bool false]) (by simp [results, Tryz.results70, go_sem]) rfl ⟨rfl, HT.out⟩

/-- The document's: -1 where there is none. -/
def numW (v most : Int) : Int := if (numR v most).2 then (numR v most).1 else -1
theorem right_is {v : Int} (hv : Wf64 v) (h : rightB v = true) : ofB v.toNat = v.toNat := by
  unfold rightB at h
  rw [decide_eq_true_eq] at h
  have h0 := hv.1
  omega
theorem numW_is {v most : Int} (hv : Wf64 v) (hr : rightB v = true) : numW v most = if (wholeV (ofB v.toNat)).2 = true ∧ ¬ (wholeV (ofB v.toNat)).1 < 0 ∧ ¬ most < (wholeV (ofB v.toNat)).1 ∧ ¬ v = 9223372036854775808 then (wholeV (ofB v.toNat)).1 else -1 := by
  have e := right_is hv hr
  unfold numW
  by_cases h : (wholeV (ofB v.toNat)).2 = true
  · have hs := whole_sign hv.rt (n := (wholeV (ofB v.toNat)).1) (by rw [← h])
    have hg : negB (ofB v.toNat) = false ↔ ¬ (wholeV (ofB v.toNat)).1 < 0 ∧ ¬ v = 9223372036854775808 := by
      rw [hs.2, e]
      simp only [Bool.or_eq_false_iff, decide_eq_false_iff_not]
      have h0 := hv.1
      constructor
      · rintro ⟨a, b⟩; exact ⟨a, by omega⟩
      · rintro ⟨a, b⟩; exact ⟨a, by omega⟩
    by_cases h2 : negB (ofB v.toNat) = false ∧ (wholeV (ofB v.toNat)).1 ≤ most
    · have h3 := hg.1 h2.1
      rw [show numR v most = ((wholeV (ofB v.toNat)).1, true) from if_pos ⟨h, h2⟩]
      exact Eq.trans (if_pos rfl) (Eq.symm (if_pos ⟨h, h3.1, by omega, h3.2⟩))
    · rw [show numR v most = (0, false) from if_neg (fun c => h2 c.2)]
      exact Eq.trans (if_neg (by simp)) (Eq.symm (if_neg (fun c => h2 ⟨hg.2 ⟨c.2.1, c.2.2.2⟩, by omega⟩)))
  · rw [show numR v most = (0, false) from if_neg (fun c => h c.1)]
    exact Eq.trans (if_neg (by simp)) (Eq.symm (if_neg (fun c => h c.1)))

set_option maxRecDepth 100000 in
theorem rwhole24_any (v most : Int) (hv : Wf64 v) (hr : rightB v = true) (w : World) : Calls Tryz.prog 40 #[.int .u64 v, .int .i64 most] w fun e w' => e = .returned (.int .i64 (numW v most)) ∧ w = w' := by
  have HN : Hid _ := numW_is (most := most) hv hr
  have HW : HidC _ _ _ _ _ := ⟨rwhole_any v hv w⟩
  unfold pairV at HW
  generalize wholeV (ofB v.toNat) = r at *
  obtain ⟨x, ok⟩ := r
  generalize numW v most = R at *
  simp only at HN HW ⊢
  clear hv hr
  cases ok with
  | false =>
    have HE : Hid (R = -1) := by show _ = _; rw [HN.out, if_neg (by simp)]
    clear HN
    go_enter Tryz.func40, Tryz.ntmps40
    go_wp2_with fail
    refine HW.out.mono ?_
    clear HW
    rintro e w1 ⟨rfl, rfl⟩
    go_wp2
    go_ret
    exact ⟨by rw [HE.out]; rfl, rfl⟩
  | true =>
    by_cases h1 : x < 0
    · have HE : Hid (R = -1) := by show _ = _; rw [HN.out, if_neg (by simp [h1])]
      clear HN
      go_enter Tryz.func40, Tryz.ntmps40
      go_wp2_with fail
      refine HW.out.mono ?_
      clear HW
      rintro e w1 ⟨rfl, rfl⟩
      go_wp2
      go_ret
      exact ⟨by rw [HE.out]; rfl, rfl⟩
    · by_cases h2 : most < x
      · have HE : Hid (R = -1) := by show _ = _; rw [HN.out, if_neg (by simp [h2])]
        clear HN
        go_enter Tryz.func40, Tryz.ntmps40
        go_wp2_with fail
        refine HW.out.mono ?_
        clear HW
        rintro e w1 ⟨rfl, rfl⟩
        go_wp2
        go_ret
        exact ⟨by rw [HE.out]; rfl, rfl⟩
      · by_cases h3 : v = 9223372036854775808
        · have HE : Hid (R = -1) := by show _ = _; rw [HN.out, if_neg (by simp [h3])]
          clear HN
          subst h3
          go_enter Tryz.func40, Tryz.ntmps40
          go_wp2_with fail
          refine HW.out.mono ?_
          clear HW
          rintro e w1 ⟨rfl, rfl⟩
          go_wp2
          go_ret
          exact ⟨by rw [HE.out]; rfl, rfl⟩
        · have HE : Hid (R = x) := by show _ = _; rw [HN.out, if_pos ⟨rfl, h1, h2, h3⟩]
          have h3' : (v == 9223372036854775808) = false := by simpa using h3
          clear HN
          go_enter Tryz.func40, Tryz.ntmps40
          go_wp2_with fail
          refine HW.out.mono ?_
          clear HW
          rintro e w1 ⟨rfl, rfl⟩
          go_wp2
          go_ret
          exact ⟨by rw [HE.out]; rfl, rfl⟩

end Go.Proofs.YtcbkafbchpjnoaaGreatDoor
