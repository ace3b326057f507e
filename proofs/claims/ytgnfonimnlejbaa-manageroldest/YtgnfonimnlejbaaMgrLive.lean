/-
  live, TopYields, ManagerPatience OF PACKAGE manager, WALKED.
-/
import Derived.Test.YtgnfonimnlejbaaMgrPlain
namespace Go.Proofs.Ytgnfonimnlejbaa
set_option linter.unusedVariables false
set_option linter.unusedSimpArgs false
open Go.RowKit

/-- A law's answer. -/
def TrueIn (w : World) (e : Ending) (w' : World) : Prop := e = .returned (.bool true) ∧ Touch w w' []

/-- Threads 0 and 1 have begun; 0 has tried j times, 1 has merit m. -/
def PM (k m j : Int) (v : Bool) : MD := ⟨k, fun i => if i = 0 then ⟨true, v, j, 0, 1⟩ else if i = 1 then ⟨true, false, 0, m, 2⟩ else zeroT, 2⟩
def QM (k : Int) : MD := ⟨k, fun i => if i = 0 then ⟨true, false, 0, 0, 1⟩ else zeroT, 1⟩

theorem qm_began (k : Int) : beganM (newM k) 0 false = (0, QM k) := by
  refine Prod.ext rfl ?_
  show ({ (newM k).put 0 ⟨true, false, 0, 0, 0 + 1⟩ with n := 0 + 1 } : MD) = QM k
  simp only [QM, newM, MD.put, MD.mk.injEq, true_and]
  exact ⟨by funext i; rfl, rfl⟩

theorem pm_began (k : Int) : beganM (QM k) 1 false = (0, PM k 0 0 false) := by
  refine Prod.ext rfl ?_
  show ({ (QM k).put 1 ⟨true, false, 0, 0, 1 + 1⟩ with n := 1 + 1 } : MD) = PM k 0 0 false
  simp only [QM, PM, MD.put, MD.mk.injEq, true_and]
  refine ⟨?_, rfl⟩
  funext i
  by_cases h1 : i = 1
  · subst h1; rfl
  · by_cases h0 : i = 0
    · subst h0; rfl
    · simp [h0, h1]

theorem pm_opened (k m : Int) (hm : m + 1 ≤ 1000) : onM openT (PM k m 0 false) 1 = (0, PM k (m + 1) 0 false) := by
  refine Prod.ext rfl ?_
  show (PM k m 0 false).put 1 (openT ⟨true, false, 0, m, 2⟩) = _
  simp only [PM, MD.put, MD.mk.injEq, true_and, and_true, openT, if_pos hm]
  funext i
  by_cases h1 : i = 1
  · subst h1; rfl
  · by_cases h0 : i = 0
    · subst h0; rfl
    · simp [h0, h1]

theorem pm_choose (k m j : Int) (v : Bool) : chooseM (PM k m j v) 0 1 = if killsT k ⟨true, v, j, 0, 1⟩ ⟨true, false, 0, m, 2⟩ = true then ((2, 0, 0), PM k m j v) else ((1, ticksT k ⟨true, v, j, 0, 1⟩, 0), PM k m (j + 1) (if k = 3 then true else v)) := by
  have e : chooseM (PM k m j v) 0 1 = if killsT k ⟨true, v, j, 0, 1⟩ ⟨true, false, 0, m, 2⟩ = true then ((2, 0, 0), PM k m j v) else ((1, ticksT k ⟨true, v, j, 0, 1⟩, 0), (PM k m j v).put 0 (waitT k ⟨true, v, j, 0, 1⟩)) := rfl
  rw [e]
  congr 1
  refine Prod.ext rfl ?_
  simp only [PM, MD.put, MD.mk.injEq, true_and, and_true, waitT]
  funext i
  by_cases h0 : i = 0
  · subst h0; rfl
  · simp [h0]

theorem pm_wf (k m j : Int) (v : Bool) (hk : k = 1 ∨ k = 2 ∨ k = 3) (hm : 0 ≤ m ∧ m ≤ 1000) (hj : 0 ≤ j ∧ j ≤ 2000) : MWf 2000 (PM k m j v) := by
  refine ⟨hk, by decide, by simp [PM], fun i => ?_, fun i => ?_⟩
  · simp only [PM]; split
    · exact hj
    · split <;> simp
  · simp only [PM]; split
    · simp
    · split
      · exact hm
      · simp

theorem qm_n (k : Int) : 0 ≤ (QM k).n ∧ (QM k).n < 4611686018427387904 := by simp [QM]

set_option maxRecDepth 100000 in
set_option maxHeartbeats 800000 in
theorem mlive_any (w : World) : Calls Try.prog 9 #[] w fun x w' => x = .returned (.bool true) ∧ Touch w w' [] := by
  have h0 := mnew_ok 1 (.inl rfl) w
  have hb1 := fun (W : World) (b : Nat) (hW : MObj W b (newM 1)) => HidC.mk (mbegan_any b (newM 1) 0 false (by simp [newM]) (by simp [newM]) W hW)
  have hb2 := fun (W : World) (b : Nat) (hW : MObj W b (QM 1)) => HidC.mk (mbegan_any b (QM 1) 1 false (qm_n 1).1 (qm_n 1).2 W hW)
  have hc1 := fun (W : World) (b : Nat) (hW : MObj W b (PM 1 0 0 false)) => HidC.mk (mchoose_any b 2000 (PM 1 0 0 false) 0 1 (pm_wf 1 0 0 false (.inl rfl) (by decide) (by decide)) W hW)
  have hc2 := fun (W : World) (b : Nat) (hW : MObj W b (PM 1 0 1 false)) => HidC.mk (mchoose_any b 2000 (PM 1 0 1 false) 0 1 (pm_wf 1 0 1 false (.inl rfl) (by decide) (by decide)) W hW)
  have ht := fun (W : World) (b : Nat) (hW : MObj W b (PM 1 0 2 false)) => HidC.mk (mtries_any b 0 (PM 1 0 2 false) W hW)
  have hs := fun (W : World) (b : Nat) (hW : MObj W b (PM 1 0 2 false)) => HidC.mk (mstamp_any b 1 (PM 1 0 2 false) W hW)
  rw [qm_began] at hb1
  rw [pm_began] at hb2
  rw [pm_choose, show (if killsT 1 ⟨true, false, 0, 0, 1⟩ ⟨true, false, 0, 0, 2⟩ = true then ((2, 0, 0), PM 1 0 0 false) else ((1, ticksT 1 ⟨true, false, 0, 0, 1⟩, 0), PM 1 0 (0 + 1) (if (1 : Int) = 3 then true else false)) : (Int × Int × Int) × MD) = ((1, 1, 0), PM 1 0 1 false) from rfl] at hc1
  rw [pm_choose, show (if killsT 1 ⟨true, false, 1, 0, 1⟩ ⟨true, false, 0, 0, 2⟩ = true then ((2, 0, 0), PM 1 0 1 false) else ((1, ticksT 1 ⟨true, false, 1, 0, 1⟩, 0), PM 1 0 (1 + 1) (if (1 : Int) = 3 then true else false)) : (Int × Int × Int) × MD) = ((1, 2, 0), PM 1 0 2 false) from rfl] at hc2
  rw [show (toldM (PM 1 0 2 false) 0).tries = 2 from rfl] at ht
  rw [show (toldM (PM 1 0 2 false) 1).stamp = 2 from rfl] at hs
  go_enter Try.func9, Try.ntmps9
  go_wp2_with fail
  refine h0.mono ?_
  rintro x w1 ⟨rfl, l1, T⟩
  clear h0
  generalize hB : w.heap.size = B at *
  have HB : Hid (w.heap.size = B) := hB
  clear hB
  go_wp2_with fail
  refine (hb1 w1 B l1).out.mono ?_
  rintro x w2 ⟨rfl, l2, t2⟩
  clear hb1 l1
  go_wp2_with fail
  refine (hb2 w2 B l2).out.mono ?_
  rintro x w3 ⟨rfl, l3, t3⟩
  clear hb2 l2
  go_wp2_with fail
  refine (hc1 w3 B l3).out.mono ?_
  rintro x w4 ⟨rfl, l4, t4⟩
  clear hc1 l3
  go_wp2_with fail
  refine (hc2 w4 B l4).out.mono ?_
  rintro x w5 ⟨rfl, l5, t5⟩
  clear hc2 l4
  go_wp2_with fail
  refine (ht w5 B l5).out.mono ?_
  rintro x w6 ⟨rfl, t6⟩
  have l6 := l5.touch t6 (by simp)
  clear ht l5
  go_wp2_with fail
  refine (hs w6 B l6).out.mono ?_
  rintro x w7 ⟨rfl, t7⟩
  clear hs l6
  go_wp2
  go_ret
  have hS : ∀ y ∈ [B], y ∈ ([] : List Nat) ∨ w.heap.size ≤ y := by intro y hy; simp at hy; have := HB.out; omega
  exact ⟨rfl, (((((T.trans t2 hS).trans t3 hS).trans t4 hS).trans t5 hS).trans t6 (by simp)).trans t7 (by simp)⟩

/-! ### TopYields -/
/-- a began, then b. -/
def YM (a b : Nat) : MD := (beganM (beganM (newM 3) a false).2 b false).2

theorem ym_inv (a b : Nat) : MInv 2 (YM a b) := began_inv (N := 1) (began_inv (N := 0) (MInv.new 3 (.inr (.inr rfl))) (by decide) _ _) (by decide) _ _
theorem ym_inv2 (a b : Nat) (x y : Int) : MInv 3 (chooseM (YM a b) x y).2 := step_inv (N := 2) (ym_inv a b) (by decide) ⟨2, x, y, false⟩

set_option maxRecDepth 100000 in
set_option maxHeartbeats 1600000 in
theorem yields_any (swap late : Bool) (w : World) : Calls Try.prog 7 #[.bool swap, .bool late] w (TrueIn w) := by
  have h0 := HidC.mk (mnew_ok 3 (.inr (.inr rfl)) w)
  have hb1 := fun (W : World) (b : Nat) (th : Int) (hW : MObj W b (newM 3)) => HidC.mk (mbegan_any b (newM 3) th false (by simp [newM]) (by simp [newM]) W hW)
  have hb2 := fun (W : World) (b : Nat) (th t2 : Int) (hW : MObj W b (beganM (newM 3) th false).2) => HidC.mk (mbegan_any b (beganM (newM 3) th false).2 t2 false (by unfold beganM; repeat' split <;> simp [newM, MD.put]) (by unfold beganM; repeat' split <;> simp [newM, MD.put]) W hW)
  have hc1 := fun (W : World) (b x y : Nat) (p q : Int) (hW : MObj W b (YM x y)) => HidC.mk (mchoose_any b 2 (YM x y) p q (ym_inv x y).wf W hW)
  have hc2 := fun (W : World) (b x y : Nat) (p q r s : Int) (hW : MObj W b (chooseM (YM x y) p q).2) => HidC.mk (mchoose_any b 3 (chooseM (YM x y) p q).2 r s (ym_inv2 x y p q).wf W hW)
  cases swap with
  | false =>
    cases late with
    | false =>
      have e1 : (beganM (newM 3) 0 false).1 = 0 := rfl
      have e2 : (beganM (beganM (newM 3) 0 false).2 1 false).1 = 0 := rfl
      have e3 : (chooseM (YM 0 1) 0 1).1 = (2, 0, 0) := rfl
      have e4 : (chooseM (chooseM (YM 0 1) 0 1).2 1 0).1 = (1, 1, 0) := rfl
      go_enter Try.func7, Try.ntmps7
      go_wp2_with fail
      refine h0.out.mono ?_
      rintro x w1 ⟨rfl, l1, T⟩
      clear h0
      generalize hB : w.heap.size = B at *
      have HB : Hid (w.heap.size = B) := hB
      clear hB
      go_wp2_with fail
      refine (hb1 w1 B 0 l1).out.mono ?_
      rintro x w2 ⟨rfl, l2, t2⟩
      rw [e1]
      clear hb1 l1 e1
      go_wp2_with fail
      refine (hb2 w2 B 0 1 l2).out.mono ?_
      rintro x w3 ⟨rfl, l3, t3⟩
      rw [e2]
      clear hb2 l2 e2
      go_wp2_with fail
      refine (hc1 w3 B 0 1 0 1 l3).out.mono ?_
      rintro x w4 ⟨rfl, l4, t4⟩
      rw [e3]
      clear hc1 l3 e3
      go_wp2_with fail
      refine (hc2 w4 B 0 1 0 1 1 0 l4).out.mono ?_
      rintro x w5 ⟨rfl, l5, t5⟩
      rw [e4]
      clear hc2 l4 e4 l5
      go_wp2
      go_ret
      have hS : ∀ y ∈ [B], y ∈ ([] : List Nat) ∨ w.heap.size ≤ y := by intro y hy; simp at hy; have := HB.out; omega
      exact ⟨rfl, (((T.trans t2 hS).trans t3 hS).trans t4 hS).trans t5 hS⟩
    | true =>
      have e1 : (beganM (newM 3) 0 false).1 = 0 := rfl
      have e2 : (beganM (beganM (newM 3) 0 false).2 1 false).1 = 0 := rfl
      have e3 : (chooseM (YM 0 1) 1 0).1 = (1, 1, 0) := rfl
      have e4 : (chooseM (chooseM (YM 0 1) 1 0).2 0 1).1 = (2, 0, 0) := rfl
      go_enter Try.func7, Try.ntmps7
      go_wp2_with fail
      refine h0.out.mono ?_
      rintro x w1 ⟨rfl, l1, T⟩
      clear h0
      generalize hB : w.heap.size = B at *
      have HB : Hid (w.heap.size = B) := hB
      clear hB
      go_wp2_with fail
      refine (hb1 w1 B 0 l1).out.mono ?_
      rintro x w2 ⟨rfl, l2, t2⟩
      rw [e1]
      clear hb1 l1 e1
      go_wp2_with fail
      refine (hb2 w2 B 0 1 l2).out.mono ?_
      rintro x w3 ⟨rfl, l3, t3⟩
      rw [e2]
      clear hb2 l2 e2
      go_wp2_with fail
      refine (hc1 w3 B 0 1 1 0 l3).out.mono ?_
      rintro x w4 ⟨rfl, l4, t4⟩
      rw [e3]
      clear hc1 l3 e3
      go_wp2_with fail
      refine (hc2 w4 B 0 1 1 0 0 1 l4).out.mono ?_
      rintro x w5 ⟨rfl, l5, t5⟩
      rw [e4]
      clear hc2 l4 e4 l5
      go_wp2
      go_ret
      have hS : ∀ y ∈ [B], y ∈ ([] : List Nat) ∨ w.heap.size ≤ y := by intro y hy; simp at hy; have := HB.out; omega
      exact ⟨rfl, (((T.trans t2 hS).trans t3 hS).trans t4 hS).trans t5 hS⟩
  | true =>
    cases late with
    | false =>
      have e1 : (beganM (newM 3) 1 false).1 = 0 := rfl
      have e2 : (beganM (beganM (newM 3) 1 false).2 0 false).1 = 0 := rfl
      have e3 : (chooseM (YM 1 0) 1 0).1 = (2, 0, 0) := rfl
      have e4 : (chooseM (chooseM (YM 1 0) 1 0).2 0 1).1 = (1, 1, 0) := rfl
      go_enter Try.func7, Try.ntmps7
      go_wp2_with fail
      refine h0.out.mono ?_
      rintro x w1 ⟨rfl, l1, T⟩
      clear h0
      generalize hB : w.heap.size = B at *
      have HB : Hid (w.heap.size = B) := hB
      clear hB
      go_wp2_with fail
      refine (hb1 w1 B 1 l1).out.mono ?_
      rintro x w2 ⟨rfl, l2, t2⟩
      rw [e1]
      clear hb1 l1 e1
      go_wp2_with fail
      refine (hb2 w2 B 1 0 l2).out.mono ?_
      rintro x w3 ⟨rfl, l3, t3⟩
      rw [e2]
      clear hb2 l2 e2
      go_wp2_with fail
      refine (hc1 w3 B 1 0 1 0 l3).out.mono ?_
      rintro x w4 ⟨rfl, l4, t4⟩
      rw [e3]
      clear hc1 l3 e3
      go_wp2_with fail
      refine (hc2 w4 B 1 0 1 0 0 1 l4).out.mono ?_
      rintro x w5 ⟨rfl, l5, t5⟩
      rw [e4]
      clear hc2 l4 e4 l5
      go_wp2
      go_ret
      have hS : ∀ y ∈ [B], y ∈ ([] : List Nat) ∨ w.heap.size ≤ y := by intro y hy; simp at hy; have := HB.out; omega
      exact ⟨rfl, (((T.trans t2 hS).trans t3 hS).trans t4 hS).trans t5 hS⟩
    | true =>
      have e1 : (beganM (newM 3) 1 false).1 = 0 := rfl
      have e2 : (beganM (beganM (newM 3) 1 false).2 0 false).1 = 0 := rfl
      have e3 : (chooseM (YM 1 0) 0 1).1 = (1, 1, 0) := rfl
      have e4 : (chooseM (chooseM (YM 1 0) 0 1).2 1 0).1 = (2, 0, 0) := rfl
      go_enter Try.func7, Try.ntmps7
      go_wp2_with fail
      refine h0.out.mono ?_
      rintro x w1 ⟨rfl, l1, T⟩
      clear h0
      generalize hB : w.heap.size = B at *
      have HB : Hid (w.heap.size = B) := hB
      clear hB
      go_wp2_with fail
      refine (hb1 w1 B 1 l1).out.mono ?_
      rintro x w2 ⟨rfl, l2, t2⟩
      rw [e1]
      clear hb1 l1 e1
      go_wp2_with fail
      refine (hb2 w2 B 1 0 l2).out.mono ?_
      rintro x w3 ⟨rfl, l3, t3⟩
      rw [e2]
      clear hb2 l2 e2
      go_wp2_with fail
      refine (hc1 w3 B 1 0 0 1 l3).out.mono ?_
      rintro x w4 ⟨rfl, l4, t4⟩
      rw [e3]
      clear hc1 l3 e3
      go_wp2_with fail
      refine (hc2 w4 B 1 0 0 1 1 0 l4).out.mono ?_
      rintro x w5 ⟨rfl, l5, t5⟩
      rw [e4]
      clear hc2 l4 e4 l5
      go_wp2
      go_ret
      have hS : ∀ y ∈ [B], y ∈ ([] : List Nat) ∨ w.heap.size ≤ y := by intro y hy; simp at hy; have := HB.out; omega
      exact ⟨rfl, (((T.trans t2 hS).trans t3 hS).trans t4 hS).trans t5 hS⟩

end Go.Proofs.Ytgnfonimnlejbaa
