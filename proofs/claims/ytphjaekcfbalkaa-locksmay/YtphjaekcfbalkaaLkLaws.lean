/-
  THE STATEMENTS ON package locks, WALKED: LocksBlocks, LocksCounts.
-/
import Derived.Test.YtphjaekcfbalkaaLkRefs
namespace Go.Proofs.Ytphjaekcfbalkaa
set_option linter.unusedVariables false
set_option linter.unusedSimpArgs false
open Go.RowKit
attribute [local go_sem] Oper.semAt_some

def lkL (er : Int) (L : List InsD) : List InsD := if er = 0 then L else []
/-- What the blocks come to, in the same words. -/
def LkQ (w : World) (er : Int) (n : Nat) (l : List InsD) (e : Ending) (w' : World) : Prop := ∃ ao cap, e = .returned (.tuple #[.slice ao n cap, .int .i64 er]) ∧ InsIn w' ao n cap l ∧ Touch w w' []
theorem LkP.q {w : World} {er : Int} {L : List InsD} {e : Ending} {w' : World} (h : LkP w er L e w') : LkQ w er (lkL er L).length (lkL er L) e w' := by
  rcases h with ⟨rfl, ao, cap, h2, h3, h4⟩ | ⟨h1, h2, h4⟩
  · exact ⟨ao, cap, h2, h3, h4⟩
  · have e : lkL er L = [] := by unfold lkL; rw [if_neg h1]
    rw [e]
    exact ⟨none, 0, h2, ⟨rfl, ⟨none, 0, rfl, fun h => absurd rfl h⟩, Nat.le_refl _, by omega, by simp⟩, h4⟩
theorem lkL_len {er : Int} {L : List InsD} (h : L.length ≤ 1000) : (lkL er L).length ≤ 1000 := by
  unfold lkL; split
  · exact h
  · simp

set_option maxRecDepth 100000 in
theorem llive_any (w : World) : Calls Try.prog 11 #[] w fun e w' => e = .returned (.bool true) ∧ Touch w w' [] := by
  have hE : upE 0 3 = 0 := by decide
  have hL : blkL 0 (upB 3) = [insO 21 5, insO 4 3, insP 1, insO 8 0, insO 5 3, insO 22 0] := by
    unfold blkL; rw [up_body]; simp [shI, goesP, insO, insP]
  have HC : Hid (∀ W, HidC Try.prog 15 #[.int .i64 0, .int .i64 3] W (fun e w' => ∃ g off cap, e = .returned (.tuple #[.slice (some ⟨g, off, none⟩) 6 cap, .int .i64 0]) ∧ (w'.cell? ⟨g, off, none⟩ = some (.int .u8 21) ∧ w'.cell? ⟨g, off + 1, none⟩ = some (.int .i64 5) ∧ w'.cell? ⟨g, off + 2, none⟩ = some (.int .u64 0) ∧ w'.cell? ⟨g, off + 15, none⟩ = some (.int .u8 22)) ∧ Touch W w' [])) := by
    intro W
    refine ⟨(lup_any 0 3 W).mono ?_⟩
    intro e w' h
    rw [hE, hL] at h
    rcases h with ⟨_, ao, cap, rfl, hin, t⟩ | ⟨h, _⟩
    · obtain ⟨g, off, rfl, d0, d1, d2⟩ := ins_at hin.row (Touch.refl w' []) (by simp) 0 (by simp)
      obtain ⟨g', off', e', f0, f1, f2⟩ := ins_at hin.row (Touch.refl w' []) (by simp) 5 (by simp)
      simp only [Option.some.injEq, Addr.mk.injEq, and_true] at e'
      obtain ⟨rfl, rfl⟩ := e'
      exact ⟨g, off, cap, rfl, ⟨d0, d1, d2, f0⟩, t⟩
    · exact absurd rfl h
  clear hE hL
  go_enter Try.func11, Try.ntmps11
  go_wp2_with fail
  refine (HC.out _).out.mono ?_
  rintro e w1 ⟨g, off, cap, rfl, ⟨d0, d1, d2, d5⟩, t1⟩
  have HT : Hid _ := t1
  clear t1
  go_wp2
  go_ret
  exact ⟨rfl, HT.out⟩

set_option maxRecDepth 100000 in
set_option maxHeartbeats 1000000 in
theorem locksblocks_any (a t u : Int) (w : World) : Calls Try.prog 3 #[.int .i64 a, .int .i64 t, .int .i64 u] w fun e w' => e = .returned (.bool true) ∧ Touch w w' [] := by
  have h1 : (lkL (lockE a t u) (blkL a (lockB t u))).length ≤ 1000 := lkL_len (by unfold blkL; rw [lock_body]; simp)
  have h2 : (lkL (unlockE a t u) (blkL a (unlockB t u))).length ≤ 1000 := lkL_len (by unfold blkL; rw [unlock_body]; simp)
  have C1 : Hid (∀ W, HidC Try.prog 7 #[.int .i64 a, .int .i64 t, .int .i64 u] W (LkQ W (lockE a t u) (lkL (lockE a t u) (blkL a (lockB t u))).length (lkL (lockE a t u) (blkL a (lockB t u))))) := fun W => ⟨(llock_any a t u W).mono fun _ _ h => h.q⟩
  have C2 : Hid (∀ W, HidC Try.prog 8 #[.int .i64 a, .int .i64 t, .int .i64 u] W (LkQ W (lockE a t u) (lkL (lockE a t u) (blkL a (lockB t u))).length (lkL (lockE a t u) (blkL a (lockB t u))))) := fun W => ⟨(rlock_any a t u W).mono fun _ _ h => h.q⟩
  have C3 : Hid (∀ W, HidC Try.prog 9 #[.int .i64 a, .int .i64 t, .int .i64 u] W (LkQ W (unlockE a t u) (lkL (unlockE a t u) (blkL a (unlockB t u))).length (lkL (unlockE a t u) (blkL a (unlockB t u))))) := fun W => ⟨(lunlock_any a t u W).mono fun _ _ h => h.q⟩
  have C4 : Hid (∀ W, HidC Try.prog 10 #[.int .i64 a, .int .i64 t, .int .i64 u] W (LkQ W (unlockE a t u) (lkL (unlockE a t u) (blkL a (unlockB t u))).length (lkL (unlockE a t u) (blkL a (unlockB t u))))) := fun W => ⟨(runlock_any a t u W).mono fun _ _ h => h.q⟩
  have H1 : Hid _ := h1
  have H2 : Hid _ := h2
  clear h1 h2
  generalize lkL (lockE a t u) (blkL a (lockB t u)) = L1 at *
  generalize lkL (unlockE a t u) (blkL a (unlockB t u)) = L2 at *
  generalize lockE a t u = E1 at *
  generalize unlockE a t u = E2 at *
  generalize L1.length = n1 at *
  generalize L2.length = n2 at *
  go_enter Try.func3, Try.ntmps3
  go_wp2_with fail
  refine (C1.out _).out.mono ?_
  rintro e w1 ⟨a1, c1, rfl, i1, t1⟩
  have I1 : Hid _ := i1
  have T1 : Hid _ := t1
  clear i1 t1
  go_wp2_with fail
  refine (C2.out _).out.mono ?_
  rintro e w2 ⟨a2, c2, rfl, i2, t2⟩
  have I2 : Hid _ := i2
  have I1' : Hid _ := I1.out.keep t2
  have T2 : Hid (Touch w w2 []) := T1.out.trans t2 (by simp)
  clear i2 t2
  go_wp2_with fail
  refine (C3.out _).out.mono ?_
  rintro e w3 ⟨a3, c3, rfl, i3, t3⟩
  have I3 : Hid _ := i3
  have I13 : Hid _ := I1'.out.keep t3
  have I23 : Hid _ := I2.out.keep t3
  have T3 : Hid (Touch w w3 []) := T2.out.trans t3 (by simp)
  clear i3 t3
  go_wp2_with fail
  refine (C4.out _).out.mono ?_
  rintro e w4 ⟨a4, c4, rfl, i4, t4⟩
  have I4 : Hid _ := i4
  have I14 : Hid _ := I13.out.keep t4
  have I24 : Hid _ := I23.out.keep t4
  have I34 : Hid _ := I3.out.keep t4
  have T4 : Hid (Touch w w4 []) := T3.out.trans t4 (by simp)
  clear i4 t4
  go_wp2_with fail
  refine (llive_any _).mono ?_
  rintro e w5 ⟨rfl, t5⟩
  have I45 : Hid _ := I4.out.keep t5
  have I15 : Hid _ := I14.out.keep t5
  have I25 : Hid _ := I24.out.keep t5
  have I35 : Hid _ := I34.out.keep t5
  have T5 : Hid (Touch w w5 []) := T4.out.trans t5 (by simp)
  clear t5
  go_wp2_with fail
  refine (rsame_eq I15.out I25.out H1.out).mono ?_
  rintro e w6 ⟨rfl, t6⟩
  have I46 : Hid _ := I45.out.keep t6
  have I36 : Hid _ := I35.out.keep t6
  have T6 : Hid (Touch w w6 []) := T5.out.trans t6 (by simp)
  clear t6
  go_wp2_with fail
  refine (rsame_eq I36.out I46.out H2.out).mono ?_
  rintro e w7 ⟨rfl, t7⟩
  have T7 : Hid (Touch w w7 []) := T6.out.trans t7 (by simp)
  clear t7
  go_wp2
  go_ret
  exact ⟨rfl, T7.out⟩

set_option maxRecDepth 100000 in
set_option maxHeartbeats 1000000 in
theorem lockscounts_any (a t : Int) (w : World) : Calls Try.prog 4 #[.int .i64 a, .int .i64 t] w fun e w' => e = .returned (.bool true) ∧ Touch w w' [] := by
  have h1 : (lkL (downE a t) (blkL a (downB t))).length ≤ 1000 := lkL_len (by unfold blkL; rw [down_body]; simp)
  have h2 : (lkL (upE a t) (blkL a (upB t))).length ≤ 1000 := lkL_len (by unfold blkL; rw [up_body]; simp)
  have C1 : Hid (∀ W, HidC Try.prog 13 #[.int .i64 a, .int .i64 t] W (LkQ W (downE a t) (lkL (downE a t) (blkL a (downB t))).length (lkL (downE a t) (blkL a (downB t))))) := fun W => ⟨(ldown_any a t W).mono fun _ _ h => h.q⟩
  have C2 : Hid (∀ W, HidC Try.prog 14 #[.int .i64 a, .int .i64 t] W (LkQ W (downE a t) (lkL (downE a t) (blkL a (downB t))).length (lkL (downE a t) (blkL a (downB t))))) := fun W => ⟨(rdown_any a t W).mono fun _ _ h => h.q⟩
  have C3 : Hid (∀ W, HidC Try.prog 15 #[.int .i64 a, .int .i64 t] W (LkQ W (upE a t) (lkL (upE a t) (blkL a (upB t))).length (lkL (upE a t) (blkL a (upB t))))) := fun W => ⟨(lup_any a t W).mono fun _ _ h => h.q⟩
  have C4 : Hid (∀ W, HidC Try.prog 16 #[.int .i64 a, .int .i64 t] W (LkQ W (upE a t) (lkL (upE a t) (blkL a (upB t))).length (lkL (upE a t) (blkL a (upB t))))) := fun W => ⟨(rup_any a t W).mono fun _ _ h => h.q⟩
  have H1 : Hid _ := h1
  have H2 : Hid _ := h2
  clear h1 h2
  generalize lkL (downE a t) (blkL a (downB t)) = L1 at *
  generalize lkL (upE a t) (blkL a (upB t)) = L2 at *
  generalize downE a t = E1 at *
  generalize upE a t = E2 at *
  generalize L1.length = n1 at *
  generalize L2.length = n2 at *
  go_enter Try.func4, Try.ntmps4
  go_wp2_with fail
  refine (C1.out _).out.mono ?_
  rintro e w1 ⟨a1, c1, rfl, i1, t1⟩
  have I1 : Hid _ := i1
  have T1 : Hid _ := t1
  clear i1 t1
  go_wp2_with fail
  refine (C2.out _).out.mono ?_
  rintro e w2 ⟨a2, c2, rfl, i2, t2⟩
  have I2 : Hid _ := i2
  have I1' : Hid _ := I1.out.keep t2
  have T2 : Hid (Touch w w2 []) := T1.out.trans t2 (by simp)
  clear i2 t2
  go_wp2_with fail
  refine (C3.out _).out.mono ?_
  rintro e w3 ⟨a3, c3, rfl, i3, t3⟩
  have I3 : Hid _ := i3
  have I13 : Hid _ := I1'.out.keep t3
  have I23 : Hid _ := I2.out.keep t3
  have T3 : Hid (Touch w w3 []) := T2.out.trans t3 (by simp)
  clear i3 t3
  go_wp2_with fail
  refine (C4.out _).out.mono ?_
  rintro e w4 ⟨a4, c4, rfl, i4, t4⟩
  have I4 : Hid _ := i4
  have I14 : Hid _ := I13.out.keep t4
  have I24 : Hid _ := I23.out.keep t4
  have I34 : Hid _ := I3.out.keep t4
  have T4 : Hid (Touch w w4 []) := T3.out.trans t4 (by simp)
  clear i4 t4
  go_wp2_with fail
  refine (llive_any _).mono ?_
  rintro e w5 ⟨rfl, t5⟩
  have I45 : Hid _ := I4.out.keep t5
  have I15 : Hid _ := I14.out.keep t5
  have I25 : Hid _ := I24.out.keep t5
  have I35 : Hid _ := I34.out.keep t5
  have T5 : Hid (Touch w w5 []) := T4.out.trans t5 (by simp)
  clear t5
  go_wp2_with fail
  refine (rsame_eq I15.out I25.out H1.out).mono ?_
  rintro e w6 ⟨rfl, t6⟩
  have I46 : Hid _ := I45.out.keep t6
  have I36 : Hid _ := I35.out.keep t6
  have T6 : Hid (Touch w w6 []) := T5.out.trans t6 (by simp)
  clear t6
  go_wp2_with fail
  refine (rsame_eq I36.out I46.out H2.out).mono ?_
  rintro e w7 ⟨rfl, t7⟩
  have T7 : Hid (Touch w w7 []) := T6.out.trans t7 (by simp)
  clear t7
  go_wp2
  go_ret
  exact ⟨rfl, T7.out⟩

end Go.Proofs.Ytphjaekcfbalkaa
