/-
  THE STATEMENTS ON package flows, WALKED: FlowsBarriers, FlowsQueues. Written by mkfl.py.
-/
import Derived.Test.YtaebcigfinjeiaaDoorFlRefs
import Derived.Test.YtaebcigfinjeiaaDoorLkLaws
namespace Go.Proofs.YtaebcigfinjeiaaDoor
set_option linter.unusedVariables false
set_option linter.unusedSimpArgs false
open Go.RowKit
attribute [local go_sem] Oper.semAt_some

set_option maxRecDepth 100000 in
set_option maxHeartbeats 1000000 in
theorem fllive_any {w : World} (hw : Wds w) : Calls Tryd.prog 11 #[] w fun e w' => e = .returned (.bool true) ∧ Touch w w' [] := by
  have hE : leaveE 0 3 1 = 0 := by decide
  have HC : Hid (HidC Tryd.prog 15 #[.int .i64 0, .int .i64 3, .int .i64 1] w (fun e w' => ∃ g off cap, e = .returned (.tuple #[.slice (some ⟨g, off, none⟩) 8 cap, .int .i64 0]) ∧ (w'.cell? ⟨g, off + 6, none⟩ = some (.int .u8 4) ∧ w'.cell? ⟨g, off + 7, none⟩ = some (.int .i64 4) ∧ w'.cell? ⟨g, off + 8, none⟩ = some (.int .u64 0) ∧ w'.cell? ⟨g, off + 21, none⟩ = some (.int .u8 22)) ∧ Touch w w' [])) := by
    refine ⟨(flleave_any hw 0 3 1).mono ?_⟩
    intro e w' h
    rw [hE] at h
    rcases h with ⟨_, ao, cap, rfl, hin, t⟩ | ⟨h, _⟩
    · obtain ⟨g, off, rfl, d0, d1, d2⟩ := ins_at hin.row (Touch.refl w' []) (by simp) 2 (by show 2 < 8; omega)
      obtain ⟨g', off', e', f0, f1, f2⟩ := ins_at hin.row (Touch.refl w' []) (by simp) 7 (by show 7 < 8; omega)
      simp only [Option.some.injEq, Addr.mk.injEq, and_true] at e'
      obtain ⟨rfl, rfl⟩ := e'
      exact ⟨g, off, cap, rfl, ⟨d0, d1, d2, f0⟩, t⟩
    · exact absurd rfl h
  clear hE hw
  go_enter Tryd.func11, Tryd.ntmps11
  go_wp2_with fail
  refine (HC.out).out.mono ?_
  rintro e w1 ⟨g, off, cap, rfl, ⟨d0, d1, d2, d5⟩, t1⟩
  have HT : Hid _ := t1
  clear t1 HC
  go_wp2
  go_ret
  exact ⟨rfl, HT.out⟩

set_option maxRecDepth 100000 in
set_option maxHeartbeats 2000000 in
theorem flbarriers_any {w : World} (hw : Wds w) (a t s : Int) : Calls Tryd.prog 4 #[.int .i64 a, .int .i64 t, .int .i64 s] w fun e w' => e = .returned (.bool true) ∧ Touch w w' [] := by
  have h1 : (lkL (arriveE a t s) (arriveI a t s 0 0)).length ≤ 1000 := lkL_len (by show 19 ≤ 1000; omega)
  have h2 : (lkL (leaveE a t s) (leaveI a t 0 s 0)).length ≤ 1000 := lkL_len (by show 8 ≤ 1000; omega)
  have C1 : Hid (∀ W, Touch w W [] → HidC Tryd.prog 13 #[.int .i64 a, .int .i64 t, .int .i64 s] W (LkQ W (arriveE a t s) (lkL (arriveE a t s) (arriveI a t s 0 0)).length (lkL (arriveE a t s) (arriveI a t s 0 0)))) := fun W tw => ⟨(flarrive_any (hw.touch tw (by simp)) a t s).mono fun _ _ h => h.q⟩
  have C2 : Hid (∀ W, HidC Tryd.prog 14 #[.int .i64 a, .int .i64 t, .int .i64 s] W (LkQ W (arriveE a t s) (lkL (arriveE a t s) (arriveI a t s 0 0)).length (lkL (arriveE a t s) (arriveI a t s 0 0)))) := fun W => ⟨(rarrive_any a t s W).mono fun _ _ h => h.q⟩
  have C3 : Hid (∀ W, Touch w W [] → HidC Tryd.prog 15 #[.int .i64 a, .int .i64 t, .int .i64 s] W (LkQ W (leaveE a t s) (lkL (leaveE a t s) (leaveI a t 0 s 0)).length (lkL (leaveE a t s) (leaveI a t 0 s 0)))) := fun W tw => ⟨(flleave_any (hw.touch tw (by simp)) a t s).mono fun _ _ h => h.q⟩
  have C4 : Hid (∀ W, HidC Tryd.prog 16 #[.int .i64 a, .int .i64 t, .int .i64 s] W (LkQ W (leaveE a t s) (lkL (leaveE a t s) (leaveI a t 0 s 0)).length (lkL (leaveE a t s) (leaveI a t 0 s 0)))) := fun W => ⟨(rleave_any a t s W).mono fun _ _ h => h.q⟩
  have HLV : Hid (∀ W, Touch w W [] → HidC _ _ _ _ _) := fun W tw => ⟨fllive_any (hw.touch tw (by simp))⟩
  have H1 : Hid _ := h1
  have H2 : Hid _ := h2
  clear h1 h2 hw
  generalize lkL (arriveE a t s) (arriveI a t s 0 0) = L1 at *
  generalize lkL (leaveE a t s) (leaveI a t 0 s 0) = L2 at *
  generalize arriveE a t s = E1 at *
  generalize leaveE a t s = E2 at *
  generalize L1.length = n1 at *
  generalize L2.length = n2 at *
  go_enter Tryd.func4, Tryd.ntmps4
  go_wp2_with fail
  refine (C1.out _ (Touch.refl _ _)).out.mono ?_
  rintro e w1 ⟨a1, c1, rfl, i1, t1⟩
  have I1 : Hid _ := i1
  have T1 : Hid _ := t1
  clear i1 t1
  go_wp2_with fail
  refine (C2.out _).out.mono ?_
  rintro e w2 ⟨a2, c2, rfl, i2, t2⟩
  have I2 : Hid _ := i2
  have I1' : Hid _ := I1.out.keep t2
  have T2 : Hid (Touch w w2 []) := T1.out.trans t2 (by simp)
  clear i2 t2
  go_wp2_with fail
  refine (C3.out _ T2.out).out.mono ?_
  rintro e w3 ⟨a3, c3, rfl, i3, t3⟩
  have I3 : Hid _ := i3
  have I13 : Hid _ := I1'.out.keep t3
  have I23 : Hid _ := I2.out.keep t3
  have T3 : Hid (Touch w w3 []) := T2.out.trans t3 (by simp)
  clear i3 t3
  go_wp2_with fail
  refine (C4.out _).out.mono ?_
  rintro e w4 ⟨a4, c4, rfl, i4, t4⟩
  have I4 : Hid _ := i4
  have I14 : Hid _ := I13.out.keep t4
  have I24 : Hid _ := I23.out.keep t4
  have I34 : Hid _ := I3.out.keep t4
  have T4 : Hid (Touch w w4 []) := T3.out.trans t4 (by simp)
  clear i4 t4
  go_wp2_with fail
  refine (HLV.out _ T4.out).out.mono ?_
  rintro e w5 ⟨rfl, t5⟩
  have I45 : Hid _ := I4.out.keep t5
  have I15 : Hid _ := I14.out.keep t5
  have I25 : Hid _ := I24.out.keep t5
  have I35 : Hid _ := I34.out.keep t5
  have T5 : Hid (Touch w w5 []) := T4.out.trans t5 (by simp)
  clear t5
  go_wp2_with fail
  refine (rsame_eq I15.out I25.out H1.out).mono ?_
  rintro e w6 ⟨rfl, t6⟩
  have I46 : Hid _ := I45.out.keep t6
  have I36 : Hid _ := I35.out.keep t6
  have T6 : Hid (Touch w w6 []) := T5.out.trans t6 (by simp)
  clear t6
  go_wp2_with fail
  refine (rsame_eq I36.out I46.out H2.out).mono ?_
  rintro e w7 ⟨rfl, t7⟩
  have T7 : Hid (Touch w w7 []) := T6.out.trans t7 (by simp)
  clear t7
  go_wp2
  go_ret
  exact ⟨rfl, T7.out⟩

set_option maxRecDepth 100000 in
set_option maxHeartbeats 2000000 in
theorem flqueues_any {w : World} (hw : Wds w) (a t s v : Int) (hv : Wf64 v) : Calls Tryd.prog 3 #[.agg #[.int .i64 a, .int .i64 t], .int .i64 s, .int .u64 v] w fun e w' => e = .returned (.bool true) ∧ Touch w w' [] := by
  have h1 : (lkL (enterE a t s v) (enterI a t s 0 v)).length ≤ 1000 := lkL_len (by show 23 ≤ 1000; omega)
  have h2 : (lkL (takeE a t s) (takeI a t s 0 0)).length ≤ 1000 := lkL_len (by show 24 ≤ 1000; omega)
  have C1 : Hid (∀ W, Touch w W [] → HidC Tryd.prog 7 #[.int .i64 a, .int .i64 t, .int .i64 s, .int .u64 v] W (LkQ W (enterE a t s v) (lkL (enterE a t s v) (enterI a t s 0 v)).length (lkL (enterE a t s v) (enterI a t s 0 v)))) := fun W tw => ⟨(flenter_any (hw.touch tw (by simp)) a t s v hv).mono fun _ _ h => h.q⟩
  have C2 : Hid (∀ W, HidC Tryd.prog 8 #[.int .i64 a, .int .i64 t, .int .i64 s, .int .u64 v] W (LkQ W (enterE a t s v) (lkL (enterE a t s v) (enterI a t s 0 v)).length (lkL (enterE a t s v) (enterI a t s 0 v)))) := fun W => ⟨(renter_any a t s v hv W).mono fun _ _ h => h.q⟩
  have C3 : Hid (∀ W, Touch w W [] → HidC Tryd.prog 9 #[.int .i64 a, .int .i64 t, .int .i64 s] W (LkQ W (takeE a t s) (lkL (takeE a t s) (takeI a t s 0 0)).length (lkL (takeE a t s) (takeI a t s 0 0)))) := fun W tw => ⟨(fltake_any (hw.touch tw (by simp)) a t s).mono fun _ _ h => h.q⟩
  have C4 : Hid (∀ W, HidC Tryd.prog 10 #[.int .i64 a, .int .i64 t, .int .i64 s] W (LkQ W (takeE a t s) (lkL (takeE a t s) (takeI a t s 0 0)).length (lkL (takeE a t s) (takeI a t s 0 0)))) := fun W => ⟨(rtake_any a t s W).mono fun _ _ h => h.q⟩
  have HLV : Hid (∀ W, Touch w W [] → HidC _ _ _ _ _) := fun W tw => ⟨fllive_any (hw.touch tw (by simp))⟩
  have HX : Hid (∀ W, Touch (w.alloc (.cells #[.int .i64 a, .int .i64 t] 22)) W [] → W.cell? ⟨w.heap.size, 0, none⟩ = some (.int .i64 a) ∧ W.cell? ⟨w.heap.size, 1, none⟩ = some (.int .i64 t)) := fun W tw => by
    have h := (tw.block w.heap.size (by simp) (by simp)).trans (heap_alloc_new w _)
    unfold World.cell?
    rw [h]
    exact ⟨rfl, rfl⟩
  have T0 : Hid (Touch w (w.alloc (.cells #[.int .i64 a, .int .i64 t] 22)) []) := (Touch.refl w []).alloc _
  have H1 : Hid _ := h1
  have H2 : Hid _ := h2
  clear h1 h2 hw
  generalize lkL (enterE a t s v) (enterI a t s 0 v) = L1 at *
  generalize lkL (takeE a t s) (takeI a t s 0 0) = L2 at *
  generalize enterE a t s v = E1 at *
  generalize takeE a t s = E2 at *
  generalize L1.length = n1 at *
  generalize L2.length = n2 at *
  go_enter Tryd.func3, Tryd.ntmps3
  go_wp2_with fail
  generalize (w.alloc (.cells #[.int .i64 a, .int .i64 t] 22)) = Q0 at *
  refine (C1.out _ T0.out).out.mono ?_
  rintro e w1 ⟨a1, c1, rfl, i1, t1⟩
  have I1 : Hid _ := i1
  have T1 : Hid (Touch w w1 []) := T0.out.trans t1 (by simp)
  have U1 : Hid (Touch Q0 w1 []) := t1
  obtain ⟨x0, x1⟩ := HX.out _ t1
  clear i1 t1
  go_wp2_with fail
  refine (C2.out _).out.mono ?_
  rintro e w2 ⟨a2, c2, rfl, i2, t2⟩
  have I2 : Hid _ := i2
  have I1' : Hid _ := I1.out.keep t2
  have T2 : Hid (Touch w w2 []) := T1.out.trans t2 (by simp)
  have U2 : Hid (Touch Q0 w2 []) := U1.out.trans t2 (by simp)
  clear x0 x1
  obtain ⟨x0, x1⟩ := HX.out _ U2.out
  clear i2 t2
  go_wp2_with fail
  refine (C3.out _ T2.out).out.mono ?_
  rintro e w3 ⟨a3, c3, rfl, i3, t3⟩
  have I3 : Hid _ := i3
  have I13 : Hid _ := I1'.out.keep t3
  have I23 : Hid _ := I2.out.keep t3
  have T3 : Hid (Touch w w3 []) := T2.out.trans t3 (by simp)
  have U3 : Hid (Touch Q0 w3 []) := U2.out.trans t3 (by simp)
  clear x0 x1
  obtain ⟨x0, x1⟩ := HX.out _ U3.out
  clear i3 t3
  go_wp2_with fail
  refine (C4.out _).out.mono ?_
  rintro e w4 ⟨a4, c4, rfl, i4, t4⟩
  have I4 : Hid _ := i4
  have I14 : Hid _ := I13.out.keep t4
  have I24 : Hid _ := I23.out.keep t4
  have I34 : Hid _ := I3.out.keep t4
  have T4 : Hid (Touch w w4 []) := T3.out.trans t4 (by simp)
  clear x0 x1 i4 t4
  go_wp2_with fail
  refine (HLV.out _ T4.out).out.mono ?_
  rintro e w5 ⟨rfl, t5⟩
  have I45 : Hid _ := I4.out.keep t5
  have I15 : Hid _ := I14.out.keep t5
  have I25 : Hid _ := I24.out.keep t5
  have I35 : Hid _ := I34.out.keep t5
  have T5 : Hid (Touch w w5 []) := T4.out.trans t5 (by simp)
  clear t5
  go_wp2_with fail
  refine (rsame_eq I15.out I25.out H1.out).mono ?_
  rintro e w6 ⟨rfl, t6⟩
  have I46 : Hid _ := I45.out.keep t6
  have I36 : Hid _ := I35.out.keep t6
  have T6 : Hid (Touch w w6 []) := T5.out.trans t6 (by simp)
  clear t6
  go_wp2_with fail
  refine (rsame_eq I36.out I46.out H2.out).mono ?_
  rintro e w7 ⟨rfl, t7⟩
  have T7 : Hid (Touch w w7 []) := T6.out.trans t7 (by simp)
  clear t7
  go_wp2
  go_ret
  exact ⟨rfl, T7.out⟩


end Go.Proofs.YtaebcigfinjeiaaDoor
