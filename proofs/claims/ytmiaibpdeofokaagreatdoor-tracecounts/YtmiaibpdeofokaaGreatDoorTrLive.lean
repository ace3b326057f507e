/-
  package trace: live.
-/
import Derived.Test.YtmiaibpdeofokaaGreatDoorTrChain
import Derived.Test.YtmiaibpdeofokaaGreatDoorTrPrint
import Derived.Test.YtmiaibpdeofokaaGreatDoorTrCount
namespace Go.Proofs.YtmiaibpdeofokaaGreatDoor
set_option linter.unusedVariables false
set_option linter.unusedSimpArgs false
open Go.RowKit Go.Maps
attribute [local go_sem] Oper.semAt_some

def lvT : List EvD := [⟨1, 0, 0, 0⟩, ⟨2, 0, 1, 0⟩, ⟨3, 0, 1, 4607182418800017408⟩]
def lvS : ByteArray := ⟨#[98, 101, 103, 105, 110, 32, 48, 10, 114, 101, 97, 100, 32, 48, 32, 49, 32, 48, 48, 48, 48, 48, 48, 48, 48, 48, 48, 48, 48, 48, 48, 48, 48, 10, 119, 114, 105, 116, 101, 32, 48, 32, 49, 32, 51, 102, 102, 48, 48, 48, 48, 48, 48, 48, 48, 48, 48, 48, 48, 48, 10]⟩
theorem lvT_wf : ∀ e ∈ lvT, e.Wf := by
  intro e he
  simp [lvT] at he
  rcases he with rfl | rfl | rfl <;> exact ⟨by decide, by decide, by decide, by unfold Wf64; decide⟩
theorem lvT_right : rightS lvT = true := by kernel_rfl
theorem lvT_print : prtV lvT = .tuple #[.string lvS, .int .i64 0] := by
  unfold prtV
  rw [lvT_right]
  have h : printT lvT = lvS := by kernel_rfl
  rw [h]
  rfl
theorem lvT_counts : cntV lvT = cntA 1 0 0 1 1 1 := by kernel_rfl
theorem lvT_busy : busyS lvT = (1, true) := by kernel_rfl
theorem lvT_chain : chainS lvT = 1 := by kernel_rfl
theorem lvT_row (w : World) : EvRow (w.alloc (.cells (lvT.flatMap EvD.cells).toArray 50)) (.slice (some ⟨w.heap.size, 0, none⟩) lvT.length 3) lvT := by
  refine ⟨some ⟨w.heap.size, 0, none⟩, 3, rfl, fun _ => ⟨w.heap.size, 0, rfl, by simp, fun k hk j hj => ?_⟩⟩
  have h2 := flat_at (cells := EvD.cells) (n := 4) (fun _ => rfl) lvT k hk j hj
  rw [← h2]
  unfold World.cell?
  rw [heap_alloc_new]
  simp

set_option maxRecDepth 100000 in
set_option maxHeartbeats 2000000 in
theorem trlive_any (w : World) (hw : Wdt w) (hz : Tz w) : Calls Tryz.prog 11 #[] w fun e w' => e = .returned (.bool true) ∧ Touch w w' [] := by
  have hrow := lvT_row w
  have t0 : Touch w (w.alloc (.cells (lvT.flatMap EvD.cells).toArray 50)) [] := (Touch.refl w []).alloc _
  have HPR : Hid (∀ W, Touch (w.alloc (.cells (lvT.flatMap EvD.cells).toArray 50)) W [] → HidC Tryz.prog 6 #[.slice (some ⟨w.heap.size, 0, none⟩) 3 3] W fun e w' => e = .returned (.tuple #[.string lvS, .int .i64 0]) ∧ Touch W w' []) := fun W t => ⟨by rw [← lvT_print]; exact tprint_any (hw.touch (t0.trans t (by simp)) (by simp)) (hz.touch (t0.trans t (by simp))) (SRow.keep hrow t (by simp)) (by decide) lvT_wf⟩
  have HCO : Hid (∀ W, Touch (w.alloc (.cells (lvT.flatMap EvD.cells).toArray 50)) W [] → HidC Tryz.prog 17 #[.slice (some ⟨w.heap.size, 0, none⟩) 3 3] W fun e w' => e = .returned (.agg (cntA 1 0 0 1 1 1)) ∧ Touch W w' []) := fun W t => ⟨by rw [← lvT_counts]; exact counts_any (SRow.keep hrow t (by simp)) (by decide) lvT_wf⟩
  have HBU : Hid (∀ W, Touch (w.alloc (.cells (lvT.flatMap EvD.cells).toArray 50)) W [] → HidC Tryz.prog 13 #[.slice (some ⟨w.heap.size, 0, none⟩) 3 3] W fun e w' => e = .returned (.tuple #[.int .i64 1, .bool true]) ∧ Touch W w' []) := fun W t => ⟨by have h := busiest_any (l := lvT) (SRow.keep hrow t (by simp)) (by decide); rw [lvT_busy] at h; exact h⟩
  have HCH : Hid (∀ W, Touch (w.alloc (.cells (lvT.flatMap EvD.cells).toArray 50)) W [] → HidC Tryz.prog 19 #[.slice (some ⟨w.heap.size, 0, none⟩) 3 3] W fun e w' => e = .returned (.int .i64 1) ∧ Touch W w' []) := fun W t => ⟨by have h := chains_any (l := lvT) (SRow.keep hrow t (by simp)) (by decide) lvT_wf; rw [lvT_chain] at h; exact h⟩
  have T0 : Hid _ := t0
  have e0 : (lvT.flatMap EvD.cells).toArray = #[.int .u8 1, .int .i64 0, .int .i64 0, .int .u64 0, .int .u8 2, .int .i64 0, .int .i64 1, .int .u64 0, .int .u8 3, .int .i64 0, .int .i64 1, .int .u64 4607182418800017408] := rfl
  rw [e0] at HPR HCO HBU HCH T0
  clear hrow t0 e0 hw hz
  go_enter Tryz.func11, Tryz.ntmps11
  go_wp2_with fail
  generalize (w.alloc (.cells #[.int .u8 1, .int .i64 0, .int .i64 0, .int .u64 0, .int .u8 2, .int .i64 0, .int .i64 1, .int .u64 0, .int .u8 3, .int .i64 0, .int .i64 1, .int .u64 4607182418800017408] 50)) = Q at *
  refine (HPR.out _ (Touch.refl _ _)).out.mono ?_
  rintro e w1 ⟨rfl, t1⟩
  have T1 : Hid (Touch Q w1 []) := t1
  clear t1 HPR
  go_wp2_with fail
  refine (HCO.out _ T1.out).out.mono ?_
  rintro e w2 ⟨rfl, t2⟩
  have T2 : Hid (Touch Q (w2.alloc (.cells (cntA 1 0 0 1 1 1) 38)) []) := (T1.out.trans t2 (by simp)).alloc _
  have C2 : Hid (CntB (w2.alloc (.cells (cntA 1 0 0 1 1 1) 38)) w2.heap.size 1 0 0 1 1 1) := ⟨heap_alloc_new w2 _⟩
  clear t2 T1 HCO
  unfold cntA at T2 C2
  go_wp2_with fail
  generalize (w2.alloc (.cells #[.int .i64 1, .int .i64 0, .int .i64 0, .int .i64 1, .int .i64 1, .int .i64 1] 38)) = Q2 at *
  generalize w2.heap.size = c at *
  refine (HBU.out _ T2.out).out.mono ?_
  rintro e w3 ⟨rfl, t3⟩
  have T3 : Hid (Touch Q w3 []) := T2.out.trans t3 (by simp)
  have C3 := C2.out.touch t3 (by simp)
  obtain ⟨c0, c1, c2, c3, c4, c5⟩ := C3.cells
  clear t3 T2 HBU C2 C3
  unfold lvS
  go_wp2_with fail
  refine (HCH.out _ T3.out).out.mono ?_
  rintro e w4 ⟨rfl, t4⟩
  have T4 : Hid (Touch w w4 []) := (T0.out.trans T3.out (by simp)).trans t4 (by simp)
  clear t4 T3 HCH c0 c1 c2 c3 c4 c5
  go_wp2
  go_ret
  exact ⟨rfl, T4.out⟩

end Go.Proofs.YtmiaibpdeofokaaGreatDoor
