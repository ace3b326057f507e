/-
  package code: said BY ITS CONTRACT, OF AN OPERATION THAT HAS AN Arg.
-/
import Derived.Test.YtminiabpeodjaaaDoorCdRead
import Derived.Test.YtminiabpeodjaaaDoorCdNum
namespace Go.Proofs.YtminiabpeodjaaaDoor
set_option linter.unusedVariables false
set_option linter.unusedSimpArgs false
open Go.RowKit
attribute [local go_sem] Oper.semAt_some

theorem arg_not_val {o : Int} (h : argP o = true) : valP o = false := by
  have : o = 2 ∨ o = 3 ∨ o = 4 ∨ o = 5 ∨ o = 6 ∨ o = 7 ∨ o = 19 ∨ o = 20 ∨ o = 21 ∨ o = 23 ∨ o = 24 := by simpa [argP] using h
  simp [valP]; omega

set_option maxRecDepth 100000 in
set_option maxHeartbeats 1000000 in
theorem said_arg {w : World} (h : Wds w) (wd rest : ByteArray) (hw : wd.size ≤ maxLen) (hr : rest.size ≤ 100000) (o : Int) (hrd : byK 29 wd.data.toList = some (.int .u8 o)) (ha : argP o = true) :
    Calls Tryd.prog 43 #[.string wd, .string rest, .bool true] w fun e w' => e = .returned (.tuple #[.agg #[.int .u8 o, .int .i64 (numN rest), .int .u64 0], .bool (numOk rest)]) ∧ Touch w w' [] := by
  have hv := arg_not_val ha
  obtain ⟨a, hA⟩ : ∃ a, a = numN rest := ⟨_, rfl⟩
  obtain ⟨ok, hO⟩ : ∃ ok, ok = numOk rest := ⟨_, rfl⟩
  rw [← hA, ← hO]
  have HA : Hid _ := hA
  have HO : Hid _ := hO
  clear hA hO
  have tA : Touch w (w.alloc (.cells #[.int .u8 0, .int .i64 0, .int .u64 0] 26)) [] := (Touch.refl w []).alloc _
  have eA : (w.alloc (.cells #[.int .u8 0, .int .i64 0, .int .u64 0] 26)).heap[w.heap.size]? = some (.cells #[.int .u8 0, .int .i64 0, .int .u64 0] 26 (0, 0)) := heap_alloc_new w _
  have hrw : HidC _ _ _ _ _ := ⟨readWord_any (h.touch tA (by simp)) wd hw⟩
  rw [hrd] at hrw
  simp only [Option.getD_some, Option.isSome_some] at hrw
  have HTA : Hid _ := tA
  have HEA : Hid _ := eA
  clear h hrd tA eA
  go_enter Tryd.func43, Tryd.ntmps43
  go_wp2_with fail
  refine hrw.out.mono ?_
  rintro e w1 ⟨rfl, t1⟩
  have e1 : w1.heap[w.heap.size]? = some (.cells #[.int .u8 0, .int .i64 0, .int .u64 0] 26 (0, 0)) := (t1.block w.heap.size (by simp) (by simp)).trans HEA.out
  have c10 : w1.cell? ⟨w.heap.size, 0, none⟩ = some (.int .u8 0) := by unfold World.cell?; rw [e1]; rfl
  have f10 : w1.frozen? ⟨w.heap.size, 0, none⟩ = false := by simp [World.frozen?, e1]
  have e2 : (w1.setCell ⟨w.heap.size, 0, none⟩ (.int .u8 o)).heap[w.heap.size]? = some (.cells #[.int .u8 o, .int .i64 0, .int .u64 0] 26 (0, 0)) := by rw [heap_setCell_same _ _ _ _ _ _ e1]; rfl
  have HT2 : Hid (Touch w (w1.setCell ⟨w.heap.size, 0, none⟩ (.int .u8 o)) []) := (HTA.out.trans t1 (by simp)).setCell (.inr (Nat.le_refl _)) _
  have hus : HidC _ _ _ _ _ := ⟨uses_any o (w1.setCell ⟨w.heap.size, 0, none⟩ (.int .u8 o))⟩
  rw [ha, hv] at hus
  have hnu : HidC _ _ _ _ _ := ⟨number_any rest hr (w1.setCell ⟨w.heap.size, 0, none⟩ (.int .u8 o))⟩
  rw [← HA.out, ← HO.out] at hnu
  have HE2 : Hid _ := e2
  clear hrw t1 e1 e2
  go_wp2_with fail
  refine hus.out.mono ?_
  rintro e w3 ⟨rfl, rfl⟩
  clear hus
  go_wp2_with fail
  refine hnu.out.mono ?_
  rintro e w4 ⟨rfl, t4⟩
  have e4 : w4.heap[w.heap.size]? = some (.cells #[.int .u8 o, .int .i64 0, .int .u64 0] 26 (0, 0)) := (t4.block w.heap.size (lt_of_heap HE2.out) (by simp)).trans HE2.out
  have d0 : w4.cell? ⟨w.heap.size, 0, none⟩ = some (.int .u8 o) := by unfold World.cell?; rw [e4]; rfl
  have d1 : w4.cell? ⟨w.heap.size, 1, none⟩ = some (.int .i64 0) := by unfold World.cell?; rw [e4]; rfl
  have d2 : w4.cell? ⟨w.heap.size, 2, none⟩ = some (.int .u64 0) := by unfold World.cell?; rw [e4]; rfl
  have g0 : w4.frozen? ⟨w.heap.size, 0, none⟩ = false := by simp [World.frozen?, e4]
  have g1 : w4.frozen? ⟨w.heap.size, 1, none⟩ = false := by simp [World.frozen?, e4]
  have g2 : w4.frozen? ⟨w.heap.size, 2, none⟩ = false := by simp [World.frozen?, e4]
  have T4 : Hid (Touch w w4 []) := HT2.out.trans t4 (by simp)
  clear hnu t4 c10 f10
  have eF : ((((w4.setCell ⟨w.heap.size, 1, none⟩ (.int .i64 a)).setCell ⟨w.heap.size, 0, none⟩ (.int .u8 o)).setCell ⟨w.heap.size, 1, none⟩ (.int .i64 a)).setCell ⟨w.heap.size, 2, none⟩ (.int .u64 0)).heap[w.heap.size]? = some (.cells #[.int .u8 o, .int .i64 a, .int .u64 0] 26 (0, 0)) := by
    rw [heap_setCell_same _ _ _ _ _ _ (heap_setCell_same _ _ _ _ _ _ (heap_setCell_same _ _ _ _ _ _ (heap_setCell_same _ _ _ _ _ _ e4)))]; rfl
  have k0 : ((((w4.setCell ⟨w.heap.size, 1, none⟩ (.int .i64 a)).setCell ⟨w.heap.size, 0, none⟩ (.int .u8 o)).setCell ⟨w.heap.size, 1, none⟩ (.int .i64 a)).setCell ⟨w.heap.size, 2, none⟩ (.int .u64 0)).cell? ⟨w.heap.size, 0, none⟩ = some (.int .u8 o) := by unfold World.cell?; rw [eF]; rfl
  have k1 : ((((w4.setCell ⟨w.heap.size, 1, none⟩ (.int .i64 a)).setCell ⟨w.heap.size, 0, none⟩ (.int .u8 o)).setCell ⟨w.heap.size, 1, none⟩ (.int .i64 a)).setCell ⟨w.heap.size, 2, none⟩ (.int .u64 0)).cell? ⟨w.heap.size, 1, none⟩ = some (.int .i64 a) := by unfold World.cell?; rw [eF]; rfl
  have k2 : ((((w4.setCell ⟨w.heap.size, 1, none⟩ (.int .i64 a)).setCell ⟨w.heap.size, 0, none⟩ (.int .u8 o)).setCell ⟨w.heap.size, 1, none⟩ (.int .i64 a)).setCell ⟨w.heap.size, 2, none⟩ (.int .u64 0)).cell? ⟨w.heap.size, 2, none⟩ = some (.int .u64 0) := by unfold World.cell?; rw [eF]; rfl
  clear eF e4
  go_wp2
  refine bodyPost_ret (v := .tuple #[.agg #[.int .u8 o, .int .i64 a, .int .u64 0], .bool ok]) (by simp [results, Tryd.results43, go_sem, k0, k1, k2]) rfl ?_
  refine ⟨rfl, ?_⟩
  repeat (first | exact T4.out | refine Touch.setCell ?_ (.inr (Nat.le_refl _)) _)

end Go.Proofs.YtminiabpeodjaaaDoor
