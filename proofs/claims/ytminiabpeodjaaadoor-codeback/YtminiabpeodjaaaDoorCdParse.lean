/-
  package code: Parse BY ITS CONTRACT, OF A RIGHT INSTRUCTION THAT HAS AN Arg.
-/
import Derived.Test.YtminiabpeodjaaaDoorCdSaid
import Derived.Test.YtminiabpeodjaaaDoorCdCut
import Derived.Test.YtminiabpeodjaaaDoorAllA
namespace Go.Proofs.YtminiabpeodjaaaDoor
set_option linter.unusedVariables false
set_option linter.unusedSimpArgs false
open Go.RowKit
attribute [local go_sem] Oper.semAt_some

set_option maxRecDepth 100000 in
set_option maxHeartbeats 1000000 in
theorem parse_arg {w : World} (h : Wds w) (s : ByteArray) (hs : s.size ≤ 100000) (o : Int) (hb : (blankAt s).isSome = true) (hw : (cutW s).size ≤ maxLen) (hr : (cutR s).size ≤ 100000) (hrd : byK 29 (cutW s).data.toList = some (.int .u8 o)) (ha : argP o = true) (hok : numOk (cutR s) = true) (hri : rightI ⟨o, numN (cutR s), 0⟩ = true) :
    Calls Tryd.prog 29 #[.string s] w fun e w' => e = .returned (.tuple #[.agg #[.int .u8 o, .int .i64 (numN (cutR s)), .int .u64 0], .int .i64 0]) ∧ Touch w w' [] := by
  obtain ⟨a, hA⟩ : ∃ a, a = numN (cutR s) := ⟨_, rfl⟩
  rw [← hA] at hri ⊢
  have tA : Touch w (w.alloc (.cells #[.int .u8 0, .int .i64 0, .int .u64 0] 26)) [] := (Touch.refl w []).alloc _
  have eA : (w.alloc (.cells #[.int .u8 0, .int .i64 0, .int .u64 0] 26)).heap[w.heap.size]? = some (.cells #[.int .u8 0, .int .i64 0, .int .u64 0] 26 (0, 0)) := heap_alloc_new w _
  have hct : HidC _ _ _ _ _ := ⟨cut_any s hs (w.alloc (.cells #[.int .u8 0, .int .i64 0, .int .u64 0] 26))⟩
  rw [hb] at hct
  have HSD : Hid (∀ W, Touch w W [] → HidC Tryd.prog 43 #[.string (cutW s), .string (cutR s), .bool true] W (fun e w' => e = .returned (.tuple #[.agg #[.int .u8 o, .int .i64 a, .int .u64 0], .bool true]) ∧ Touch W w' [])) := fun W t => ⟨by
    have q := said_arg (h.touch t (by simp)) (cutW s) (cutR s) hw hr o hrd ha
    rw [hok, ← hA] at q
    exact q⟩
  have HRI : Hid (∀ W, HidC Tryd.prog 17 #[.agg #[.int .u8 o, .int .i64 a, .int .u64 0]] W (fun e w' => e = .returned (.bool true) ∧ Touch W w' [])) := fun W => ⟨by
    have q := cright_any ⟨o, a, 0⟩ W
    rw [hri] at q
    exact q⟩
  have HTA : Hid _ := tA
  have HEA : Hid _ := eA
  clear h hrd hok hri hA hb hw hr tA eA
  generalize cutW s = cw at *
  generalize cutR s = cr at *
  go_enter Tryd.func29, Tryd.ntmps29
  go_wp2_with fail
  refine hct.out.mono ?_
  rintro e w1 ⟨rfl, t1⟩
  have hT1 : Touch w w1 [] := HTA.out.trans t1 (by simp)
  have e1 : w1.heap[w.heap.size]? = some (.cells #[.int .u8 0, .int .i64 0, .int .u64 0] 26 (0, 0)) := (t1.block w.heap.size (by simp) (by simp)).trans HEA.out
  have hsd := HSD.out w1 hT1
  have T1 : Hid _ := hT1
  have E1 : Hid _ := e1
  clear hct HSD t1 hT1 e1
  go_wp2_with fail
  refine hsd.out.mono ?_
  rintro e w2 ⟨rfl, t2⟩
  have hlt1 : w.heap.size < w1.heap.size := lt_of_heap E1.out
  have e2 : w2.heap[w.heap.size]? = some (.cells #[.int .u8 0, .int .i64 0, .int .u64 0] 26 (0, 0)) := (t2.block w.heap.size hlt1 (by simp)).trans E1.out
  have tB : Touch w2 (w2.alloc (.cells #[.int .u8 o, .int .i64 a, .int .u64 0] 26)) [] := (Touch.refl w2 []).alloc _
  have eB : (w2.alloc (.cells #[.int .u8 o, .int .i64 a, .int .u64 0] 26)).heap[w2.heap.size]? = some (.cells #[.int .u8 o, .int .i64 a, .int .u64 0] 26 (0, 0)) := heap_alloc_new w2 _
  have hri := HRI.out (w2.alloc (.cells #[.int .u8 o, .int .i64 a, .int .u64 0] 26))
  have T2 : Hid (Touch w (w2.alloc (.cells #[.int .u8 o, .int .i64 a, .int .u64 0] 26)) []) := (T1.out.trans t2 (by simp)).trans tB (by simp)
  have E2 : Hid ((w2.alloc (.cells #[.int .u8 o, .int .i64 a, .int .u64 0] 26)).heap[w.heap.size]? = some (.cells #[.int .u8 0, .int .i64 0, .int .u64 0] 26 (0, 0))) := (tB.block w.heap.size (lt_of_heap e2) (by simp)).trans e2
  have b0 : (w2.alloc (.cells #[.int .u8 o, .int .i64 a, .int .u64 0] 26)).cell? ⟨w2.heap.size, 0, none⟩ = some (.int .u8 o) := by unfold World.cell?; rw [eB]; rfl
  have b1 : (w2.alloc (.cells #[.int .u8 o, .int .i64 a, .int .u64 0] 26)).cell? ⟨w2.heap.size, 1, none⟩ = some (.int .i64 a) := by unfold World.cell?; rw [eB]; rfl
  have b2 : (w2.alloc (.cells #[.int .u8 o, .int .i64 a, .int .u64 0] 26)).cell? ⟨w2.heap.size, 2, none⟩ = some (.int .u64 0) := by unfold World.cell?; rw [eB]; rfl
  have EB : Hid _ := eB
  have hne : w2.heap.size ≠ w.heap.size := by have := t2.size; omega
  clear hsd t2 e2 tB eB HRI
  go_wp2_with fail
  refine hri.out.mono ?_
  rintro e w3 ⟨rfl, t3⟩
  have eq : w3.heap[w2.heap.size]? = some (.cells #[.int .u8 o, .int .i64 a, .int .u64 0] 26 (0, 0)) := (t3.block _ (lt_of_heap EB.out) (by simp)).trans EB.out
  have ew : w3.heap[w.heap.size]? = some (.cells #[.int .u8 0, .int .i64 0, .int .u64 0] 26 (0, 0)) := (t3.block _ (lt_of_heap E2.out) (by simp)).trans E2.out
  have T3 : Hid (Touch w w3 []) := T2.out.trans t3 (by simp)
  have p0 : w3.cell? ⟨w2.heap.size, 0, none⟩ = some (.int .u8 o) := by unfold World.cell?; rw [eq]; rfl
  have p1 : w3.cell? ⟨w2.heap.size, 1, none⟩ = some (.int .i64 a) := by unfold World.cell?; rw [eq]; rfl
  have p2 : w3.cell? ⟨w2.heap.size, 2, none⟩ = some (.int .u64 0) := by unfold World.cell?; rw [eq]; rfl
  have r0 : w3.cell? ⟨w.heap.size, 0, none⟩ = some (.int .u8 0) := by unfold World.cell?; rw [ew]; rfl
  have r1 : w3.cell? ⟨w.heap.size, 1, none⟩ = some (.int .i64 0) := by unfold World.cell?; rw [ew]; rfl
  have r2 : w3.cell? ⟨w.heap.size, 2, none⟩ = some (.int .u64 0) := by unfold World.cell?; rw [ew]; rfl
  have g0 : w3.frozen? ⟨w.heap.size, 0, none⟩ = false := by simp [World.frozen?, ew]
  have g1 : w3.frozen? ⟨w.heap.size, 1, none⟩ = false := by simp [World.frozen?, ew]
  have g2 : w3.frozen? ⟨w.heap.size, 2, none⟩ = false := by simp [World.frozen?, ew]
  have eF : (((w3.setCell ⟨w.heap.size, 0, none⟩ (.int .u8 o)).setCell ⟨w.heap.size, 1, none⟩ (.int .i64 a)).setCell ⟨w.heap.size, 2, none⟩ (.int .u64 0)).heap[w.heap.size]? = some (.cells #[.int .u8 o, .int .i64 a, .int .u64 0] 26 (0, 0)) := by
    rw [heap_setCell_same _ _ _ _ _ _ (heap_setCell_same _ _ _ _ _ _ (heap_setCell_same _ _ _ _ _ _ ew))]; rfl
  have k0 : (((w3.setCell ⟨w.heap.size, 0, none⟩ (.int .u8 o)).setCell ⟨w.heap.size, 1, none⟩ (.int .i64 a)).setCell ⟨w.heap.size, 2, none⟩ (.int .u64 0)).cell? ⟨w.heap.size, 0, none⟩ = some (.int .u8 o) := by unfold World.cell?; rw [eF]; rfl
  have k1 : (((w3.setCell ⟨w.heap.size, 0, none⟩ (.int .u8 o)).setCell ⟨w.heap.size, 1, none⟩ (.int .i64 a)).setCell ⟨w.heap.size, 2, none⟩ (.int .u64 0)).cell? ⟨w.heap.size, 1, none⟩ = some (.int .i64 a) := by unfold World.cell?; rw [eF]; rfl
  have k2 : (((w3.setCell ⟨w.heap.size, 0, none⟩ (.int .u8 o)).setCell ⟨w.heap.size, 1, none⟩ (.int .i64 a)).setCell ⟨w.heap.size, 2, none⟩ (.int .u64 0)).cell? ⟨w.heap.size, 2, none⟩ = some (.int .u64 0) := by unfold World.cell?; rw [eF]; rfl
  clear hri t3 eq ew eF b0 b1 b2 hne hlt1
  go_wp2
  refine bodyPost_ret (v := .tuple #[.agg #[.int .u8 o, .int .i64 a, .int .u64 0], .int .i64 0]) (by simp [results, Tryd.results29, go_sem, k0, k1, k2]) rfl ?_
  refine ⟨rfl, ?_⟩
  repeat (first | exact T3.out | refine Touch.setCell ?_ (.inr (Nat.le_refl _)) _)

end Go.Proofs.YtminiabpeodjaaaDoor
