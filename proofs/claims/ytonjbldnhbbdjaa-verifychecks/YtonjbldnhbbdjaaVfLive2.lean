/-
  package verify: live OF THE LAWS BY ITS CONTRACT.
-/
import Derived.Test.YtonjbldnhbbdjaaVfLive
namespace Go.Proofs.Ytonjbldnhbbdjaa
set_option linter.unusedVariables false
set_option linter.unusedSimpArgs false
open Go.RowKit
attribute [local go_sem] Oper.semAt_some

theorem insv_lit (w : World) (l : List InsD) (hl : l.length ≤ 1000) : InsV (w.alloc (.cells (l.flatMap InsD.cells).toArray 42)) (.slice (some ⟨w.heap.size, 0, none⟩) l.length l.length) l := by
  have hf := flat_len (cells := InsD.cells) (n := 3) (fun _ => rfl) l
  refine srow_of (cells := InsD.cells) (B := w.heap.size) (e := 42) (fun _ => rfl) ⟨hf, .inr ⟨w.heap.size, l.length, (l.flatMap InsD.cells).toArray, rfl, Nat.le_refl _, heap_alloc_new w _, Nat.le_refl _, by unfold maxLen; omega, by simpa using hf, ?_⟩⟩
  rw [← hf, List.take_length]
def L4 : List InsD := [⟨21, 2, 0⟩, ⟨26, 0, 0⟩, ⟨22, 0, 0⟩, ⟨28, 0, 0⟩]
def L2 : List InsD := [⟨4, 0, 0⟩, ⟨28, 0, 0⟩]
theorem chk_l4 : chkV L4 1 = (0, 0) := by decide +kernel
theorem chk_l2 : chkV L2 1 = (0, 8) := by decide +kernel
theorem reg_l4 : ansK (runV true mayV L4 4) = 0 ∧ ansE (runV true mayV L4 4) = 0 ∧ ansI (runV true mayV L4 4) (insV L4 4) = [-1, 0, 0, -1] := by decide +kernel
theorem blk_l4 : blkV L4 4 = [0] := by decide +kernel

set_option maxRecDepth 100000 in
set_option maxHeartbeats 1000000 in
theorem vlive_any (w : World) : Calls Try.prog 10 #[] w fun e w' => e = .returned (.bool true) ∧ Touch w w' [] := by
  have I1 : InsV (w.alloc (.cells #[.int .u8 21, .int .i64 2, .int .u64 0, .int .u8 26, .int .i64 0, .int .u64 0, .int .u8 22, .int .i64 0, .int .u64 0, .int .u8 28, .int .i64 0, .int .u64 0] 42)) (.slice (some ⟨w.heap.size, 0, none⟩) 4 4) L4 := insv_lit w L4 (by decide)
  have hc1 : HidC _ _ _ _ _ := ⟨check_any (N := 4) rfl (by omega) I1 1⟩
  have T1 : Hid (Touch w (w.alloc (.cells #[.int .u8 21, .int .i64 2, .int .u64 0, .int .u8 26, .int .i64 0, .int .u64 0, .int .u8 22, .int .i64 0, .int .u64 0, .int .u8 28, .int .i64 0, .int .u64 0] 42)) []) := (Touch.refl w []).alloc _
  have HI1 : Hid _ := I1
  unfold ChkPost at hc1
  rw [chk_l4] at hc1
  clear I1
  go_enter Try.func10, Try.ntmps10
  go_wp2_with fail
  refine hc1.out.mono ?_
  rintro e w2 ⟨rfl, t2⟩
  have I2 : InsV (w2.alloc (.cells #[.int .u8 4, .int .i64 0, .int .u64 0, .int .u8 28, .int .i64 0, .int .u64 0] 42)) (.slice (some ⟨w2.heap.size, 0, none⟩) 2 2) L2 := insv_lit w2 L2 (by decide)
  have hc2 : HidC _ _ _ _ _ := ⟨check_any (N := 2) rfl (by omega) I2 1⟩
  have T2 : Hid (Touch w (w2.alloc (.cells #[.int .u8 4, .int .i64 0, .int .u64 0, .int .u8 28, .int .i64 0, .int .u64 0] 42)) []) := (T1.out.trans t2 (by simp)).alloc _
  have T12 : Hid (Touch (w.alloc (.cells #[.int .u8 21, .int .i64 2, .int .u64 0, .int .u8 26, .int .i64 0, .int .u64 0, .int .u8 22, .int .i64 0, .int .u64 0, .int .u8 28, .int .i64 0, .int .u64 0] 42)) (w2.alloc (.cells #[.int .u8 4, .int .i64 0, .int .u64 0, .int .u8 28, .int .i64 0, .int .u64 0] 42)) []) := t2.alloc _
  unfold ChkPost at hc2
  rw [chk_l2] at hc2
  clear I2 hc1 t2
  go_wp2_with fail
  refine hc2.out.mono ?_
  rintro e w3 ⟨rfl, t3⟩
  have t13 := T12.out.trans t3 (by simp)
  have hrg : HidC _ _ _ _ _ := ⟨regions_any (N := 4) rfl (by omega) (SRow.keep HI1.out t13 (by simp))⟩
  have T3 : Hid (Touch w w3 []) := T2.out.trans t3 (by simp)
  unfold RegPost at hrg
  rw [show L4.length = 4 from rfl, reg_l4.1, reg_l4.2.1, reg_l4.2.2] at hrg
  have T13 : Hid _ := t13
  clear hc2 t3 t13
  go_wp2_with fail
  refine hrg.out.mono ?_
  rintro e w4 ⟨v, rfl, hrow, t4⟩
  have t14 := T13.out.trans t4 (by simp)
  have hbk : HidC _ _ _ _ _ := ⟨blocks_any (N := 4) rfl (by omega) (SRow.keep HI1.out t14 (by simp))⟩
  rw [show L4.length = 4 from rfl, blk_l4] at hbk
  have T4 : Hid (Touch w w4 []) := T3.out.trans t4 (by simp)
  obtain ⟨gi, ci, rfl⟩ := Go.Joins.ownsRow_form hrow (by simp)
  have hgi := (World.ownsRow.lt hrow gi rfl).2
  have r1 : w4.cell? ⟨gi, 1, none⟩ = some (.int .i64 0) := World.ownsRow.cellAt hrow 1 (by simp)
  have r2 : w4.cell? ⟨gi, 2, none⟩ = some (.int .i64 0) := World.ownsRow.cellAt hrow 2 (by simp)
  have r3 : w4.cell? ⟨gi, 3, none⟩ = some (.int .i64 (-1)) := World.ownsRow.cellAt hrow 3 (by simp)
  clear hrg t4 t14 hrow
  go_wp2_with fail
  refine hbk.out.mono ?_
  rintro e w5 ⟨v5, rfl, hrow5, t5⟩
  obtain ⟨gj, cj, rfl⟩ := Go.Joins.ownsRow_form hrow5 (by simp)
  have s0 : w5.cell? ⟨gj, 0, none⟩ = some (.int .i64 0) := World.ownsRow.cellAt hrow5 0 (by simp)
  have s1 := (t5.cell (p := ⟨gi, 1, none⟩) hgi (by simp)).trans r1
  have s2 := (t5.cell (p := ⟨gi, 2, none⟩) hgi (by simp)).trans r2
  have s3 := (t5.cell (p := ⟨gi, 3, none⟩) hgi (by simp)).trans r3
  have T5 : Hid (Touch w w5 []) := T4.out.trans t5 (by simp)
  clear hbk t5 hrow5 r1 r2 r3
  simp only [List.length_cons, List.length_nil]
  go_wp2
  go_ret
  exact ⟨rfl, T5.out⟩

end Go.Proofs.Ytonjbldnhbbdjaa
