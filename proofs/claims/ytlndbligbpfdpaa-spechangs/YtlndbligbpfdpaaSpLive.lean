/-
  package spec: what its statements ask of any input (live), WALKED.
-/
import Derived.Test.YtlndbligbpfdpaaSpRun
namespace Go.Proofs.Ytlndbligbpfdpaa
set_option linter.unusedVariables false
set_option linter.unusedSimpArgs false
open Go.RowKit
attribute [local go_sem] Oper.semAt_some

def liveL : List InsD := [⟨21, 5, 0⟩, ⟨23, 3, 0⟩, ⟨26, 0, 0⟩, ⟨24, 4, 0⟩, ⟨25, 0, 0⟩, ⟨22, 0, 0⟩, ⟨28, 0, 0⟩]
theorem live_out : (outX liveL zWD [0] 50).1 = 0 ∧ (outX liveL zWD [0] 50).2.arms = [false] ∧ (outX liveL zWD [0] 50).2.D.pc = 6 ∧ (outX liveL zWD [0] 50).2.D.st = [] ∧ (outX liveL zWD [0] 50).2.D.out = [] ∧ (outX liveL zWD [0] 50).2.h = [0] := by decide +kernel
theorem live_at : opAtW liveL 0 = 21 ∧ opAtW liveL 6 = 28 := by decide +kernel
theorem liveL_wf : ∀ i ∈ liveL, i.Wf := by
  simp only [liveL, List.forall_mem_cons]
  refine ⟨?_, ?_, ?_, ?_, ?_, ?_, ?_, fun _ h => (by cases h)⟩ <;> constructor <;> (try unfold Wf64) <;> decide
theorem slit {w : World} (l : List InsD) (hl : l.length ≤ 1000) : InsRow (w.alloc (.cells (l.flatMap InsD.cells).toArray 48)) (.slice (some ⟨w.heap.size, 0, none⟩) l.length l.length) l := by
  have hc : (l.flatMap InsD.cells).length = l.length * 3 := flat_len (cells := InsD.cells) (fun _ => rfl) l
  exact srow_of (cells := InsD.cells) (n := 3) (fun _ => rfl) (B := w.heap.size) (e := 48) ⟨hc, .inr ⟨w.heap.size, l.length, (l.flatMap InsD.cells).toArray, rfl, Nat.le_refl _, heap_alloc_new w _, Nat.le_refl _, by unfold maxLen; omega, by simpa using hc, by first | exact List.take_of_length_le (by simp only [List.toList_toArray]; omega) | (simp only [List.toList_toArray]; exact (List.take_of_length_le (by omega)).symm) | (simp only [List.toList_toArray]; rw [List.take_of_length_le (by omega)])⟩⟩
theorem vlit {w : World} (l : List Int) (hl : l.length ≤ 1000) : VRow (w.alloc (.cells (l.map (Value.int .u64)).toArray 25)) (.slice (some ⟨w.heap.size, 0, none⟩) l.length l.length) l := by
  refine vrow_of (B := w.heap.size) ⟨by simp, .inr ⟨w.heap.size, l.length, (l.map (Value.int .u64)).toArray, rfl, Nat.le_refl _, heap_alloc_new w _, Nat.le_refl _, by unfold maxLen; omega, by simp, ?_⟩⟩
  first | exact List.take_of_length_le (by simp) | (simp)
theorem brow1 {w : World} {a : Option Addr} {c : Nat} {x : Bool} (h : SRow 1 bcell w (.slice a 1 c) [x]) : ∃ g off, a = some ⟨g, off, none⟩ ∧ w.cell? ⟨g, off, none⟩ = some (.bool x) := by
  obtain ⟨g, off, e, _, hc⟩ := SRow.at (l := [x]) h 0 (by simp)
  refine ⟨g, off, e, ?_⟩
  have := hc 0 (by simp)
  simpa using this
theorem swf0 : SWf zWD [0] := ⟨by simp, by simp, by simp, fun x hx => (by cases hx), fun x hx => (by simp at hx; subst hx; exact wf_zero), wf_zero, wf_zero, wf_zero, wf_zero⟩

theorem live_block {w W : World} (hl : InsRow W (.slice (some ⟨w.heap.size, 0, none⟩) 7 7) liveL) (ah : Option Addr) (ch : Nat) (hh : VRow W (.slice ah 1 ch) [0]) :
    Calls Try.prog 15 #[.slice (some ⟨w.heap.size, 0, none⟩) 7 7, stV zWD (.slice none 0 0) (.slice none 0 0), .slice ah 1 ch, .int .i64 50] W (fun e w' => ∃ D sa ns sc oa no oc ha nh hc g q ac, e = .returned (.agg (outA 1 D (.slice sa ns sc) (.slice oa no oc) (.slice ha nh hc) (.slice (some ⟨g, q, none⟩) 1 ac) 0)) ∧ D.pc = 6 ∧ w'.cell? ⟨g, q, none⟩ = some (.bool false) ∧ Touch W w' []) := by
  obtain ⟨f1, f2, f3, f4, f5, f6⟩ := live_out
  have nil : VRow W (.slice none 0 0) ([] : List Int) := ⟨none, 0, rfl, fun h => absurd rfl h⟩
  refine (block_any (D := zWD) (l := liveL) (h := [0]) nil nil hh hl (by decide) liveL_wf swf0 50 ⟨by decide, by decide⟩).mono ?_
  rintro e w' (⟨_, vs, vo, vh, va, rfl, r1, r2, r3, r4, t⟩ | ⟨h0, _⟩)
  · rw [f2] at r4
    obtain ⟨sa, sc, rfl⟩ := r1.form
    obtain ⟨oa, oc, rfl⟩ := r2.form
    obtain ⟨ha, hc, rfl⟩ := r3.form
    obtain ⟨aa, ac, rfl⟩ := r4.form
    obtain ⟨g2, q2, rfl, hk2⟩ := brow1 r4
    exact ⟨_, _, _, _, _, _, _, _, _, _, g2, q2, _, rfl, f3, hk2, t⟩
  · exact absurd f1 h0
theorem live_run {w W : World} (hl : InsRow W (.slice (some ⟨w.heap.size, 0, none⟩) 7 7) liveL) (ah : Option Addr) (ch : Nat) (hh : VRow W (.slice ah 1 ch) [0]) :
    Calls Try.prog 18 #[.slice (some ⟨w.heap.size, 0, none⟩) 7 7, .slice ah 1 ch, .int .i64 50] W (fun e w' => ∃ D sa ns sc oa no oc ha nh hc aa ac, e = .returned (.agg (outA 1 D (.slice sa ns sc) (.slice oa no oc) (.slice ha nh hc) (.slice aa 1 ac) 0)) ∧ Touch W w' []) := by
  obtain ⟨f1, f2, f3, f4, f5, f6⟩ := live_out
  refine (run_two (l := liveL) (h := [0]) hh hl (by decide) liveL_wf swf0 50 rfl f1 live_at.1 (by rw [f3]; exact live_at.2) (by rw [f4]; simp) (by rw [f5]; simp) (by rw [f2]; simp)).mono ?_
  rw [f2]
  rintro e w' ⟨sa, sc, oa, oc, ha, hc, aa, ac, rfl, _, _, t⟩
  exact ⟨_, _, _, _, _, _, _, _, _, _, _, _, rfl, t⟩

set_option maxRecDepth 100000 in
set_option maxHeartbeats 2000000 in
theorem splive_any (w : World) : Calls Try.prog 12 #[] w fun e w' => e = .returned (.bool true) ∧ Touch w w' [] := by
  have hl0 : InsRow (w.alloc (.cells (liveL.flatMap InsD.cells).toArray 48)) (.slice (some ⟨w.heap.size, 0, none⟩) 7 7) liveL := slit liveL (by decide)
  have t0 : Touch w (w.alloc (.cells (liveL.flatMap InsD.cells).toArray 48)) [] := (Touch.refl w []).alloc _
  rw [show (liveL.flatMap InsD.cells).toArray = #[.int .u8 21, .int .i64 5, .int .u64 0, .int .u8 23, .int .i64 3, .int .u64 0, .int .u8 26, .int .i64 0, .int .u64 0, .int .u8 24, .int .i64 4, .int .u64 0, .int .u8 25, .int .i64 0, .int .u64 0, .int .u8 22, .int .i64 0, .int .u64 0, .int .u8 28, .int .i64 0, .int .u64 0] from rfl] at hl0 t0
  have HBK : Hid (∀ W, Touch (w.alloc (.cells #[.int .u8 21, .int .i64 5, .int .u64 0, .int .u8 23, .int .i64 3, .int .u64 0, .int .u8 26, .int .i64 0, .int .u64 0, .int .u8 24, .int .i64 4, .int .u64 0, .int .u8 25, .int .i64 0, .int .u64 0, .int .u8 22, .int .i64 0, .int .u64 0, .int .u8 28, .int .i64 0, .int .u64 0] 48)) W [] → HidC _ _ _ _ _) := fun W tw => ⟨live_block (w := w) (W := W.alloc (.cells #[.int .u64 0] 25)) (SRow.keep hl0 (tw.alloc _) (by simp)) (some ⟨W.heap.size, 0, none⟩) 1 (vlit [0] (by simp))⟩
  have HRN : Hid (∀ W, Touch (w.alloc (.cells #[.int .u8 21, .int .i64 5, .int .u64 0, .int .u8 23, .int .i64 3, .int .u64 0, .int .u8 26, .int .i64 0, .int .u64 0, .int .u8 24, .int .i64 4, .int .u64 0, .int .u8 25, .int .i64 0, .int .u64 0, .int .u8 22, .int .i64 0, .int .u64 0, .int .u8 28, .int .i64 0, .int .u64 0] 48)) W [] → HidC _ _ _ _ _) := fun W tw => ⟨live_run (w := w) (W := W.alloc (.cells #[.int .u64 0] 25)) (SRow.keep hl0 (tw.alloc _) (by simp)) (some ⟨W.heap.size, 0, none⟩) 1 (vlit [0] (by simp))⟩
  have HQS : Hid ((w.alloc (.cells #[.int .u8 21, .int .i64 5, .int .u64 0, .int .u8 23, .int .i64 3, .int .u64 0, .int .u8 26, .int .i64 0, .int .u64 0, .int .u8 24, .int .i64 4, .int .u64 0, .int .u8 25, .int .i64 0, .int .u64 0, .int .u8 22, .int .i64 0, .int .u64 0, .int .u8 28, .int .i64 0, .int .u64 0] 48)).heap.size = w.heap.size + 1) := by show _ = _; simp
  have HT0 : Hid _ := t0
  clear hl0 t0
  go_enter Try.func12, Try.ntmps12
  go_wp2_with fail
  generalize (w.alloc (.cells #[.int .u8 21, .int .i64 5, .int .u64 0, .int .u8 23, .int .i64 3, .int .u64 0, .int .u8 26, .int .i64 0, .int .u64 0, .int .u8 24, .int .i64 4, .int .u64 0, .int .u8 25, .int .i64 0, .int .u64 0, .int .u8 22, .int .i64 0, .int .u64 0, .int .u8 28, .int .i64 0, .int .u64 0] 48)) = Q at *
  have hb := HBK.out Q (Touch.refl _ _)
  rw [HQS.out] at hb
  have HB1 : Hid _ := hb
  clear hb HBK
  refine HB1.out.out.mono ?_
  rintro e w1 ⟨D, sa, ns, sc, oa, no, oc, ha, nh, hc, g, q, ac, rfl, hpc, c0, t1⟩
  have tA : Touch w1 (w1.alloc (.cells (outA 1 D (.slice sa ns sc) (.slice oa no oc) (.slice ha nh hc) (.slice (some ⟨g, q, none⟩) 1 ac) 0) 41)) [] := (Touch.refl w1 []).alloc _
  have tV : Touch Q w1 [] := ((Touch.refl Q []).alloc _).trans t1 (by simp)
  have hr := HRN.out (w1.alloc (.cells (outA 1 D (.slice sa ns sc) (.slice oa no oc) (.slice ha nh hc) (.slice (some ⟨g, q, none⟩) 1 ac) 0) 41)) (tV.trans tA (by simp))
  rw [show (w1.alloc (.cells (outA 1 D (.slice sa ns sc) (.slice oa no oc) (.slice ha nh hc) (.slice (some ⟨g, q, none⟩) 1 ac) 0) 41)).heap.size = w1.heap.size + 1 by simp] at hr
  have HR1 : Hid _ := hr
  have HO : Hid (OutB (w1.alloc (.cells (outA 1 D (.slice sa ns sc) (.slice oa no oc) (.slice ha nh hc) (.slice (some ⟨g, q, none⟩) 1 ac) 0) 41)) w1.heap.size (outA 1 D (.slice sa ns sc) (.slice oa no oc) (.slice ha nh hc) (.slice (some ⟨g, q, none⟩) 1 ac) 0)) := ⟨heap_alloc_new w1 _⟩
  have HC0 : Hid (∀ W, Touch (w1.alloc (.cells (outA 1 D (.slice sa ns sc) (.slice oa no oc) (.slice ha nh hc) (.slice (some ⟨g, q, none⟩) 1 ac) 0) 41)) W [] → W.cell? ⟨g, q, none⟩ = some (.bool false)) := fun W t => ((tA.trans t (by simp)).cell (p := ⟨g, q, none⟩) (World.block_lt_of_cell? _ _ c0) (by simp)).trans c0
  have HT1 : Hid (Touch w (w1.alloc (.cells (outA 1 D (.slice sa ns sc) (.slice oa no oc) (.slice ha nh hc) (.slice (some ⟨g, q, none⟩) 1 ac) 0) 41)) []) := HT0.out.trans (tV.trans tA (by simp)) (by simp)
  have HPC : Hid _ := hpc
  clear hr HRN HB1 tA tV t1 c0 hpc
  go_wp2_with fail
  refine HR1.out.out.mono ?_
  rintro e w3 ⟨D', sa', ns', sc', oa', no', oc', ha', nh', hc', aa', ac', rfl, t3⟩
  have tB : Touch w3 (w3.alloc (.cells (outA 1 D' (.slice sa' ns' sc') (.slice oa' no' oc') (.slice ha' nh' hc') (.slice aa' 1 ac') 0) 41)) [] := (Touch.refl w3 []).alloc _
  have t23 : Touch (w1.alloc (.cells (outA 1 D (.slice sa ns sc) (.slice oa no oc) (.slice ha nh hc) (.slice (some ⟨g, q, none⟩) 1 ac) 0) 41)) (w3.alloc (.cells (outA 1 D' (.slice sa' ns' sc') (.slice oa' no' oc') (.slice ha' nh' hc') (.slice aa' 1 ac') 0) 41)) [] := (((Touch.refl _ []).alloc _).trans t3 (by simp)).trans tB (by simp)
  have ho := HO.out.touch t23 (by simp)
  have hc0 := HC0.out _ t23
  have HT4 : Hid _ := HT1.out.trans t23 (by simp)
  have k0 := ho.cell 0
  have k1 := ho.cell 1
  have k9 := ho.cell 9
  simp only [outA, List.getElem?_toArray, List.getElem?_cons_zero, List.getElem?_cons_succ] at k0 k1 k9
  rw [HPC.out] at k1
  clear HO HC0 HT1 t3 tB t23 ho HR1
  go_wp2
  go_ret
  exact ⟨rfl, HT4.out⟩

end Go.Proofs.Ytlndbligbpfdpaa
