/-
  package spec: what its statements ask of any input (live), WALKED.
-/
import Derived.Test.YtlndbligbpfdpaaSpRun
import Derived.Test.YtlndbligbpfdpaaAllB
import Derived.Test.YtlndbligbpfdpaaAllA
import Derived.Deep.QuietTactic
import Derived.BigQuiet
import Derived.Deep.RegionHeld3
import Derived.Test.YtlndbligbpfdpaaSpCopied
import Derived.OpenShut
import Derived.Lib.SmallJoins
namespace Go.Proofs.Ytlndbligbpfdpaa
set_option linter.unusedVariables false
set_option linter.unusedSimpArgs false
open Go.RowKit
attribute [local go_sem] Oper.semAt_some

def liveL : List InsD := [⟨21, 5, 0⟩, ⟨23, 3, 0⟩, ⟨26, 0, 0⟩, ⟨24, 4, 0⟩, ⟨25, 0, 0⟩, ⟨22, 0, 0⟩, ⟨28, 0, 0⟩]
theorem live_out : (outX liveL zWD [0] 50).1 = 0 ∧ (outX liveL zWD [0] 50).2.arms = [false] ∧ (outX liveL zWD [0] 50).2.D.pc = 6 ∧ (outX liveL zWD [0] 50).2.D.st = [] ∧ (outX liveL zWD [0] 50).2.D.out = [] ∧ (outX liveL zWD [0] 50).2.h = [0] := by decide +kernel
theorem live_at : opAtW liveL 0 = 21 ∧ opAtW liveL 6 = 28 := by decide +kernel
theorem liveL_wf : ∀ i ∈ liveL, i.Wf := by
  simp only [liveL, List.forall_mem_cons]
  refine ⟨?_, ?_, ?_, ?_, ?_, ?_, ?_, fun _ h => (by cases h)⟩ <;> constructor <;> (try unfold Wf64) <;> decide
theorem slit {w : World} (l : List InsD) (hl : l.length ≤ 1000) : InsRow (w.alloc (.cells (l.flatMap InsD.cells).toArray 48)) (.slice (some ⟨w.heap.size, 0, none⟩) l.length l.length) l := by
  have hc : (l.flatMap InsD.cells).length = l.length * 3 := flat_len (cells := InsD.cells) (fun _ => rfl) l
  exact srow_of (cells := InsD.cells) (n := 3) (fun _ => rfl) (B := w.heap.size) (e := 48) ⟨hc, .inr ⟨w.heap.size, l.length, (l.flatMap InsD.cells).toArray, rfl, Nat.le_refl _, heap_alloc_new w _, Nat.le_refl _, by unfold maxLen; omega, by simpa using hc, by first | exact List.take_of_length_le (by simp only [List.toList_toArray]; omega) | (simp only [List.toList_toArray]; exact (List.take_of_length_le (by omega)).symm) | (simp only [List.toList_toArray]; rw [List.take_of_length_le (by omega)])⟩⟩
theorem vlit {w : World} (l : List Int) (hl : l.length ≤ 1000) : VRow (w.alloc (.cells (l.map (Value.int .u64)).toArray 25)) (.slice (some ⟨w.heap.size, 0, none⟩) l.length l.length) l := by
  refine vrow_of (B := w.heap.size) ⟨by simp, .inr ⟨w.heap.size, l.length, (l.map (Value.int .u64)).toArray, rfl, Nat.le_refl _, heap_alloc_new w _, Nat.le_refl _, by unfold maxLen; omega, by simp, ?_⟩⟩
  first | exact List.take_of_length_le (by simp) | (simp)
theorem brow1 {w : World} {a : Option Addr} {c : Nat} {x : Bool} (h : SRow 1 bcell w (.slice a 1 c) [x]) : ∃ g off, a = some ⟨g, off, none⟩ ∧ w.cell? ⟨g, off, none⟩ = some (.bool x) := by
  obtain ⟨g, off, e, _, hc⟩ := SRow.at (l := [x]) h 0 (by simp)
  refine ⟨g, off, e, ?_⟩
  have := hc 0 (by simp)
  simpa using this
theorem swf0 : SWf zWD [0] := ⟨by simp, by simp, by simp, fun x hx => (by cases hx), fun x hx => (by simp at hx; subst hx; exact wf_zero), wf_zero, wf_zero, wf_zero, wf_zero⟩

theorem live_block {w W : World} (hl : InsRow W (.slice (some ⟨w.heap.size, 0, none⟩) 7 7) liveL) (ah : Option Addr) (ch : Nat) (hh : VRow W (.slice ah 1 ch) [0]) :
    Calls Try.prog 15 #[.slice (some ⟨w.heap.size, 0, none⟩) 7 7, stV zWD (.slice none 0 0) (.slice none 0 0), .slice ah 1 ch, .int .i64 50] W (fun e w' => ∃ D sa ns sc oa no oc ha nh hc g q ac, e = .returned (.agg (outA 1 D (.slice sa ns sc) (.slice oa no oc) (.slice ha nh hc) (.slice (some ⟨g, q, none⟩) 1 ac) 0)) ∧ D.pc = 6 ∧ w'.cell? ⟨g, q, none⟩ = some (.bool false) ∧ Touch W w' []) := by
  obtain ⟨f1, f2, f3, f4, f5, f6⟩ := live_out
  have nil : VRow W (.slice none 0 0) ([] : List Int) := ⟨none, 0, rfl, fun h => absurd rfl h⟩
  refine (block_any (D := zWD) (l := liveL) (h := [0]) nil nil hh hl (by decide) liveL_wf swf0 50 ⟨by decide, by decide⟩).mono ?_
  rintro e w' (⟨_, vs, vo, vh, va, rfl, r1, r2, r3, r4, t⟩ | ⟨h0, _⟩)
  · rw [f2] at r4
    obtain ⟨sa, sc, rfl⟩ := r1.form
    obtain ⟨oa, oc, rfl⟩ := r2.form
    obtain ⟨ha, hc, rfl⟩ := r3.form
    obtain ⟨aa, ac, rfl⟩ := r4.form
    obtain ⟨g2, q2, rfl, hk2⟩ := brow1 r4
    exact ⟨_, _, _, _, _, _, _, _, _, _, g2, q2, _, rfl, f3, hk2, t⟩
  · exact absurd f1 h0
theorem live_run {w W : World} (hl : InsRow W (.slice (some ⟨w.heap.size, 0, none⟩) 7 7) liveL) (ah : Option Addr) (ch : Nat) (hh : VRow W (.slice ah 1 ch) [0]) :
    Calls Try.prog 18 #[.slice (some ⟨w.heap.size, 0, none⟩) 7 7, .slice ah 1 ch, .int .i64 50] W (fun e w' => ∃ D sa ns sc oa no oc ha nh hc aa ac, e = .returned (.agg (outA 1 D (.slice sa ns sc) (.slice oa no oc) (.slice ha nh hc) (.slice aa 1 ac) 0)) ∧ Touch W w' []) := by
  obtain ⟨f1, f2, f3, f4, f5, f6⟩ := live_out
  refine (run_two (l := liveL) (h := [0]) hh hl (by decide) liveL_wf swf0 50 rfl f1 live_at.1 (by rw [f3]; exact live_at.2) (by rw [f4]; simp) (by rw [f5]; simp) (by rw [f2]; simp)).mono ?_
  rw [f2]
  rintro e w' ⟨sa, sc, oa, oc, ha, hc, aa, ac, rfl, _, _, t⟩
  exact ⟨_, _, _, _, _, _, _, _, _, _, _, _, rfl, t⟩

set_option maxRecDepth 100000 in
set_option maxHeartbeats 2000000 in
theorem splive_any (w : World) : Calls Try.prog 12 #[] w fun e w' => e = .returned (.bool true) ∧ Touch w w' [] := by
  have hl0 : InsRow (w.alloc (.cells (liveL.flatMap InsD.cells).toArray 48)) (.slice (some ⟨w.heap.size, 0, none⟩) 7 7) liveL := slit liveL (by decide)
  have t0 : Touch w (w.alloc (.cells (liveL.flatMap InsD.cells).toArray 48)) [] := (Touch.refl w []).alloc _
  rw [show (liveL.flatMap InsD.cells).toArray = #[.int .u8 21, .int .i64 5, .int .u64 0, .int .u8 23, .int .i64 3, .int .u64 0, .int .u8 26, .int .i64 0, .int .u64 0, .int .u8 24, .int .i64 4, .int .u64 0, .int .u8 25, .int .i64 0, .int .u64 0, .int .u8 22, .int .i64 0, .int .u64 0, .int .u8 28, .int .i64 0, .int .u64 0] from rfl] at hl0 t0
  have HBK : Hid (∀ W, Touch (w.alloc (.cells #[.int .u8 21, .int .i64 5, .int .u64 0, .int .u8 23, .int .i64 3, .int .u64 0, .int .u8 26, .int .i64 0, .int .u64 0, .int .u8 24, .int .i64 4, .int .u64 0, .int .u8 25, .int .i64 0, .int .u64 0, .int .u8 22, .int .i64 0, .int .u64 0, .int .u8 28, .int .i64 0, .int .u64 0] 48)) W [] → HidC _ _ _ _ _) := fun W tw => ⟨live_block (w := w) (W := W.alloc (.cells #[.int .u64 0] 25)) (SRow.keep hl0 (tw.alloc _) (by simp)) (some ⟨W.heap.size, 0, none⟩) 1 (vlit [0] (by simp))⟩
  have HRN : Hid (∀ W, Touch (w.alloc (.cells #[.int .u8 21, .int .i64 5, .int .u64 0, .int .u8 23, .int .i64 3, .int .u64 0, .int .u8 26, .int .i64 0, .int .u64 0, .int .u8 24, .int .i64 4, .int .u64 0, .int .u8 25, .int .i64 0, .int .u64 0, .int .u8 22, .int .i64 0, .int .u64 0, .int .u8 28, .int .i64 0, .int .u64 0] 48)) W [] → HidC _ _ _ _ _) := fun W tw => ⟨live_run (w := w) (W := W.alloc (.cells #[.int .u64 0] 25)) (SRow.keep hl0 (tw.alloc _) (by simp)) (some ⟨W.heap.size, 0, none⟩) 1 (vlit [0] (by simp))⟩
  have HQS : Hid ((w.alloc (.cells #[.int .u8 21, .int .i64 5, .int .u64 0, .int .u8 23, .int .i64 3, .int .u64 0, .int .u8 26, .int .i64 0, .int .u64 0, .int .u8 24, .int .i64 4, .int .u64 0, .int .u8 25, .int .i64 0, .int .u64 0, .int .u8 22, .int .i64 0, .int .u64 0, .int .u8 28, .int .i64 0, .int .u64 0] 48)).heap.size = w.heap.size + 1) := by show _ = _; simp
  have HT0 : Hid _ := t0
  clear hl0 t0
  go_enter Try.func12, Try.ntmps12
  go_wp2_with fail
  generalize (w.alloc (.cells #[.int .u8 21, .int .i64 5, .int .u64 0, .int .u8 23, .int .i64 3, .int .u64 0, .int .u8 26, .int .i64 0, .int .u64 0, .int .u8 24, .int .i64 4, .int .u64 0, .int .u8 25, .int .i64 0, .int .u64 0, .int .u8 22, .int .i64 0, .int .u64 0, .int .u8 28, .int .i64 0, .int .u64 0] 48)) = Q at *
  have hb := HBK.out Q (Touch.refl _ _)
  rw [HQS.out] at hb
  have HB1 : Hid _ := hb
  clear hb HBK
  refine HB1.out.out.mono ?_
  rintro e w1 ⟨D, sa, ns, sc, oa, no, oc, ha, nh, hc, g, q, ac, rfl, hpc, c0, t1⟩
  have tA : Touch w1 (w1.alloc (.cells (outA 1 D (.slice sa ns sc) (.slice oa no oc) (.slice ha nh hc) (.slice (some ⟨g, q, none⟩) 1 ac) 0) 41)) [] := (Touch.refl w1 []).alloc _
  have tV : Touch Q w1 [] := ((Touch.refl Q []).alloc _).trans t1 (by simp)
  have hr := HRN.out (w1.alloc (.cells (outA 1 D (.slice sa ns sc) (.slice oa no oc) (.slice ha nh hc) (.slice (some ⟨g, q, none⟩) 1 ac) 0) 41)) (tV.trans tA (by simp))
  rw [show (w1.alloc (.cells (outA 1 D (.slice sa ns sc) (.slice oa no oc) (.slice ha nh hc) (.slice (some ⟨g, q, none⟩) 1 ac) 0) 41)).heap.size = w1.heap.size + 1 by simp] at hr
  have HR1 : Hid _ := hr
  have HO : Hid (OutB (w1.alloc (.cells (outA 1 D (.slice sa ns sc) (.slice oa no oc) (.slice ha nh hc) (.slice (some ⟨g, q, none⟩) 1 ac) 0) 41)) w1.heap.size (outA 1 D (.slice sa ns sc) (.slice oa no oc) (.slice ha nh hc) (.slice (some ⟨g, q, none⟩) 1 ac) 0)) := ⟨heap_alloc_new w1 _⟩
  have HC0 : Hid (∀ W, Touch (w1.alloc (.cells (outA 1 D (.slice sa ns sc) (.slice oa no oc) (.slice ha nh hc) (.slice (some ⟨g, q, none⟩) 1 ac) 0) 41)) W [] → W.cell? ⟨g, q, none⟩ = some (.bool false)) := fun W t => ((tA.trans t (by simp)).cell (p := ⟨g, q, none⟩) (World.block_lt_of_cell? _ _ c0) (by simp)).trans c0
  have HT1 : Hid (Touch w (w1.alloc (.cells (outA 1 D (.slice sa ns sc) (.slice oa no oc) (.slice ha nh hc) (.slice (some ⟨g, q, none⟩) 1 ac) 0) 41)) []) := HT0.out.trans (tV.trans tA (by simp)) (by simp)
  have HPC : Hid _ := hpc
  clear hr HRN HB1 tA tV t1 c0 hpc
  go_wp2_with fail
  refine HR1.out.out.mono ?_
  rintro e w3 ⟨D', sa', ns', sc', oa', no', oc', ha', nh', hc', aa', ac', rfl, t3⟩
  have tB : Touch w3 (w3.alloc (.cells (outA 1 D' (.slice sa' ns' sc') (.slice oa' no' oc') (.slice ha' nh' hc') (.slice aa' 1 ac') 0) 41)) [] := (Touch.refl w3 []).alloc _
  have t23 : Touch (w1.alloc (.cells (outA 1 D (.slice sa ns sc) (.slice oa no oc) (.slice ha nh hc) (.slice (some ⟨g, q, none⟩) 1 ac) 0) 41)) (w3.alloc (.cells (outA 1 D' (.slice sa' ns' sc') (.slice oa' no' oc') (.slice ha' nh' hc') (.slice aa' 1 ac') 0) 41)) [] := (((Touch.refl _ []).alloc _).trans t3 (by simp)).trans tB (by simp)
  have ho := HO.out.touch t23 (by simp)
  have hc0 := HC0.out _ t23
  have HT4 : Hid _ := HT1.out.trans t23 (by simp)
  have k0 := ho.cell 0
  have k1 := ho.cell 1
  have k9 := ho.cell 9
  simp only [outA, List.getElem?_toArray, List.getElem?_cons_zero, List.getElem?_cons_succ] at k0 k1 k9
  rw [HPC.out] at k1
  clear HO HC0 HT1 t3 tB t23 ho HR1
  go_wp2
  go_ret
  exact ⟨rfl, HT4.out⟩

end Go.Proofs.Ytlndbligbpfdpaa
/-
  SpecNothing: a block keeps how many variables there are; PLAIN DATA.
-/
namespace Go.Proofs.Ytlndbligbpfdpaa
set_option linter.unusedVariables false
set_option linter.unusedSimpArgs false
open Go.RowKit

/-- So many variables, now and at each mark. -/
def LenB (N : Nat) (X : BX) : Prop := X.h.length = N ∧ ∀ m ∈ X.ms, m.h.length = N
theorem reach_len {N : Nat} {X : BX} (h : LenB N X) (i : InsD) : LenB N (reachB X i).2 := by
  unfold reachB
  split
  · exact h
  · split
    · exact h
    · split
      · exact h
      · exact ⟨by rw [List.length_set]; exact h.1, h.2⟩
theorem br_len {N : Nat} {X : BX} (h : LenB N X) (i : InsD) : LenB N (brB X i).2 := by
  unfold brB
  split
  · refine ⟨h.1, fun m hm => ?_⟩
    rcases List.mem_append.1 hm with hm | hm
    · exact h.2 m hm
    · rw [List.mem_singleton.1 hm]; exact h.1
  · split
    · split
      · exact h
      · exact ⟨h.1, fun m hm => h.2 m (List.dropLast_subset _ hm)⟩
    · split
      · exact h
      · split
        · split
          · exact h
          · rename_i m hm
            exact ⟨h.2 m (List.mem_of_getLast? hm), fun m hm => h.2 m (List.dropLast_subset _ hm)⟩
        · exact h
theorem do_len {N : Nat} {l : List InsD} {X : BX} (h : LenB N X) (i : InsD) : LenB N (doB l X i).2 := by
  unfold doB
  split
  · exact h
  · split
    · exact reach_len h i
    · split
      · split
        · exact h
        · exact br_len h i
      · exact h
theorem runB_len {N : Nat} {l : List InsD} : ∀ (n : Nat) {X : BX}, LenB N X → LenB N (runB l n X).2
  | 0, X, h => by
    unfold runB
    split
    · exact h
    · exact h
  | n + 1, X, h => by
    unfold runB
    split
    · exact h
    · rename_i i _
      have h1 : LenB N { X with D := { X.D with fuel := X.D.fuel - 1 } } := h
      have h2 := do_len (l := l) h1 i
      split
      · split
        · exact h2
        · exact runB_len n h2
      · exact h2
theorem out_len (l : List InsD) (D : WD) (h : List Int) (f : Int) : (outX l D h f).2.h.length = h.length := by
  have h0 : LenB h.length ⟨{ D with fuel := fuelW f }, h, [], []⟩ := ⟨rfl, fun m hm => by cases hm⟩
  unfold outX endB
  split
  · exact (runB_len _ (X := ⟨{ D with fuel := fuelW f, pc := D.pc + 1 }, h, [], []⟩) ⟨rfl, fun m hm => by cases hm⟩).1
  · rfl

end Go.Proofs.Ytlndbligbpfdpaa
/-
  A slice that came in: its length, and how far it may go.
-/
namespace Go.Proofs.Ytlndbligbpfdpaa
set_option linter.unusedVariables false
set_option linter.unusedSimpArgs false
open Go.ChangeShapes Go.WideShapes Go.ChangeAt Go.RowKit Go.Joins Go.Deep

theorem caps_of_trod {H : Type} {enc : TypeId × Value → H} {W : World} {T E : TypeId} (hu : Try.prog.underlying T = some (.slice E))
    {ao : Option Addr} {len cap : Nat} {d : DataW H} {p : List MemPlace} (h : DataW.Trod enc Try.prog W 0 (fun _ => true) true T (.slice ao len cap) d p) : len ≤ cap ∧ cap ≤ maxLen := by
  obtain ⟨fuel, hf⟩ := h
  rcases open_slice hu hf with ⟨hcs, _⟩ | ⟨a, len', cap', m, n', D, Pl, hcs, _, hl, hm, hmm, _, hx⟩
  · simp [Value.cells] at hcs
    obtain ⟨rfl, rfl, rfl⟩ := hcs
    exact ⟨Nat.le_refl _, by unfold maxLen; omega⟩
  · simp [Value.cells] at hcs
    obtain ⟨rfl, rfl, rfl⟩ := hcs
    exact ⟨hl, hm⟩

/-- The first ones of a row. -/
theorem SRow.first {α : Type} {n : Nat} {cells : α → List Value} {w : World} {ao : Option Addr} {cap : Nat} {l : List α} (h : SRow n cells w (.slice ao l.length cap) l) (m : Nat) (hm : m ≤ l.length) : SRow n cells w (.slice ao (l.take m).length cap) (l.take m) := by
  obtain ⟨ao', cap', e, h1⟩ := h
  simp only [Value.slice.injEq, true_and] at e
  obtain ⟨rfl, rfl⟩ := e
  refine ⟨ao, cap, rfl, fun hne => ?_⟩
  obtain ⟨g, off, rfl, hlt, hc⟩ := h1 (by intro e; rw [e] at hne; simp at hne)
  exact ⟨g, off, rfl, hlt, fun k hk j hj => by rw [List.getElem_take]; exact hc k (by simp at hk; omega) j hj⟩

end Go.Proofs.Ytlndbligbpfdpaa
/-
  SpecNothing: what its inputs are cut to.
-/
namespace Go.Proofs.Ytlndbligbpfdpaa
set_option linter.unusedVariables false
set_option linter.unusedSimpArgs false
open Go.RowKit
attribute [local go_sem] Oper.semAt_some

def cutN (k n : Nat) : Nat := if k < n then k else n
theorem spfew_any (ao : Option Addr) (n cap : Nat) (hn : n ≤ cap) (hc : cap ≤ 9223372036854775807) (w : World) : Calls Try.prog 9 #[.slice ao n cap] w fun e w' => e = .returned (.slice ao (cutN 64 n) cap) ∧ w' = w := by
  by_cases h : 64 < n
  · have e : cutN 64 n = 64 := by unfold cutN; rw [if_pos h]
    rw [e]
    have h1 : (64 : Int) < n := by omega
    have h2 : (64 : Int) ≤ cap := by omega
    have h3 : 64 ≤ cap := by omega
    clear e h
    go_enter Try.func9, Try.ntmps9
    go_wp2
    go_ret
    exact ⟨rfl, rfl⟩
  · have e : cutN 64 n = n := by unfold cutN; rw [if_neg h]
    rw [e]
    have h1 : ¬ (64 : Int) < n := by omega
    clear e h
    go_enter Try.func9, Try.ntmps9
    go_wp2
    go_ret
    exact ⟨rfl, rfl⟩
theorem spheap_any (ao : Option Addr) (n cap : Nat) (hn : n ≤ cap) (hc : cap ≤ 9223372036854775807) (w : World) : Calls Try.prog 14 #[.slice ao n cap] w fun e w' => e = .returned (.slice ao (cutN 20 n) cap) ∧ w' = w := by
  by_cases h : 20 < n
  · have e : cutN 20 n = 20 := by unfold cutN; rw [if_pos h]
    rw [e]
    have h1 : (20 : Int) < n := by omega
    have h2 : (20 : Int) ≤ cap := by omega
    have h3 : 20 ≤ cap := by omega
    clear e h
    go_enter Try.func14, Try.ntmps14
    go_wp2
    go_ret
    exact ⟨rfl, rfl⟩
  · have e : cutN 20 n = n := by unfold cutN; rw [if_neg h]
    rw [e]
    have h1 : ¬ (20 : Int) < n := by omega
    clear e h
    go_enter Try.func14, Try.ntmps14
    go_wp2
    go_ret
    exact ⟨rfl, rfl⟩
theorem row_cut {α : Type} {m : Nat} {cs : α → List Value} {w : World} {ao : Option Addr} {cap : Nat} {l : List α} (h : SRow m cs w (.slice ao l.length cap) l) (k : Nat) : SRow m cs w (.slice ao (cutN k l.length) cap) (l.take k) := by
  unfold cutN
  split
  · have := SRow.first h k (by omega)
    rw [List.length_take, Nat.min_eq_left (by omega)] at this
    exact this
  · rw [List.take_of_length_le (by omega)]; exact h

end Go.Proofs.Ytlndbligbpfdpaa
/-
  SpecLeft: its two programs, and what Block comes to there, RECKONED for all values.
-/
namespace Go.Proofs.Ytlndbligbpfdpaa
set_option linter.unusedVariables false
set_option linter.unusedSimpArgs false
open Go.RowKit

/-- What is at a place, whatever its value is. -/
def hereQ (l : List InsD) (pc : Int) : Option InsD := if placeP pc l.length then (if rightI { l.getD pc.toNat ⟨0, 0, 0⟩ with val := 0 } then some (l.getD pc.toNat ⟨0, 0, 0⟩) else none) else none
theorem right_at {l : List InsD} (h : ∀ i ∈ l, rightI i = rightI { i with val := 0 }) (pc : Int) : rightI (l.getD pc.toNat ⟨0, 0, 0⟩) = rightI { l.getD pc.toNat ⟨0, 0, 0⟩ with val := 0 } := by
  rw [List.getD_eq_getElem?_getD]
  cases e : l[pc.toNat]? with
  | none => rfl
  | some i => exact h i (List.mem_of_getElem? e)
theorem here_val {l : List InsD} (h : ∀ i ∈ l, rightI i = rightI { i with val := 0 }) (pc : Int) : hereP l pc = hereQ l pc := by
  unfold hereP hereQ
  rw [right_at h pc]
def stepQ (l : List InsD) (D : WD) : Int × WD :=
  if placeP D.pc l.length = false then (3, D)
  else
    if rightI { l.getD D.pc.toNat { op := 0, arg := 0, val := 0 } with val := 0 } = false then (3, D)
    else
      if plainO (l.getD D.pc.toNat { op := 0, arg := 0, val := 0 }).op = false then (3, D)
      else
        if fitsW (l.getD D.pc.toNat { op := 0, arg := 0, val := 0 }).op D.st.length = false then (12, D)
        else doW l.length D (l.getD D.pc.toNat { op := 0, arg := 0, val := 0 })
theorem step_val {l : List InsD} (h : ∀ i ∈ l, rightI i = rightI { i with val := 0 }) (D : WD) : stepW l D = stepQ l D := by
  unfold stepW stepQ
  rw [right_at h D.pc]
def doQ (l : List InsD) (X : BX) (i : InsD) : Int × BX :=
  if i.op = 27 ∨ i.op = 28 ∨ i.op = 21 then (3, X)
  else
    if i.op = 4 ∨ i.op = 5 ∨ i.op = 6 ∨ i.op = 7 then reachB X i
    else
      if i.op = 22 ∨ i.op = 23 ∨ i.op = 24 ∨ i.op = 25 ∨ i.op = 26 then
        if fitsW i.op X.D.st.length = false then (12, X) else brB X i
      else ((stepQ l X.D).fst, { D := (stepQ l X.D).snd, h := X.h, ms := X.ms, arms := X.arms })
theorem do_val {l : List InsD} (h : ∀ i ∈ l, rightI i = rightI { i with val := 0 }) (X : BX) (i : InsD) : doB l X i = doQ l X i := by
  unfold doB doQ
  rw [step_val h X.D]
def runQ (l : List InsD) : Nat → BX → Int × BX
  | 0, X => match hereQ l X.D.pc with
    | none => (3, X)
    | some _ => (11, X)
  | n + 1, X => match hereQ l X.D.pc with
    | none => (3, X)
    | some i => if (doQ l { X with D := { X.D with fuel := X.D.fuel - 1 } } i).1 = 0 then (if i.op = 22 then doQ l { X with D := { X.D with fuel := X.D.fuel - 1 } } i else runQ l n (doQ l { X with D := { X.D with fuel := X.D.fuel - 1 } } i).2) else doQ l { X with D := { X.D with fuel := X.D.fuel - 1 } } i
theorem run_val {l : List InsD} (h : ∀ i ∈ l, rightI i = rightI { i with val := 0 }) : ∀ n X, runB l n X = runQ l n X
  | 0, X => by
    unfold runB runQ
    rw [here_val h]
    cases hereQ l X.D.pc <;> rfl
  | n + 1, X => by
    unfold runB runQ
    rw [here_val h]
    cases hereQ l X.D.pc with
    | none => rfl
    | some i => simp only [run_val h n, do_val h]
def outQ (l : List InsD) (D : WD) (h : List Int) (f : Int) : Int × BX := if opAtW l D.pc = 21 then runQ l (fuelW f).toNat ⟨{ D with fuel := fuelW f, pc := D.pc + 1 }, h, [], []⟩ else (3, ⟨{ D with fuel := fuelW f }, h, [], []⟩)
theorem out_val {l : List InsD} (h : ∀ i ∈ l, rightI i = rightI { i with val := 0 }) (D : WD) (hp : List Int) (f : Int) : outX l D hp f = outQ l D hp f := by
  unfold outX endB outQ
  rw [run_val h]

def leftI (b : Bool) (t : Int) : InsD := if b then ⟨3, t, 0⟩ else ⟨5, t, 0⟩
def leftL (b : Bool) (t u v x : Int) : List InsD := [⟨21, 9, 0⟩, ⟨23, 5, 0⟩, ⟨1, 0, v⟩, leftI b t, ⟨26, 0, 0⟩, ⟨24, 8, 0⟩, ⟨1, 0, x⟩, ⟨5, u, 0⟩, ⟨25, 0, 0⟩, ⟨22, 0, 0⟩, ⟨28, 0, 0⟩]
def leftM (u x : Int) : List InsD := [⟨21, 3, 0⟩, ⟨1, 0, x⟩, ⟨5, u, 0⟩, ⟨22, 0, 0⟩, ⟨28, 0, 0⟩]
def leftH : List Int := [0, 4607182418800017408, 9221120237041090560, 9223372036854775808]
theorem push_val {v : Int} (h : rightB v = true) : rightI ⟨1, 0, v⟩ = rightI ⟨1, 0, 0⟩ := by
  have : rightB 0 = true := by decide +kernel
  unfold rightI
  simp [argP, valP, highP, h, this]
theorem left_val (b : Bool) (t u v x : Int) (hv : rightB v = true) (hx : rightB x = true) : ∀ i ∈ leftL b t u v x, rightI i = rightI { i with val := 0 } := by
  intro i hi
  simp only [leftL, List.mem_cons, List.not_mem_nil, or_false] at hi
  rcases hi with rfl | rfl | rfl | rfl | rfl | rfl | rfl | rfl | rfl | rfl | rfl
  all_goals first | exact push_val hv | exact push_val hx | rfl | (unfold leftI; split <;> rfl)
theorem leftM_val (u x : Int) (hx : rightB x = true) : ∀ i ∈ leftM u x, rightI i = rightI { i with val := 0 } := by
  intro i hi
  simp only [leftM, List.mem_cons, List.not_mem_nil, or_false] at hi
  rcases hi with rfl | rfl | rfl | rfl | rfl
  all_goals first | exact push_val hx | rfl
theorem left_out (b : Bool) (t u v x : Int) (ht : t = 0 ∨ t = 1 ∨ t = 2 ∨ t = 3) (hu : u = 0 ∨ u = 1 ∨ u = 2 ∨ u = 3) (hv : rightB v = true) (hx : rightB x = true) :
    outX (leftL b t u v x) zWD leftH 100 = (0, ⟨⟨10, [], 0, 0, 0, 0, [], 92⟩, leftH.set u.toNat x, [], [false]⟩) := by
  rw [out_val (left_val b t u v x hv hx)]
  rcases ht with rfl | rfl | rfl | rfl <;> rcases hu with rfl | rfl | rfl | rfl <;> cases b <;> kernel_rfl
theorem leftM_out (u x : Int) (hu : u = 0 ∨ u = 1 ∨ u = 2 ∨ u = 3) (hx : rightB x = true) :
    outX (leftM u x) zWD leftH 100 = (0, ⟨⟨4, [], 0, 0, 0, 0, [], 97⟩, leftH.set u.toNat x, [], []⟩) := by
  rw [out_val (leftM_val u x hx)]
  rcases hu with rfl | rfl | rfl | rfl <;> kernel_rfl

end Go.Proofs.Ytlndbligbpfdpaa
/-
  SpecLeft, WALKED.
-/
namespace Go.Proofs.Ytlndbligbpfdpaa
set_option linter.unusedVariables false
set_option linter.unusedSimpArgs false
open Go.RowKit
attribute [local go_sem] Oper.semAt_some

theorem sp_one {w : World} {ao : Option Addr} {cap : Nat} {l : List Int} (h : VRow w (.slice ao l.length cap) l) (k : Nat) (hk : k < l.length) :
    ∃ g off, ao = some ⟨g, off, none⟩ ∧ g < w.heap.size ∧ w.cell? ⟨g, off + k, none⟩ = some (.int .u64 l[k]) := by
  obtain ⟨g, off, e, hlt, hc⟩ := h.at k hk
  exact ⟨g, off, e, hlt, by simpa using hc 0 (by omega)⟩
set_option maxRecDepth 100000 in
set_option maxHeartbeats 1600000 in
theorem spsame_any (ao bo : Option Addr) (ca cb : Nat) (xs : List Int) (w : World) (hn : xs.length ≤ 1000) (ha : VRow w (.slice ao xs.length ca) xs) (hb : VRow w (.slice bo xs.length cb) xs) :
    Calls Try.prog 16 #[.slice ao xs.length ca, .slice bo xs.length cb] w fun e w' => e = .returned (.bool true) ∧ Touch w w' [] := by
  have HA : Hid (VRow w (.slice ao xs.length ca) xs) := ha
  have HB : Hid (VRow w (.slice bo xs.length cb) xs) := hb
  obtain ⟨n, hN⟩ : ∃ n, n = xs.length := ⟨_, rfl⟩
  have HN : Hid (n = xs.length) := hN
  rw [← hN] at hn ⊢
  clear ha hb hN
  go_enter Try.func16, Try.ntmps16
  go_wp2_with fail
  go_loopw [5] (fun i wr => ∃ k : Nat, i = .int .i64 k ∧ k ≤ n ∧ Touch w wr []) (fun i _ => n - (intOf i).toNat)
  case atStart => exact ⟨0, rfl, Nat.zero_le _, Touch.refl _ _⟩
  case round =>
    obtain ⟨k, rfl, hk, t⟩ := hrel
    by_cases hlt : k < n
    · have h1 : (k : Int) < n := by omega
      have h0 : (0 : Int) ≤ k := by omega
      have hkl : k < xs.length := by rw [← HN.out]; exact hlt
      obtain ⟨ga, oa, rfl, hga, c1⟩ := sp_one (SRow.keep HA.out t (by simp)) k hkl
      obtain ⟨gb, ob, rfl, hgb, c2⟩ := sp_one (SRow.keep HB.out t (by simp)) k hkl
      generalize xs[k] = x at *
      go_wp2_with fail
      go_quiet (fail)
      go_wp2
      go_roundw
      case rel => exact ⟨k + 1, by go_num, by omega, t.drewN _⟩
      case measure => simp [intOf]; omega
    · go_wp2
      go_ret
      exact ⟨rfl, t⟩
theorem Try.und_arr : Try.prog.underlying 26 = some (.array 4 25) := by kernel_rfl
theorem Try.und_val : Try.prog.underlying 25 = some (.int .u64) := by kernel_rfl
set_option maxRecDepth 100000 in
theorem eq4 (a b c d : Int) (w : World) : (Op.equalIn 10000 26 (.agg #[.int .u64 a, .int .u64 b, .int .u64 c, .int .u64 d]) (.agg #[.int .u64 a, .int .u64 b, .int .u64 c, .int .u64 d])).run Try.prog w = .ok true w := by
  obtain ⟨i0, hi, hz0, hz1, hz2⟩ := info_partsE Try.info_val
  have hq : ∀ x : Int, ∀ w : World, (Op.equalIn 9999 25 (.int .u64 x) (.int .u64 x)).run Try.prog w = .ok true w := fun x w => by
    have := run_equalIn_int (P := Try.prog) w 9998 25 .u64 .u64 x x Try.und_val
    simpa using this
  show (Op.equalIn (9999 + 1) _ _ _).run _ _ = _
  rw [Op.equalIn]
  simp only [Sem.run_bind, run_underlying Try.und_arr, Result.andThen_ok, sizeOf, typeInfo, hi, run_program, hz1, Sem.run_pure]
  have hr : List.range' 0 4 = [0, 1, 2, 3] := rfl
  simp [go_sem, part, hi, hz1, sizeOf, typeInfo, hq, hr, isAgg, run_underlying Try.und_val]


theorem sl_wf {x : Int} (h : Wf64 x) : Wf64 ((ofB x.toNat : Nat) : Int) := by
  unfold ofB
  unfold Wf64 at *
  split
  · decide
  · omega
theorem RunP.num {w : World} {D : WD} {H : List Int} {am : List Bool} {n k : Nat} {e : Ending} {w' : World} (h : RunP w D H am e w') (hs : D.st.length = 0) (ho : D.out.length = 0) (hH : H.length = n) (hk : am.length = k) :
    ∃ sa sc oa oc ha hc aa ac, e = .returned (.agg (outA 1 D (.slice sa 0 sc) (.slice oa 0 oc) (.slice ha n hc) (.slice aa k ac) 0)) ∧ VRow w' (.slice ha n hc) H ∧ SRow 1 bcell w' (.slice aa k ac) am ∧ Touch w w' [] := by
  subst hH hk
  obtain ⟨sa, sc, oa, oc, ha, hc, aa, ac, e1, h1, h2, h3⟩ := h
  rw [hs, ho] at e1
  exact ⟨sa, sc, oa, oc, ha, hc, aa, ac, e1, h1, h2, h3⟩
def RunN (w : World) (D : WD) (H : List Int) (am : List Bool) (n k : Nat) (e : Ending) (w' : World) : Prop := ∃ sa sc oa oc ha hc aa ac, e = .returned (.agg (outA 1 D (.slice sa 0 sc) (.slice oa 0 oc) (.slice ha n hc) (.slice aa k ac) 0)) ∧ VRow w' (.slice ha n hc) H ∧ SRow 1 bcell w' (.slice aa k ac) am ∧ Touch w w' []
theorem set4 (u x : Int) : (leftH.set u.toNat x).length = 4 := by simp [leftH]
theorem swfH : SWf zWD leftH := ⟨by simp, by simp, by simp [leftH], fun x hx => (by cases hx), fun x hx => (by simp [leftH] at hx; rcases hx with rfl | rfl | rfl | rfl <;> (unfold Wf64; decide)), wf_zero, wf_zero, wf_zero, wf_zero⟩
theorem leftL_wf (b : Bool) (t u v x : Int) (ht : t = 0 ∨ t = 1 ∨ t = 2 ∨ t = 3) (hu : u = 0 ∨ u = 1 ∨ u = 2 ∨ u = 3) (hv : Wf64 v) (hx : Wf64 x) : ∀ i ∈ leftL b t u v x, i.Wf := by
  intro i hi
  simp only [leftL, List.mem_cons, List.not_mem_nil, or_false] at hi
  rcases hi with rfl | rfl | rfl | rfl | rfl | rfl | rfl | rfl | rfl | rfl | rfl
  all_goals first
    | exact ⟨by simp only; omega, by simp only; omega, hv⟩
    | exact ⟨by simp only; omega, by simp only; omega, hx⟩
    | exact ⟨by simp only; omega, by simp only; omega, wf_zero⟩
    | (cases b <;> exact ⟨by simp [leftI], by show _ ≤ t ∧ t ≤ _; omega, wf_zero⟩)
theorem leftM_wf (u x : Int) (hu : u = 0 ∨ u = 1 ∨ u = 2 ∨ u = 3) (hx : Wf64 x) : ∀ i ∈ leftM u x, i.Wf := by
  intro i hi
  simp only [leftM, List.mem_cons, List.not_mem_nil, or_false] at hi
  rcases hi with rfl | rfl | rfl | rfl | rfl
  all_goals first
    | exact ⟨by simp only; omega, by simp only; omega, hx⟩
    | exact ⟨by simp only; omega, by simp only; omega, wf_zero⟩

end Go.Proofs.Ytlndbligbpfdpaa
/-
  SpecNothing: the State that it is cut to.
-/
namespace Go.Proofs.Ytlndbligbpfdpaa
set_option linter.unusedVariables false
set_option linter.unusedSimpArgs false
open Go.RowKit
attribute [local go_sem] Oper.semAt_some

set_option maxRecDepth 100000 in
set_option maxHeartbeats 2000000 in
theorem spstate_any (D : WD) (sa oa : Option Addr) (ns sc no oc : Nat) (h1 : ns ≤ sc) (h2 : sc ≤ 9223372036854775807) (h3 : no ≤ oc) (h4 : oc ≤ 9223372036854775807) (w : World) : Calls Try.prog 10 #[stV D (.slice sa ns sc) (.slice oa no oc)] w fun e w' => e = .returned (stV D (.slice sa (cutN 20 ns) sc) (.slice oa (cutN 30 no) oc)) ∧ Touch w w' [] := by
  by_cases hA : 20 < ns <;> by_cases hB : 30 < no
  · have e1 : cutN 20 ns = 20 := by unfold cutN; rw [if_pos (by omega)]
    have e2 : cutN 30 no = 30 := by unfold cutN; rw [if_pos (by omega)]
    rw [e1, e2]
    have g1 : (20 : Int) < ns := by omega
    have g2 : (30 : Int) < no := by omega
    have g3 : (20 : Int) ≤ sc := by omega
    have g4 : 20 ≤ sc := by omega
    have g5 : (30 : Int) ≤ oc := by omega
    have g6 : 30 ≤ oc := by omega
    clear e1 e2
    go_enter Try.func10, Try.ntmps10
    go_wp2
    refine bodyPost_ret (v := stV D (.slice sa 20 sc) (.slice oa 30 oc)) ?_ rfl ⟨rfl, ((Touch.refl w []).alloc _).alloc _⟩
    rw [res_cell rfl]
    go_simp
  · have e1 : cutN 20 ns = 20 := by unfold cutN; rw [if_pos (by omega)]
    have e2 : cutN 30 no = no := by unfold cutN; rw [if_neg (by omega)]
    rw [e1, e2]
    have g1 : (20 : Int) < ns := by omega
    have g2 : ¬ (30 : Int) < no := by omega
    have g3 : (20 : Int) ≤ sc := by omega
    have g4 : 20 ≤ sc := by omega
    clear e1 e2
    go_enter Try.func10, Try.ntmps10
    go_wp2
    refine bodyPost_ret (v := stV D (.slice sa 20 sc) (.slice oa no oc)) ?_ rfl ⟨rfl, ((Touch.refl w []).alloc _).alloc _⟩
    rw [res_cell rfl]
    go_simp
  · have e1 : cutN 20 ns = ns := by unfold cutN; rw [if_neg (by omega)]
    have e2 : cutN 30 no = 30 := by unfold cutN; rw [if_pos (by omega)]
    rw [e1, e2]
    have g1 : ¬ (20 : Int) < ns := by omega
    have g2 : (30 : Int) < no := by omega
    have g5 : (30 : Int) ≤ oc := by omega
    have g6 : 30 ≤ oc := by omega
    clear e1 e2
    go_enter Try.func10, Try.ntmps10
    go_wp2
    refine bodyPost_ret (v := stV D (.slice sa ns sc) (.slice oa 30 oc)) ?_ rfl ⟨rfl, ((Touch.refl w []).alloc _).alloc _⟩
    rw [res_cell rfl]
    go_simp
  · have e1 : cutN 20 ns = ns := by unfold cutN; rw [if_neg (by omega)]
    have e2 : cutN 30 no = no := by unfold cutN; rw [if_neg (by omega)]
    rw [e1, e2]
    have g1 : ¬ (20 : Int) < ns := by omega
    have g2 : ¬ (30 : Int) < no := by omega
    clear e1 e2
    go_enter Try.func10, Try.ntmps10
    go_wp2
    refine bodyPost_ret (v := stV D (.slice sa ns sc) (.slice oa no oc)) ?_ rfl ⟨rfl, ((Touch.refl w []).alloc _).alloc _⟩
    rw [res_cell rfl]
    go_simp

set_option maxRecDepth 100000 in
set_option maxHeartbeats 2000000 in
theorem spsames_any (D : WD) (sa oa sa' oa' : Option Addr) (sc oc sc' oc' : Nat) (hs : D.st.length ≤ 1000) (ho : D.out.length ≤ 1000) (w : World) (r1 : VRow w (.slice sa D.st.length sc) D.st) (r2 : VRow w (.slice oa D.out.length oc) D.out) (r3 : VRow w (.slice sa' D.st.length sc') D.st) (r4 : VRow w (.slice oa' D.out.length oc') D.out) :
    Calls Try.prog 13 #[stV D (.slice sa D.st.length sc) (.slice oa D.out.length oc), stV D (.slice sa' D.st.length sc') (.slice oa' D.out.length oc')] w fun e w' => e = .returned (.bool true) ∧ Touch w w' [] := by
  have T0 : Hid (Touch w ((w.alloc (.cells #[.int .i64 D.pc, .slice sa D.st.length sc, .int .u64 D.l0, .int .u64 D.l1, .int .u64 D.l2, .int .u64 D.l3, .slice oa D.out.length oc] 28)).alloc (.cells #[.int .i64 D.pc, .slice sa' D.st.length sc', .int .u64 D.l0, .int .u64 D.l1, .int .u64 D.l2, .int .u64 D.l3, .slice oa' D.out.length oc'] 28)) []) := ((Touch.refl w []).alloc _).alloc _
  have HS : Hid (∀ W, Touch w W [] → HidC _ _ _ _ _) := fun W t => ⟨spsame_any sa sa' sc sc' D.st W hs (SRow.keep r1 t (by simp)) (SRow.keep r3 t (by simp))⟩
  have HO : Hid (∀ W, Touch w W [] → HidC _ _ _ _ _) := fun W t => ⟨spsame_any oa oa' oc oc' D.out W ho (SRow.keep r2 t (by simp)) (SRow.keep r4 t (by simp))⟩
  have heq := eq4 D.l0 D.l1 D.l2 D.l3
  have hx : Hid (∀ W, Touch ((w.alloc (.cells #[.int .i64 D.pc, .slice sa D.st.length sc, .int .u64 D.l0, .int .u64 D.l1, .int .u64 D.l2, .int .u64 D.l3, .slice oa D.out.length oc] 28)).alloc (.cells #[.int .i64 D.pc, .slice sa' D.st.length sc', .int .u64 D.l0, .int .u64 D.l1, .int .u64 D.l2, .int .u64 D.l3, .slice oa' D.out.length oc'] 28)) W [] → W.heap[w.heap.size]? = some (.cells #[.int .i64 D.pc, .slice sa D.st.length sc, .int .u64 D.l0, .int .u64 D.l1, .int .u64 D.l2, .int .u64 D.l3, .slice oa D.out.length oc] 28 (0, 0)) ∧ W.heap[w.heap.size + 1]? = some (.cells #[.int .i64 D.pc, .slice sa' D.st.length sc', .int .u64 D.l0, .int .u64 D.l1, .int .u64 D.l2, .int .u64 D.l3, .slice oa' D.out.length oc'] 28 (0, 0))) := fun W t => by
    have h1 : ((w.alloc (.cells #[.int .i64 D.pc, .slice sa D.st.length sc, .int .u64 D.l0, .int .u64 D.l1, .int .u64 D.l2, .int .u64 D.l3, .slice oa D.out.length oc] 28)).alloc (.cells #[.int .i64 D.pc, .slice sa' D.st.length sc', .int .u64 D.l0, .int .u64 D.l1, .int .u64 D.l2, .int .u64 D.l3, .slice oa' D.out.length oc'] 28)).heap[w.heap.size]? = some (.cells #[.int .i64 D.pc, .slice sa D.st.length sc, .int .u64 D.l0, .int .u64 D.l1, .int .u64 D.l2, .int .u64 D.l3, .slice oa D.out.length oc] 28 (0, 0)) := (heap_alloc_old _ _ (by simp)).trans (heap_alloc_new w _)
    have h2 : ((w.alloc (.cells #[.int .i64 D.pc, .slice sa D.st.length sc, .int .u64 D.l0, .int .u64 D.l1, .int .u64 D.l2, .int .u64 D.l3, .slice oa D.out.length oc] 28)).alloc (.cells #[.int .i64 D.pc, .slice sa' D.st.length sc', .int .u64 D.l0, .int .u64 D.l1, .int .u64 D.l2, .int .u64 D.l3, .slice oa' D.out.length oc'] 28)).heap[w.heap.size + 1]? = some (.cells #[.int .i64 D.pc, .slice sa' D.st.length sc', .int .u64 D.l0, .int .u64 D.l1, .int .u64 D.l2, .int .u64 D.l3, .slice oa' D.out.length oc'] 28 (0, 0)) := by have := heap_alloc_new (w.alloc (.cells #[.int .i64 D.pc, .slice sa D.st.length sc, .int .u64 D.l0, .int .u64 D.l1, .int .u64 D.l2, .int .u64 D.l3, .slice oa D.out.length oc] 28)) (.cells #[.int .i64 D.pc, .slice sa' D.st.length sc', .int .u64 D.l0, .int .u64 D.l1, .int .u64 D.l2, .int .u64 D.l3, .slice oa' D.out.length oc'] 28); simpa using this
    exact ⟨(t.block _ (lt_of_heap h1) (by simp)).trans h1, (t.block _ (lt_of_heap h2) (by simp)).trans h2⟩
  clear hs ho r1 r2 r3 r4
  generalize D.st.length = ns at *
  generalize D.out.length = no at *
  go_enter Try.func13, Try.ntmps13
  go_wp2_with fail
  generalize ((w.alloc (.cells #[.int .i64 D.pc, .slice sa ns sc, .int .u64 D.l0, .int .u64 D.l1, .int .u64 D.l2, .int .u64 D.l3, .slice oa no oc] 28)).alloc (.cells #[.int .i64 D.pc, .slice sa' ns sc', .int .u64 D.l0, .int .u64 D.l1, .int .u64 D.l2, .int .u64 D.l3, .slice oa' no oc'] 28)) = Q at *
  refine (HS.out _ T0.out).out.mono ?_
  rintro e w1 ⟨rfl, t1⟩
  obtain ⟨k1, k2⟩ := hx.out _ t1
  have c6 : w1.cell? ⟨w.heap.size, 6, none⟩ = some (.slice oa no oc) := by unfold World.cell?; rw [k1]; rfl
  have d6 : w1.cell? ⟨w.heap.size + 1, 6, none⟩ = some (.slice oa' no oc') := by unfold World.cell?; rw [k2]; rfl
  have T1 : Hid _ := T0.out.trans t1 (by simp)
  clear k1 k2 t1 HS hx T0
  go_wp2_with fail
  refine (HO.out _ T1.out).out.mono ?_
  rintro e w2 ⟨rfl, t2⟩
  have T2 : Hid _ := T1.out.trans t2 (by simp)
  clear t2 HO T1 c6 d6
  go_wp2
  go_ret
  exact ⟨rfl, T2.out⟩

end Go.Proofs.Ytlndbligbpfdpaa
/-
  SpecNothing's ARGUMENTS: a State by value.
-/
namespace Go.Proofs.Ytlndbligbpfdpaa
set_option linter.unusedVariables false
set_option linter.unusedSimpArgs false
set_option maxRecDepth 100000
open Go.ChangeShapes Go.WideShapes Go.ChangeAt Go.RowKit Go.Joins Go.Deep

theorem Try.own : ownKnob Try.prog.godebug = none := by kernel_rfl
theorem Try.laidOut : laidOutB Try.prog = true := by kernel_rfl
theorem Try.cells_ins : Try.prog.cellsOf 48 = 3 := by kernel_rfl
theorem Try.cells_op : Try.prog.cellsOf 46 = 1 := by kernel_rfl
theorem Try.cells_int0 : Try.prog.cellsOf 3 = 1 := by kernel_rfl
theorem Try.cells_val : Try.prog.cellsOf 25 = 1 := by kernel_rfl
theorem Try.cells_vals : Try.prog.cellsOf 23 = 1 := by kernel_rfl
theorem Try.cells_four : Try.prog.cellsOf 26 = 4 := by kernel_rfl
theorem Try.cells_st : Try.prog.cellsOf 28 = 7 := by kernel_rfl
theorem vwf_u64 {n : Int} (h : (Lit.int .u64 n).wf = true) : Wf64 n := by
  simp [Lit.wf, IntKind.min, IntKind.max, IntKind.signed, IntKind.bits] at h
  unfold Wf64
  omega

theorem vins_of_trod {H : Type} {enc : TypeId × Value → H} {w : World} {base : Nat} {spare : Nat → Bool} {held : Bool} {fuel : Nat} {cs : List Value} {x : DataW H × List MemPlace} (h : DataW.trod enc Try.prog w base spare held fuel 48 cs = some x) :
    ∃ o : InsD, o.Wf ∧ cs = o.cells := by
  obtain ⟨y0, y1, y2, n, _, hl, h0, h1, h2⟩ := trod_struct3 Try.underlying48 h
  rw [Try.cells_ins] at hl
  have hl3 : cs.length = 3 := hl
  clear hl
  match cs, hl3 with
  | [c0, c1, c2], _ =>
    simp only [Try.cells_op, Try.cells_int0, Try.cells_val, List.drop_zero, List.drop_succ_cons, List.take_succ_cons, List.take_zero] at h0 h1 h2
    obtain ⟨k, e0, _, wk⟩ := DataW.trod_int Try.underlying46 h0
    obtain ⟨c, e1, _, wc⟩ := DataW.trod_int Try.underlying3 h1
    obtain ⟨a, e2, _, wa⟩ := DataW.trod_int Try.underlying25 h2
    simp at e0 e1 e2
    subst e0 e1 e2
    simp [Lit.wf, IntKind.min, IntKind.max, IntKind.signed, IntKind.bits] at wk wc wa
    exact ⟨⟨k, c, a⟩, ⟨by simp only; omega, by simp only; omega, by unfold Wf64; simp only; omega⟩, rfl⟩
theorem vinss_of_trod {H : Type} {enc : TypeId × Value → H} {W : World} {ao : Option Addr} {len cap : Nat} {d : DataW H} {p : List MemPlace} (h : DataW.Trod enc Try.prog W 0 (fun _ => true) true 22 (.slice ao len cap) d p) :
    ∃ l : List InsD, InsRow W (.slice ao len cap) l ∧ (∀ o ∈ l, o.Wf) ∧ l.length ≤ maxLen :=
  rows_of_trod (α := InsD) (n := 3) (cells := InsD.cells) (Wf := InsD.Wf) ⟨0, 0, 0⟩ (by decide) (fun _ => rfl) Try.underlying22 Try.cells_ins (fun h => vins_of_trod h) h
theorem fval_of_trod {H : Type} {enc : TypeId × Value → H} {w : World} {base : Nat} {spare : Nat → Bool} {held : Bool} {fuel : Nat} {cs : List Value} {x : DataW H × List MemPlace} (h : DataW.trod enc Try.prog w base spare held fuel 25 cs = some x) :
    ∃ o : Int, Wf64 o ∧ cs = vcell o := by
  obtain ⟨k, e0, _, wk⟩ := DataW.trod_int Try.underlying25 h
  exact ⟨k, vwf_u64 wk, e0⟩
theorem fvals_of_trod {H : Type} {enc : TypeId × Value → H} {W : World} {ao : Option Addr} {len cap : Nat} {d : DataW H} {p : List MemPlace} (h : DataW.Trod enc Try.prog W 0 (fun _ => true) true 23 (.slice ao len cap) d p) :
    ∃ l : List Int, VRow W (.slice ao len cap) l ∧ (∀ o ∈ l, Wf64 o) ∧ l.length ≤ maxLen :=
  rows_of_trod (α := Int) (n := 1) (cells := vcell) (Wf := Wf64) 0 (by decide) (fun _ => rfl) Try.underlying23 Try.cells_val (fun h => fval_of_trod h) h

/-- A slice of values that is a field. -/
theorem fcell_of_trod {H : Type} {enc : TypeId × Value → H} {W : World} {fuel : Nat} {c : Value} {x : DataW H × List MemPlace} (h : DataW.trod enc Try.prog W 0 (fun _ => true) true fuel 23 [c] = some x) :
    ∃ (ao : Option Addr) (l : List Int) (cap : Nat), c = .slice ao l.length cap ∧ VRow W (.slice ao l.length cap) l ∧ (∀ o ∈ l, Wf64 o) ∧ l.length ≤ cap ∧ cap ≤ maxLen := by
  obtain ⟨ao, len, cap, rfl, hlc, hcm⟩ : ∃ (ao : Option Addr) (len cap : Nat), c = .slice ao len cap ∧ len ≤ cap ∧ cap ≤ maxLen := by
    rcases DataW.trod_slice Try.underlying23 h with ⟨hcs, _⟩ | ⟨a, len, cap, _, _, _, _, hcs, _, _, h1, h2, _⟩
    · simp at hcs
      exact ⟨none, 0, 0, hcs, Nat.le_refl _, Nat.zero_le _⟩
    · simp at hcs
      exact ⟨some a, len, cap, hcs, h1, h2⟩
  have hT : DataW.Trod enc Try.prog W 0 (fun _ => true) true 23 (.slice ao len cap) x.1 x.2 := ⟨fuel, by simpa [Value.cells] using h⟩
  obtain ⟨l, hr, hw, _⟩ := fvals_of_trod hT
  have hlen : len = l.length := by obtain ⟨_, _, e, _⟩ := hr; simp only [Value.slice.injEq] at e; exact e.2.1
  subst hlen
  exact ⟨ao, l, cap, rfl, hr, hw, hlc, hcm⟩
theorem four_of_trod {H : Type} {enc : TypeId × Value → H} {W : World} {fuel : Nat} {c0 c1 c2 c3 : Value} {x : DataW H × List MemPlace} (h : DataW.trod enc Try.prog W 0 (fun _ => true) true fuel 26 [c0, c1, c2, c3] = some x) :
    ∃ n0 n1 n2 n3 : Int, c0 = .int .u64 n0 ∧ c1 = .int .u64 n1 ∧ c2 = .int .u64 n2 ∧ c3 = .int .u64 n3 ∧ Wf64 n0 ∧ Wf64 n1 ∧ Wf64 n2 ∧ Wf64 n3 := by
  obtain ⟨xs, m, _, _, _, hlen, hx⟩ := DataW.trod_array Try.underlying26 h
  rw [Try.cells_val] at hx
  have key : ∀ i, i < 4 → ∃ n : Int, (([c0, c1, c2, c3].drop (i * 1)).take 1) = [.int .u64 n] ∧ Wf64 n := fun i hi => by
    have h1 := hx i hi
    obtain ⟨y, hy⟩ : ∃ y, xs[i]? = some y := ⟨xs[i], List.getElem?_eq_getElem (by omega)⟩
    rw [hy] at h1
    obtain ⟨k, e0, _, wk⟩ := DataW.trod_int Try.underlying25 h1
    exact ⟨k, e0, vwf_u64 wk⟩
  obtain ⟨n0, e0, w0⟩ := key 0 (by omega)
  obtain ⟨n1, e1, w1⟩ := key 1 (by omega)
  obtain ⟨n2, e2, w2⟩ := key 2 (by omega)
  obtain ⟨n3, e3, w3⟩ := key 3 (by omega)
  simp at e0 e1 e2 e3
  exact ⟨n0, n1, n2, n3, e0, e1, e2, e3, w0, w1, w2, w3⟩
theorem array7 {α : Type} {cs : Array α} (h : cs.size = 7) : ∃ c0 c1 c2 c3 c4 c5 c6, cs = #[c0, c1, c2, c3, c4, c5, c6] := by
  obtain ⟨l⟩ := cs
  match l, h with
  | [c0, c1, c2, c3, c4, c5, c6], _ => exact ⟨c0, c1, c2, c3, c4, c5, c6, rfl⟩
theorem vwf_i64 {n : Int} (h : (Lit.int .i64 n).wf = true) : -9223372036854775808 ≤ n ∧ n ≤ 9223372036854775807 := by
  simp [Lit.wf, IntKind.min, IntKind.max, IntKind.signed, IntKind.bits] at h
  omega

/-- What a State holds, as data. -/
structure StOk (W : World) (D : WD) (sa oa : Option Addr) (sc oc : Nat) : Prop where
  pc : -9223372036854775808 ≤ D.pc ∧ D.pc ≤ 9223372036854775807
  st : VRow W (.slice sa D.st.length sc) D.st
  out : VRow W (.slice oa D.out.length oc) D.out
  ws : ∀ x ∈ D.st, Wf64 x
  wo : ∀ x ∈ D.out, Wf64 x
  l0 : Wf64 D.l0
  l1 : Wf64 D.l1
  l2 : Wf64 D.l2
  l3 : Wf64 D.l3
  cs : D.st.length ≤ sc ∧ sc ≤ 9223372036854775807
  co : D.out.length ≤ oc ∧ oc ≤ 9223372036854775807
theorem state_of_trod {H : Type} {enc : TypeId × Value → H} {W : World} {r : Reach} {b0 : Nat} {v : Value} {d : DataW H} {p : List MemPlace} (hv : Value.okWide Try.prog W r b0 28 v) (h : DataW.Trod enc Try.prog W 0 (fun _ => true) true 28 v d p) :
    ∃ (D : WD) (sa oa : Option Addr) (sc oc : Nat), v = stV D (.slice sa D.st.length sc) (.slice oa D.out.length oc) ∧ StOk W D sa oa sc oc := by
  obtain ⟨cs, rfl, hsz⟩ := okWide_struct Try.underlying28 hv
  obtain ⟨c0, c1, c2, c3, c4, c5, c6, rfl⟩ := array7 (hsz.trans Try.cells_st)
  obtain ⟨fuel, hf⟩ := h
  obtain ⟨y0, y1, y2, y3, n, _, _, h0, h1, h2, h3⟩ := trod_struct4 Try.underlying28 hf
  simp only [Try.cells_int0, Try.cells_vals, Try.cells_four, Value.cells, List.drop_zero, List.drop_succ_cons, List.take_succ_cons, List.take_zero] at h0 h1 h2 h3
  obtain ⟨k, e0, _, wk⟩ := DataW.trod_int Try.underlying3 h0
  simp at e0
  subst e0
  obtain ⟨sa, st, sc, rfl, r1, w1, a1, b1⟩ := fcell_of_trod h1
  obtain ⟨n0, n1, n2, n3, rfl, rfl, rfl, rfl, z0, z1, z2, z3⟩ := four_of_trod h2
  obtain ⟨oa, out, oc, rfl, r2, w2, a2, b2⟩ := fcell_of_trod h3
  unfold maxLen at b1 b2
  exact ⟨⟨k, st, n0, n1, n2, n3, out, 0⟩, sa, oa, sc, oc, rfl, vwf_i64 wk, r1, r2, w1, w2, z0, z1, z2, z3, ⟨a1, by omega⟩, ⟨a2, by omega⟩⟩

theorem cut_len {α : Type} (k : Nat) (l : List α) : (l.take k).length = cutN k l.length := by
  unfold cutN
  rw [List.length_take]
  split <;> omega

end Go.Proofs.Ytlndbligbpfdpaa
