/-
  package code: Right BY ITS CONTRACT.
-/
import Derived.Test.YtlndbligbpfdpaaAllA
import Derived.ProofKit
import Derived.Lib.SmallJoins
import Derived.Deep.Slices
import Derived.ChangeOld
import Derived.Maps.AppendAt
import Derived.Deep.AppendLies
import Derived.Laws.OwnMore
import Derived.Lib.AppendZeros
import Derived.Deep.QuietTactic
import Derived.BigQuiet
import Derived.Deep.RegionHeld3
import Derived.Deep.RegionLaw
import Derived.Lib.SliceRun
namespace Go.Proofs.Ytlndbligbpfdpaa
set_option linter.unusedVariables false
set_option linter.unusedSimpArgs false
open Go.RowKit
attribute [local go_sem] Oper.semAt_some

set_option maxRecDepth 100000 in
set_option maxHeartbeats 1000000 in
theorem cr_ok (o a v hi : Int) (ap vp rv : Bool) (w : World) (h28 : ¬ 28 < o) (h0 : 0 ≤ a) (h1 : a ≤ hi) (hA : ap = true ∨ a = 0) (hV : vp = true ∨ v = 0)
    (hu : HidC Try.prog 82 #[.int .u8 o] (w.alloc (.cells #[.int .u8 o, .int .i64 a, .int .u64 v] 48)) fun e w' => e = .returned (.tuple #[.bool ap, .bool vp]) ∧ (w.alloc (.cells #[.int .u8 o, .int .i64 a, .int .u64 v] 48)) = w')
    (HH : Hid (∀ W, HidC Try.prog 83 #[.int .u8 o] W fun e w' => e = .returned (.int .i64 hi) ∧ W = w')) (HR : Hid (∀ W, HidC Try.prog 84 #[.int .u64 v] W fun e w' => e = .returned (.bool rv) ∧ W = w')) :
    Calls Try.prog 66 #[.agg #[.int .u8 o, .int .i64 a, .int .u64 v]] w fun e w' => e = .returned (.bool rv) ∧ Touch w w' [] := by
  have HT : Hid (Touch w (w.alloc (.cells #[.int .u8 o, .int .i64 a, .int .u64 v] 48)) []) := (Touch.refl w []).alloc _
  have D0 : (w.alloc (.cells #[.int .u8 o, .int .i64 a, .int .u64 v] 48)).drew.cell? ⟨w.heap.size, 0, none⟩ = some (.int .u8 o) ∧ (w.alloc (.cells #[.int .u8 o, .int .i64 a, .int .u64 v] 48)).drew.cell? ⟨w.heap.size, 1, none⟩ = some (.int .i64 a) ∧ (w.alloc (.cells #[.int .u8 o, .int .i64 a, .int .u64 v] 48)).drew.cell? ⟨w.heap.size, 2, none⟩ = some (.int .u64 v) := by
    have hb : (w.alloc (.cells #[.int .u8 o, .int .i64 a, .int .u64 v] 48)).drew.heap[w.heap.size]? = some (.cells #[.int .u8 o, .int .i64 a, .int .u64 v] 48 (0, 0)) := heap_alloc_new w _
    exact ⟨by unfold World.cell?; rw [hb]; rfl, by unfold World.cell?; rw [hb]; rfl, by unfold World.cell?; rw [hb]; rfl⟩
  have hA2 : ap = true ∨ (ap = false ∧ a = 0) := by cases ap <;> simp_all
  have hV2 : vp = true ∨ (vp = false ∧ v = 0) := by cases vp <;> simp_all
  clear hA hV
  rcases hA2 with rfl | ⟨rfl, ha⟩ <;> rcases hV2 with rfl | ⟨rfl, hv⟩
  · have hx := True.intro
    go_enter Try.func66, Try.ntmps66
    go_wp2_with fail
    refine hu.out.mono ?_
    rintro e w1 ⟨rfl, rfl⟩
    clear hu
    go_wp2_with fail
    go_region_held3 (fun w' => w'.cell? ⟨w.heap.size, 0, none⟩ = some (.int .u8 o) ∧ w'.cell? ⟨w.heap.size, 1, none⟩ = some (.int .i64 a) ∧ w'.cell? ⟨w.heap.size, 2, none⟩ = some (.int .u64 v)) (exact D0) (first
      | (go_at_call 83; refine (HH.out _).out.mono ?_; rintro e w2 ⟨rfl, rfl⟩)
      | (go_at_call 84; refine (HR.out _).out.mono ?_; rintro e w2 ⟨rfl, rfl⟩))
    go_wp2
    go_ret
    exact ⟨by simp, HT.out.drew⟩
  · have hx := True.intro
    have ev : (v != 0) = false := by simp [hv]
    clear hv
    go_enter Try.func66, Try.ntmps66
    go_wp2_with fail
    refine hu.out.mono ?_
    rintro e w1 ⟨rfl, rfl⟩
    clear hu
    go_wp2_with fail
    go_region_held3 (fun w' => w'.cell? ⟨w.heap.size, 0, none⟩ = some (.int .u8 o) ∧ w'.cell? ⟨w.heap.size, 1, none⟩ = some (.int .i64 a) ∧ w'.cell? ⟨w.heap.size, 2, none⟩ = some (.int .u64 v)) (exact D0) (first
      | (go_at_call 83; refine (HH.out _).out.mono ?_; rintro e w2 ⟨rfl, rfl⟩)
      | (go_at_call 84; refine (HR.out _).out.mono ?_; rintro e w2 ⟨rfl, rfl⟩))
    go_wp2
    go_ret
    exact ⟨by simp, HT.out.drew⟩
  · have hx := True.intro
    have ea : (a != 0) = false := by simp [ha]
    clear ha
    go_enter Try.func66, Try.ntmps66
    go_wp2_with fail
    refine hu.out.mono ?_
    rintro e w1 ⟨rfl, rfl⟩
    clear hu
    go_wp2_with fail
    go_region_held3 (fun w' => w'.cell? ⟨w.heap.size, 0, none⟩ = some (.int .u8 o) ∧ w'.cell? ⟨w.heap.size, 1, none⟩ = some (.int .i64 a) ∧ w'.cell? ⟨w.heap.size, 2, none⟩ = some (.int .u64 v)) (exact D0) (first
      | (go_at_call 83; refine (HH.out _).out.mono ?_; rintro e w2 ⟨rfl, rfl⟩)
      | (go_at_call 84; refine (HR.out _).out.mono ?_; rintro e w2 ⟨rfl, rfl⟩))
    go_wp2
    go_ret
    exact ⟨by simp, HT.out.drew⟩
  · have hx := True.intro
    have ea : (a != 0) = false := by simp [ha]
    have ev : (v != 0) = false := by simp [hv]
    clear ha
    clear hv
    go_enter Try.func66, Try.ntmps66
    go_wp2_with fail
    refine hu.out.mono ?_
    rintro e w1 ⟨rfl, rfl⟩
    clear hu
    go_wp2_with fail
    go_region_held3 (fun w' => w'.cell? ⟨w.heap.size, 0, none⟩ = some (.int .u8 o) ∧ w'.cell? ⟨w.heap.size, 1, none⟩ = some (.int .i64 a) ∧ w'.cell? ⟨w.heap.size, 2, none⟩ = some (.int .u64 v)) (exact D0) (first
      | (go_at_call 83; refine (HH.out _).out.mono ?_; rintro e w2 ⟨rfl, rfl⟩)
      | (go_at_call 84; refine (HR.out _).out.mono ?_; rintro e w2 ⟨rfl, rfl⟩))
    go_wp2
    go_ret
    exact ⟨by simp, HT.out.drew⟩

set_option maxRecDepth 100000 in
set_option maxHeartbeats 1000000 in
theorem cr_hi (o a v hi : Int) (ap vp rv : Bool) (w : World) (h28 : ¬ 28 < o) (h0 : 0 ≤ a) (h1 : ¬ a ≤ hi) (hA : ap = true ∨ a = 0) (hV : vp = true ∨ v = 0)
    (hu : HidC Try.prog 82 #[.int .u8 o] (w.alloc (.cells #[.int .u8 o, .int .i64 a, .int .u64 v] 48)) fun e w' => e = .returned (.tuple #[.bool ap, .bool vp]) ∧ (w.alloc (.cells #[.int .u8 o, .int .i64 a, .int .u64 v] 48)) = w')
    (HH : Hid (∀ W, HidC Try.prog 83 #[.int .u8 o] W fun e w' => e = .returned (.int .i64 hi) ∧ W = w')) (HR : Hid (∀ W, HidC Try.prog 84 #[.int .u64 v] W fun e w' => e = .returned (.bool rv) ∧ W = w')) :
    Calls Try.prog 66 #[.agg #[.int .u8 o, .int .i64 a, .int .u64 v]] w fun e w' => e = .returned (.bool false) ∧ Touch w w' [] := by
  have HT : Hid (Touch w (w.alloc (.cells #[.int .u8 o, .int .i64 a, .int .u64 v] 48)) []) := (Touch.refl w []).alloc _
  have D0 : (w.alloc (.cells #[.int .u8 o, .int .i64 a, .int .u64 v] 48)).drew.cell? ⟨w.heap.size, 0, none⟩ = some (.int .u8 o) ∧ (w.alloc (.cells #[.int .u8 o, .int .i64 a, .int .u64 v] 48)).drew.cell? ⟨w.heap.size, 1, none⟩ = some (.int .i64 a) ∧ (w.alloc (.cells #[.int .u8 o, .int .i64 a, .int .u64 v] 48)).drew.cell? ⟨w.heap.size, 2, none⟩ = some (.int .u64 v) := by
    have hb : (w.alloc (.cells #[.int .u8 o, .int .i64 a, .int .u64 v] 48)).drew.heap[w.heap.size]? = some (.cells #[.int .u8 o, .int .i64 a, .int .u64 v] 48 (0, 0)) := heap_alloc_new w _
    exact ⟨by unfold World.cell?; rw [hb]; rfl, by unfold World.cell?; rw [hb]; rfl, by unfold World.cell?; rw [hb]; rfl⟩
  have hA2 : ap = true ∨ (ap = false ∧ a = 0) := by cases ap <;> simp_all
  have hV2 : vp = true ∨ (vp = false ∧ v = 0) := by cases vp <;> simp_all
  clear hA hV
  rcases hA2 with rfl | ⟨rfl, ha⟩ <;> rcases hV2 with rfl | ⟨rfl, hv⟩
  · have hx := True.intro
    go_enter Try.func66, Try.ntmps66
    go_wp2_with fail
    refine hu.out.mono ?_
    rintro e w1 ⟨rfl, rfl⟩
    clear hu
    go_wp2_with fail
    refine wp_region_held_drew (S := (fun w' : World => w'.cell? ⟨w.heap.size, 0, none⟩ = some (.int .u8 o) ∧ w'.cell? ⟨w.heap.size, 1, none⟩ = some (.int .i64 a) ∧ w'.cell? ⟨w.heap.size, 2, none⟩ = some (.int .u64 v))) (by kernel_rfl) D0 (fun hHeld => ?_)
    try simp only [Act.put, List.getElem_toArray, List.getElem_cons_succ, List.getElem_cons_zero, List.setIfInBounds_toArray, List.set_cons_zero, List.set_cons_succ]
    refine wpAnyH_take (i := 0) (v := (.pointer (some ⟨w.heap.size, 1, none⟩))) rfl (by kernel_rfl) (by kernel_rfl) (by kernel_rfl) (fun _ _ _ h => h) (Or.inl ⟨by rfl, ?_⟩) hHeld ?_
    · intro w' hSw
      go_simp
    try simp only [Act.put, List.getElem_toArray, List.getElem_cons_succ, List.getElem_cons_zero, List.setIfInBounds_toArray, List.set_cons_zero, List.set_cons_succ]
    refine wpAnyH_take (i := 1) (v := (.int .i64 a)) rfl (by kernel_rfl) (by kernel_rfl) (by kernel_rfl) (fun _ _ _ h => h) (Or.inl ⟨by rfl, ?_⟩) hHeld ?_
    · intro w' hSw
      go_simp
    try simp only [Act.put, List.getElem_toArray, List.getElem_cons_succ, List.getElem_cons_zero, List.setIfInBounds_toArray, List.set_cons_zero, List.set_cons_succ]
    refine wpAnyH_take (i := 2) (v := (.bool true)) rfl (by kernel_rfl) (by kernel_rfl) (by kernel_rfl) (fun _ _ _ h => h) (Or.inl ⟨by rfl, ?_⟩) hHeld ?_
    · intro w' hSw
      go_simp
    try simp only [Act.put, List.getElem_toArray, List.getElem_cons_succ, List.getElem_cons_zero, List.setIfInBounds_toArray, List.set_cons_zero, List.set_cons_succ]
    refine wpAnyH_take (i := 3) (v := (.bool true)) rfl (by kernel_rfl) (by kernel_rfl) (by kernel_rfl) (fun _ _ _ h => h) (Or.inl ⟨by rfl, ?_⟩) hHeld ?_
    · intro w' hSw
      go_simp
    try simp only [Act.put, List.getElem_toArray, List.getElem_cons_succ, List.getElem_cons_zero, List.setIfInBounds_toArray, List.set_cons_zero, List.set_cons_succ]
    refine wpAnyH_take (i := 4) (v := (.pointer (some ⟨w.heap.size, 1, none⟩))) rfl (by kernel_rfl) (by kernel_rfl) (by kernel_rfl) (fun _ _ _ h => h) (Or.inl ⟨by rfl, ?_⟩) hHeld ?_
    · intro w' hSw
      go_simp
    try simp only [Act.put, List.getElem_toArray, List.getElem_cons_succ, List.getElem_cons_zero, List.setIfInBounds_toArray, List.set_cons_zero, List.set_cons_succ]
    refine wpAnyH_take (i := 5) (v := (.int .i64 a)) rfl (by kernel_rfl) (by kernel_rfl) (by kernel_rfl) (fun _ _ _ h => h) (Or.inl ⟨by rfl, ?_⟩) hHeld ?_
    · intro w' hSw
      go_simp
    try simp only [Act.put, List.getElem_toArray, List.getElem_cons_succ, List.getElem_cons_zero, List.setIfInBounds_toArray, List.set_cons_zero, List.set_cons_succ]
    refine wpAnyH_take (i := 6) (v := (.pointer (some ⟨w.heap.size, 0, none⟩))) rfl (by kernel_rfl) (by kernel_rfl) (by kernel_rfl) (fun _ _ _ h => h) (Or.inl ⟨by rfl, ?_⟩) hHeld ?_
    · intro w' hSw
      go_simp
    try simp only [Act.put, List.getElem_toArray, List.getElem_cons_succ, List.getElem_cons_zero, List.setIfInBounds_toArray, List.set_cons_zero, List.set_cons_succ]
    refine wpAnyH_take (i := 7) (v := (.int .u8 o)) rfl (by kernel_rfl) (by kernel_rfl) (by kernel_rfl) (fun _ _ _ h => h) (Or.inl ⟨by rfl, ?_⟩) hHeld ?_
    · intro w' hSw
      go_simp
    try simp only [Act.put, List.getElem_toArray, List.getElem_cons_succ, List.getElem_cons_zero, List.setIfInBounds_toArray, List.set_cons_zero, List.set_cons_succ]
    clear hHeld
    refine wpAnyH_ready (rs := [8]) (by kernel_rfl) (by simp) (AllReadyH.cons rfl (fun K hK => ?_) AllReadyH.nil)
    rw [if_pos (by rfl)]
    go_simp
    refine (HH.out _).out.mono ?_
    rintro e w2 ⟨rfl, rfl⟩
    go_simp
    refine hK.out _ _ D0 (fun hHeld => ?_)
    clear hK
    try simp only [Act.put, List.getElem_toArray, List.getElem_cons_succ, List.getElem_cons_zero, List.setIfInBounds_toArray, List.set_cons_zero, List.set_cons_succ]
    refine wpAnyH_take (i := 9) (v := (.bool false)) rfl (by kernel_rfl) (by kernel_rfl) (by kernel_rfl) (fun _ _ _ h => h) (Or.inl ⟨by rfl, ?_⟩) hHeld ?_
    · intro w' hSw
      go_simp
    try simp only [Act.put, List.getElem_toArray, List.getElem_cons_succ, List.getElem_cons_zero, List.setIfInBounds_toArray, List.set_cons_zero, List.set_cons_succ]
    refine wpAnyH_take (i := 10) (v := (.bool false)) rfl (by kernel_rfl) (by kernel_rfl) (by kernel_rfl) (fun _ _ _ h => h) (Or.inl ⟨by rfl, ?_⟩) hHeld ?_
    · intro w' hSw
      go_simp
    try simp only [Act.put, List.getElem_toArray, List.getElem_cons_succ, List.getElem_cons_zero, List.setIfInBounds_toArray, List.set_cons_zero, List.set_cons_succ]
    refine wpAnyH_take (i := 11) (v := (.bool false)) rfl (by kernel_rfl) (by kernel_rfl) (by kernel_rfl) (fun _ _ _ h => h) (Or.inl ⟨by rfl, ?_⟩) hHeld ?_
    · intro w' hSw
      go_simp
    try simp only [Act.put, List.getElem_toArray, List.getElem_cons_succ, List.getElem_cons_zero, List.setIfInBounds_toArray, List.set_cons_zero, List.set_cons_succ]
    refine wpAnyH_take (i := 12) (v := undef) rfl (by kernel_rfl) (by kernel_rfl) (by kernel_rfl) (fun _ _ _ h => h) (Or.inr ⟨by rfl, rfl⟩) hHeld ?_
    try simp only [Act.put, List.getElem_toArray, List.getElem_cons_succ, List.getElem_cons_zero, List.setIfInBounds_toArray, List.set_cons_zero, List.set_cons_succ]
    refine wpAnyH_take (i := 13) (v := undef) rfl (by kernel_rfl) (by kernel_rfl) (by kernel_rfl) (fun _ _ _ h => h) (Or.inr ⟨by rfl, rfl⟩) hHeld ?_
    try simp only [Act.put, List.getElem_toArray, List.getElem_cons_succ, List.getElem_cons_zero, List.setIfInBounds_toArray, List.set_cons_zero, List.set_cons_succ]
    refine wpAnyH_take (i := 14) (v := undef) rfl (by kernel_rfl) (by kernel_rfl) (by kernel_rfl) (fun _ _ _ h => h) (Or.inr ⟨by rfl, rfl⟩) hHeld ?_
    try simp only [Act.put, List.getElem_toArray, List.getElem_cons_succ, List.getElem_cons_zero, List.setIfInBounds_toArray, List.set_cons_zero, List.set_cons_succ]
    refine wpAnyH_take (i := 15) (v := (.bool false)) rfl (by kernel_rfl) (by kernel_rfl) (by kernel_rfl) (fun _ _ _ h => h) (Or.inl ⟨by rfl, ?_⟩) hHeld ?_
    · intro w' hSw
      go_simp
    try simp only [Act.put, List.getElem_toArray, List.getElem_cons_succ, List.getElem_cons_zero, List.setIfInBounds_toArray, List.set_cons_zero, List.set_cons_succ]
    refine wpAnyH_take (i := 16) (v := (.bool false)) rfl (by kernel_rfl) (by kernel_rfl) (by kernel_rfl) (fun _ _ _ h => h) (Or.inl ⟨by rfl, ?_⟩) hHeld ?_
    · intro w' hSw
      go_simp
    try simp only [Act.put, List.getElem_toArray, List.getElem_cons_succ, List.getElem_cons_zero, List.setIfInBounds_toArray, List.set_cons_zero, List.set_cons_succ]
    clear hHeld
    refine wpAnyH_done (by kernel_rfl) ?_ _
    go_wp2
    go_ret
    exact ⟨by simp, HT.out.drew⟩
  · have hx := True.intro
    have ev : (v != 0) = false := by simp [hv]
    clear hv
    go_enter Try.func66, Try.ntmps66
    go_wp2_with fail
    refine hu.out.mono ?_
    rintro e w1 ⟨rfl, rfl⟩
    clear hu
    go_wp2_with fail
    refine wp_region_held_drew (S := (fun w' : World => w'.cell? ⟨w.heap.size, 0, none⟩ = some (.int .u8 o) ∧ w'.cell? ⟨w.heap.size, 1, none⟩ = some (.int .i64 a) ∧ w'.cell? ⟨w.heap.size, 2, none⟩ = some (.int .u64 v))) (by kernel_rfl) D0 (fun hHeld => ?_)
    try simp only [Act.put, List.getElem_toArray, List.getElem_cons_succ, List.getElem_cons_zero, List.setIfInBounds_toArray, List.set_cons_zero, List.set_cons_succ]
    refine wpAnyH_take (i := 0) (v := (.pointer (some ⟨w.heap.size, 1, none⟩))) rfl (by kernel_rfl) (by kernel_rfl) (by kernel_rfl) (fun _ _ _ h => h) (Or.inl ⟨by rfl, ?_⟩) hHeld ?_
    · intro w' hSw
      go_simp
    try simp only [Act.put, List.getElem_toArray, List.getElem_cons_succ, List.getElem_cons_zero, List.setIfInBounds_toArray, List.set_cons_zero, List.set_cons_succ]
    refine wpAnyH_take (i := 1) (v := (.int .i64 a)) rfl (by kernel_rfl) (by kernel_rfl) (by kernel_rfl) (fun _ _ _ h => h) (Or.inl ⟨by rfl, ?_⟩) hHeld ?_
    · intro w' hSw
      go_simp
    try simp only [Act.put, List.getElem_toArray, List.getElem_cons_succ, List.getElem_cons_zero, List.setIfInBounds_toArray, List.set_cons_zero, List.set_cons_succ]
    refine wpAnyH_take (i := 2) (v := (.bool true)) rfl (by kernel_rfl) (by kernel_rfl) (by kernel_rfl) (fun _ _ _ h => h) (Or.inl ⟨by rfl, ?_⟩) hHeld ?_
    · intro w' hSw
      go_simp
    try simp only [Act.put, List.getElem_toArray, List.getElem_cons_succ, List.getElem_cons_zero, List.setIfInBounds_toArray, List.set_cons_zero, List.set_cons_succ]
    refine wpAnyH_take (i := 3) (v := (.bool true)) rfl (by kernel_rfl) (by kernel_rfl) (by kernel_rfl) (fun _ _ _ h => h) (Or.inl ⟨by rfl, ?_⟩) hHeld ?_
    · intro w' hSw
      go_simp
    try simp only [Act.put, List.getElem_toArray, List.getElem_cons_succ, List.getElem_cons_zero, List.setIfInBounds_toArray, List.set_cons_zero, List.set_cons_succ]
    refine wpAnyH_take (i := 4) (v := (.pointer (some ⟨w.heap.size, 1, none⟩))) rfl (by kernel_rfl) (by kernel_rfl) (by kernel_rfl) (fun _ _ _ h => h) (Or.inl ⟨by rfl, ?_⟩) hHeld ?_
    · intro w' hSw
      go_simp
    try simp only [Act.put, List.getElem_toArray, List.getElem_cons_succ, List.getElem_cons_zero, List.setIfInBounds_toArray, List.set_cons_zero, List.set_cons_succ]
    refine wpAnyH_take (i := 5) (v := (.int .i64 a)) rfl (by kernel_rfl) (by kernel_rfl) (by kernel_rfl) (fun _ _ _ h => h) (Or.inl ⟨by rfl, ?_⟩) hHeld ?_
    · intro w' hSw
      go_simp
    try simp only [Act.put, List.getElem_toArray, List.getElem_cons_succ, List.getElem_cons_zero, List.setIfInBounds_toArray, List.set_cons_zero, List.set_cons_succ]
    refine wpAnyH_take (i := 6) (v := (.pointer (some ⟨w.heap.size, 0, none⟩))) rfl (by kernel_rfl) (by kernel_rfl) (by kernel_rfl) (fun _ _ _ h => h) (Or.inl ⟨by rfl, ?_⟩) hHeld ?_
    · intro w' hSw
      go_simp
    try simp only [Act.put, List.getElem_toArray, List.getElem_cons_succ, List.getElem_cons_zero, List.setIfInBounds_toArray, List.set_cons_zero, List.set_cons_succ]
    refine wpAnyH_take (i := 7) (v := (.int .u8 o)) rfl (by kernel_rfl) (by kernel_rfl) (by kernel_rfl) (fun _ _ _ h => h) (Or.inl ⟨by rfl, ?_⟩) hHeld ?_
    · intro w' hSw
      go_simp
    try simp only [Act.put, List.getElem_toArray, List.getElem_cons_succ, List.getElem_cons_zero, List.setIfInBounds_toArray, List.set_cons_zero, List.set_cons_succ]
    clear hHeld
    refine wpAnyH_ready (rs := [8]) (by kernel_rfl) (by simp) (AllReadyH.cons rfl (fun K hK => ?_) AllReadyH.nil)
    rw [if_pos (by rfl)]
    go_simp
    refine (HH.out _).out.mono ?_
    rintro e w2 ⟨rfl, rfl⟩
    go_simp
    refine hK.out _ _ D0 (fun hHeld => ?_)
    clear hK
    try simp only [Act.put, List.getElem_toArray, List.getElem_cons_succ, List.getElem_cons_zero, List.setIfInBounds_toArray, List.set_cons_zero, List.set_cons_succ]
    refine wpAnyH_take (i := 9) (v := (.bool false)) rfl (by kernel_rfl) (by kernel_rfl) (by kernel_rfl) (fun _ _ _ h => h) (Or.inl ⟨by rfl, ?_⟩) hHeld ?_
    · intro w' hSw
      go_simp
    try simp only [Act.put, List.getElem_toArray, List.getElem_cons_succ, List.getElem_cons_zero, List.setIfInBounds_toArray, List.set_cons_zero, List.set_cons_succ]
    refine wpAnyH_take (i := 10) (v := (.bool false)) rfl (by kernel_rfl) (by kernel_rfl) (by kernel_rfl) (fun _ _ _ h => h) (Or.inl ⟨by rfl, ?_⟩) hHeld ?_
    · intro w' hSw
      go_simp
    try simp only [Act.put, List.getElem_toArray, List.getElem_cons_succ, List.getElem_cons_zero, List.setIfInBounds_toArray, List.set_cons_zero, List.set_cons_succ]
    refine wpAnyH_take (i := 11) (v := (.bool false)) rfl (by kernel_rfl) (by kernel_rfl) (by kernel_rfl) (fun _ _ _ h => h) (Or.inl ⟨by rfl, ?_⟩) hHeld ?_
    · intro w' hSw
      go_simp
    try simp only [Act.put, List.getElem_toArray, List.getElem_cons_succ, List.getElem_cons_zero, List.setIfInBounds_toArray, List.set_cons_zero, List.set_cons_succ]
    refine wpAnyH_take (i := 12) (v := undef) rfl (by kernel_rfl) (by kernel_rfl) (by kernel_rfl) (fun _ _ _ h => h) (Or.inr ⟨by rfl, rfl⟩) hHeld ?_
    try simp only [Act.put, List.getElem_toArray, List.getElem_cons_succ, List.getElem_cons_zero, List.setIfInBounds_toArray, List.set_cons_zero, List.set_cons_succ]
    refine wpAnyH_take (i := 13) (v := undef) rfl (by kernel_rfl) (by kernel_rfl) (by kernel_rfl) (fun _ _ _ h => h) (Or.inr ⟨by rfl, rfl⟩) hHeld ?_
    try simp only [Act.put, List.getElem_toArray, List.getElem_cons_succ, List.getElem_cons_zero, List.setIfInBounds_toArray, List.set_cons_zero, List.set_cons_succ]
    refine wpAnyH_take (i := 14) (v := undef) rfl (by kernel_rfl) (by kernel_rfl) (by kernel_rfl) (fun _ _ _ h => h) (Or.inr ⟨by rfl, rfl⟩) hHeld ?_
    try simp only [Act.put, List.getElem_toArray, List.getElem_cons_succ, List.getElem_cons_zero, List.setIfInBounds_toArray, List.set_cons_zero, List.set_cons_succ]
    refine wpAnyH_take (i := 15) (v := (.bool false)) rfl (by kernel_rfl) (by kernel_rfl) (by kernel_rfl) (fun _ _ _ h => h) (Or.inl ⟨by rfl, ?_⟩) hHeld ?_
    · intro w' hSw
      go_simp
    try simp only [Act.put, List.getElem_toArray, List.getElem_cons_succ, List.getElem_cons_zero, List.setIfInBounds_toArray, List.set_cons_zero, List.set_cons_succ]
    refine wpAnyH_take (i := 16) (v := (.bool false)) rfl (by kernel_rfl) (by kernel_rfl) (by kernel_rfl) (fun _ _ _ h => h) (Or.inl ⟨by rfl, ?_⟩) hHeld ?_
    · intro w' hSw
      go_simp
    try simp only [Act.put, List.getElem_toArray, List.getElem_cons_succ, List.getElem_cons_zero, List.setIfInBounds_toArray, List.set_cons_zero, List.set_cons_succ]
    clear hHeld
    refine wpAnyH_done (by kernel_rfl) ?_ _
    go_wp2
    go_ret
    exact ⟨by simp, HT.out.drew⟩
  · have hx := True.intro
    have ea : (a != 0) = false := by simp [ha]
    clear ha
    go_enter Try.func66, Try.ntmps66
    go_wp2_with fail
    refine hu.out.mono ?_
    rintro e w1 ⟨rfl, rfl⟩
    clear hu
    go_wp2_with fail
    refine wp_region_held_drew (S := (fun w' : World => w'.cell? ⟨w.heap.size, 0, none⟩ = some (.int .u8 o) ∧ w'.cell? ⟨w.heap.size, 1, none⟩ = some (.int .i64 a) ∧ w'.cell? ⟨w.heap.size, 2, none⟩ = some (.int .u64 v))) (by kernel_rfl) D0 (fun hHeld => ?_)
    try simp only [Act.put, List.getElem_toArray, List.getElem_cons_succ, List.getElem_cons_zero, List.setIfInBounds_toArray, List.set_cons_zero, List.set_cons_succ]
    refine wpAnyH_take (i := 0) (v := (.pointer (some ⟨w.heap.size, 1, none⟩))) rfl (by kernel_rfl) (by kernel_rfl) (by kernel_rfl) (fun _ _ _ h => h) (Or.inl ⟨by rfl, ?_⟩) hHeld ?_
    · intro w' hSw
      go_simp
    try simp only [Act.put, List.getElem_toArray, List.getElem_cons_succ, List.getElem_cons_zero, List.setIfInBounds_toArray, List.set_cons_zero, List.set_cons_succ]
    refine wpAnyH_take (i := 1) (v := (.int .i64 a)) rfl (by kernel_rfl) (by kernel_rfl) (by kernel_rfl) (fun _ _ _ h => h) (Or.inl ⟨by rfl, ?_⟩) hHeld ?_
    · intro w' hSw
      go_simp
    try simp only [Act.put, List.getElem_toArray, List.getElem_cons_succ, List.getElem_cons_zero, List.setIfInBounds_toArray, List.set_cons_zero, List.set_cons_succ]
    refine wpAnyH_take (i := 2) (v := (.bool true)) rfl (by kernel_rfl) (by kernel_rfl) (by kernel_rfl) (fun _ _ _ h => h) (Or.inl ⟨by rfl, ?_⟩) hHeld ?_
    · intro w' hSw
      go_simp
    try simp only [Act.put, List.getElem_toArray, List.getElem_cons_succ, List.getElem_cons_zero, List.setIfInBounds_toArray, List.set_cons_zero, List.set_cons_succ]
    refine wpAnyH_take (i := 3) (v := (.bool true)) rfl (by kernel_rfl) (by kernel_rfl) (by kernel_rfl) (fun _ _ _ h => h) (Or.inl ⟨by rfl, ?_⟩) hHeld ?_
    · intro w' hSw
      go_simp
    try simp only [Act.put, List.getElem_toArray, List.getElem_cons_succ, List.getElem_cons_zero, List.setIfInBounds_toArray, List.set_cons_zero, List.set_cons_succ]
    refine wpAnyH_take (i := 4) (v := (.pointer (some ⟨w.heap.size, 1, none⟩))) rfl (by kernel_rfl) (by kernel_rfl) (by kernel_rfl) (fun _ _ _ h => h) (Or.inl ⟨by rfl, ?_⟩) hHeld ?_
    · intro w' hSw
      go_simp
    try simp only [Act.put, List.getElem_toArray, List.getElem_cons_succ, List.getElem_cons_zero, List.setIfInBounds_toArray, List.set_cons_zero, List.set_cons_succ]
    refine wpAnyH_take (i := 5) (v := (.int .i64 a)) rfl (by kernel_rfl) (by kernel_rfl) (by kernel_rfl) (fun _ _ _ h => h) (Or.inl ⟨by rfl, ?_⟩) hHeld ?_
    · intro w' hSw
      go_simp
    try simp only [Act.put, List.getElem_toArray, List.getElem_cons_succ, List.getElem_cons_zero, List.setIfInBounds_toArray, List.set_cons_zero, List.set_cons_succ]
    refine wpAnyH_take (i := 6) (v := (.pointer (some ⟨w.heap.size, 0, none⟩))) rfl (by kernel_rfl) (by kernel_rfl) (by kernel_rfl) (fun _ _ _ h => h) (Or.inl ⟨by rfl, ?_⟩) hHeld ?_
    · intro w' hSw
      go_simp
    try simp only [Act.put, List.getElem_toArray, List.getElem_cons_succ, List.getElem_cons_zero, List.setIfInBounds_toArray, List.set_cons_zero, List.set_cons_succ]
    refine wpAnyH_take (i := 7) (v := (.int .u8 o)) rfl (by kernel_rfl) (by kernel_rfl) (by kernel_rfl) (fun _ _ _ h => h) (Or.inl ⟨by rfl, ?_⟩) hHeld ?_
    · intro w' hSw
      go_simp
    try simp only [Act.put, List.getElem_toArray, List.getElem_cons_succ, List.getElem_cons_zero, List.setIfInBounds_toArray, List.set_cons_zero, List.set_cons_succ]
    clear hHeld
    refine wpAnyH_ready (rs := [8]) (by kernel_rfl) (by simp) (AllReadyH.cons rfl (fun K hK => ?_) AllReadyH.nil)
    rw [if_pos (by rfl)]
    go_simp
    refine (HH.out _).out.mono ?_
    rintro e w2 ⟨rfl, rfl⟩
    go_simp
    refine hK.out _ _ D0 (fun hHeld => ?_)
    clear hK
    try simp only [Act.put, List.getElem_toArray, List.getElem_cons_succ, List.getElem_cons_zero, List.setIfInBounds_toArray, List.set_cons_zero, List.set_cons_succ]
    refine wpAnyH_take (i := 9) (v := (.bool false)) rfl (by kernel_rfl) (by kernel_rfl) (by kernel_rfl) (fun _ _ _ h => h) (Or.inl ⟨by rfl, ?_⟩) hHeld ?_
    · intro w' hSw
      go_simp
    try simp only [Act.put, List.getElem_toArray, List.getElem_cons_succ, List.getElem_cons_zero, List.setIfInBounds_toArray, List.set_cons_zero, List.set_cons_succ]
    refine wpAnyH_take (i := 10) (v := (.bool false)) rfl (by kernel_rfl) (by kernel_rfl) (by kernel_rfl) (fun _ _ _ h => h) (Or.inl ⟨by rfl, ?_⟩) hHeld ?_
    · intro w' hSw
      go_simp
    try simp only [Act.put, List.getElem_toArray, List.getElem_cons_succ, List.getElem_cons_zero, List.setIfInBounds_toArray, List.set_cons_zero, List.set_cons_succ]
    refine wpAnyH_take (i := 11) (v := (.bool false)) rfl (by kernel_rfl) (by kernel_rfl) (by kernel_rfl) (fun _ _ _ h => h) (Or.inl ⟨by rfl, ?_⟩) hHeld ?_
    · intro w' hSw
      go_simp
    try simp only [Act.put, List.getElem_toArray, List.getElem_cons_succ, List.getElem_cons_zero, List.setIfInBounds_toArray, List.set_cons_zero, List.set_cons_succ]
    refine wpAnyH_take (i := 12) (v := undef) rfl (by kernel_rfl) (by kernel_rfl) (by kernel_rfl) (fun _ _ _ h => h) (Or.inr ⟨by rfl, rfl⟩) hHeld ?_
    try simp only [Act.put, List.getElem_toArray, List.getElem_cons_succ, List.getElem_cons_zero, List.setIfInBounds_toArray, List.set_cons_zero, List.set_cons_succ]
    refine wpAnyH_take (i := 13) (v := undef) rfl (by kernel_rfl) (by kernel_rfl) (by kernel_rfl) (fun _ _ _ h => h) (Or.inr ⟨by rfl, rfl⟩) hHeld ?_
    try simp only [Act.put, List.getElem_toArray, List.getElem_cons_succ, List.getElem_cons_zero, List.setIfInBounds_toArray, List.set_cons_zero, List.set_cons_succ]
    refine wpAnyH_take (i := 14) (v := undef) rfl (by kernel_rfl) (by kernel_rfl) (by kernel_rfl) (fun _ _ _ h => h) (Or.inr ⟨by rfl, rfl⟩) hHeld ?_
    try simp only [Act.put, List.getElem_toArray, List.getElem_cons_succ, List.getElem_cons_zero, List.setIfInBounds_toArray, List.set_cons_zero, List.set_cons_succ]
    refine wpAnyH_take (i := 15) (v := (.bool false)) rfl (by kernel_rfl) (by kernel_rfl) (by kernel_rfl) (fun _ _ _ h => h) (Or.inl ⟨by rfl, ?_⟩) hHeld ?_
    · intro w' hSw
      go_simp
    try simp only [Act.put, List.getElem_toArray, List.getElem_cons_succ, List.getElem_cons_zero, List.setIfInBounds_toArray, List.set_cons_zero, List.set_cons_succ]
    refine wpAnyH_take (i := 16) (v := (.bool false)) rfl (by kernel_rfl) (by kernel_rfl) (by kernel_rfl) (fun _ _ _ h => h) (Or.inl ⟨by rfl, ?_⟩) hHeld ?_
    · intro w' hSw
      go_simp
    try simp only [Act.put, List.getElem_toArray, List.getElem_cons_succ, List.getElem_cons_zero, List.setIfInBounds_toArray, List.set_cons_zero, List.set_cons_succ]
    clear hHeld
    refine wpAnyH_done (by kernel_rfl) ?_ _
    go_wp2
    go_ret
    exact ⟨by simp, HT.out.drew⟩
  · have hx := True.intro
    have ea : (a != 0) = false := by simp [ha]
    have ev : (v != 0) = false := by simp [hv]
    clear ha
    clear hv
    go_enter Try.func66, Try.ntmps66
    go_wp2_with fail
    refine hu.out.mono ?_
    rintro e w1 ⟨rfl, rfl⟩
    clear hu
    go_wp2_with fail
    refine wp_region_held_drew (S := (fun w' : World => w'.cell? ⟨w.heap.size, 0, none⟩ = some (.int .u8 o) ∧ w'.cell? ⟨w.heap.size, 1, none⟩ = some (.int .i64 a) ∧ w'.cell? ⟨w.heap.size, 2, none⟩ = some (.int .u64 v))) (by kernel_rfl) D0 (fun hHeld => ?_)
    try simp only [Act.put, List.getElem_toArray, List.getElem_cons_succ, List.getElem_cons_zero, List.setIfInBounds_toArray, List.set_cons_zero, List.set_cons_succ]
    refine wpAnyH_take (i := 0) (v := (.pointer (some ⟨w.heap.size, 1, none⟩))) rfl (by kernel_rfl) (by kernel_rfl) (by kernel_rfl) (fun _ _ _ h => h) (Or.inl ⟨by rfl, ?_⟩) hHeld ?_
    · intro w' hSw
      go_simp
    try simp only [Act.put, List.getElem_toArray, List.getElem_cons_succ, List.getElem_cons_zero, List.setIfInBounds_toArray, List.set_cons_zero, List.set_cons_succ]
    refine wpAnyH_take (i := 1) (v := (.int .i64 a)) rfl (by kernel_rfl) (by kernel_rfl) (by kernel_rfl) (fun _ _ _ h => h) (Or.inl ⟨by rfl, ?_⟩) hHeld ?_
    · intro w' hSw
      go_simp
    try simp only [Act.put, List.getElem_toArray, List.getElem_cons_succ, List.getElem_cons_zero, List.setIfInBounds_toArray, List.set_cons_zero, List.set_cons_succ]
    refine wpAnyH_take (i := 2) (v := (.bool true)) rfl (by kernel_rfl) (by kernel_rfl) (by kernel_rfl) (fun _ _ _ h => h) (Or.inl ⟨by rfl, ?_⟩) hHeld ?_
    · intro w' hSw
      go_simp
    try simp only [Act.put, List.getElem_toArray, List.getElem_cons_succ, List.getElem_cons_zero, List.setIfInBounds_toArray, List.set_cons_zero, List.set_cons_succ]
    refine wpAnyH_take (i := 3) (v := (.bool true)) rfl (by kernel_rfl) (by kernel_rfl) (by kernel_rfl) (fun _ _ _ h => h) (Or.inl ⟨by rfl, ?_⟩) hHeld ?_
    · intro w' hSw
      go_simp
    try simp only [Act.put, List.getElem_toArray, List.getElem_cons_succ, List.getElem_cons_zero, List.setIfInBounds_toArray, List.set_cons_zero, List.set_cons_succ]
    refine wpAnyH_take (i := 4) (v := (.pointer (some ⟨w.heap.size, 1, none⟩))) rfl (by kernel_rfl) (by kernel_rfl) (by kernel_rfl) (fun _ _ _ h => h) (Or.inl ⟨by rfl, ?_⟩) hHeld ?_
    · intro w' hSw
      go_simp
    try simp only [Act.put, List.getElem_toArray, List.getElem_cons_succ, List.getElem_cons_zero, List.setIfInBounds_toArray, List.set_cons_zero, List.set_cons_succ]
    refine wpAnyH_take (i := 5) (v := (.int .i64 a)) rfl (by kernel_rfl) (by kernel_rfl) (by kernel_rfl) (fun _ _ _ h => h) (Or.inl ⟨by rfl, ?_⟩) hHeld ?_
    · intro w' hSw
      go_simp
    try simp only [Act.put, List.getElem_toArray, List.getElem_cons_succ, List.getElem_cons_zero, List.setIfInBounds_toArray, List.set_cons_zero, List.set_cons_succ]
    refine wpAnyH_take (i := 6) (v := (.pointer (some ⟨w.heap.size, 0, none⟩))) rfl (by kernel_rfl) (by kernel_rfl) (by kernel_rfl) (fun _ _ _ h => h) (Or.inl ⟨by rfl, ?_⟩) hHeld ?_
    · intro w' hSw
      go_simp
    try simp only [Act.put, List.getElem_toArray, List.getElem_cons_succ, List.getElem_cons_zero, List.setIfInBounds_toArray, List.set_cons_zero, List.set_cons_succ]
    refine wpAnyH_take (i := 7) (v := (.int .u8 o)) rfl (by kernel_rfl) (by kernel_rfl) (by kernel_rfl) (fun _ _ _ h => h) (Or.inl ⟨by rfl, ?_⟩) hHeld ?_
    · intro w' hSw
      go_simp
    try simp only [Act.put, List.getElem_toArray, List.getElem_cons_succ, List.getElem_cons_zero, List.setIfInBounds_toArray, List.set_cons_zero, List.set_cons_succ]
    clear hHeld
    refine wpAnyH_ready (rs := [8]) (by kernel_rfl) (by simp) (AllReadyH.cons rfl (fun K hK => ?_) AllReadyH.nil)
    rw [if_pos (by rfl)]
    go_simp
    refine (HH.out _).out.mono ?_
    rintro e w2 ⟨rfl, rfl⟩
    go_simp
    refine hK.out _ _ D0 (fun hHeld => ?_)
    clear hK
    try simp only [Act.put, List.getElem_toArray, List.getElem_cons_succ, List.getElem_cons_zero, List.setIfInBounds_toArray, List.set_cons_zero, List.set_cons_succ]
    refine wpAnyH_take (i := 9) (v := (.bool false)) rfl (by kernel_rfl) (by kernel_rfl) (by kernel_rfl) (fun _ _ _ h => h) (Or.inl ⟨by rfl, ?_⟩) hHeld ?_
    · intro w' hSw
      go_simp
    try simp only [Act.put, List.getElem_toArray, List.getElem_cons_succ, List.getElem_cons_zero, List.setIfInBounds_toArray, List.set_cons_zero, List.set_cons_succ]
    refine wpAnyH_take (i := 10) (v := (.bool false)) rfl (by kernel_rfl) (by kernel_rfl) (by kernel_rfl) (fun _ _ _ h => h) (Or.inl ⟨by rfl, ?_⟩) hHeld ?_
    · intro w' hSw
      go_simp
    try simp only [Act.put, List.getElem_toArray, List.getElem_cons_succ, List.getElem_cons_zero, List.setIfInBounds_toArray, List.set_cons_zero, List.set_cons_succ]
    refine wpAnyH_take (i := 11) (v := (.bool false)) rfl (by kernel_rfl) (by kernel_rfl) (by kernel_rfl) (fun _ _ _ h => h) (Or.inl ⟨by rfl, ?_⟩) hHeld ?_
    · intro w' hSw
      go_simp
    try simp only [Act.put, List.getElem_toArray, List.getElem_cons_succ, List.getElem_cons_zero, List.setIfInBounds_toArray, List.set_cons_zero, List.set_cons_succ]
    refine wpAnyH_take (i := 12) (v := undef) rfl (by kernel_rfl) (by kernel_rfl) (by kernel_rfl) (fun _ _ _ h => h) (Or.inr ⟨by rfl, rfl⟩) hHeld ?_
    try simp only [Act.put, List.getElem_toArray, List.getElem_cons_succ, List.getElem_cons_zero, List.setIfInBounds_toArray, List.set_cons_zero, List.set_cons_succ]
    refine wpAnyH_take (i := 13) (v := undef) rfl (by kernel_rfl) (by kernel_rfl) (by kernel_rfl) (fun _ _ _ h => h) (Or.inr ⟨by rfl, rfl⟩) hHeld ?_
    try simp only [Act.put, List.getElem_toArray, List.getElem_cons_succ, List.getElem_cons_zero, List.setIfInBounds_toArray, List.set_cons_zero, List.set_cons_succ]
    refine wpAnyH_take (i := 14) (v := undef) rfl (by kernel_rfl) (by kernel_rfl) (by kernel_rfl) (fun _ _ _ h => h) (Or.inr ⟨by rfl, rfl⟩) hHeld ?_
    try simp only [Act.put, List.getElem_toArray, List.getElem_cons_succ, List.getElem_cons_zero, List.setIfInBounds_toArray, List.set_cons_zero, List.set_cons_succ]
    refine wpAnyH_take (i := 15) (v := (.bool false)) rfl (by kernel_rfl) (by kernel_rfl) (by kernel_rfl) (fun _ _ _ h => h) (Or.inl ⟨by rfl, ?_⟩) hHeld ?_
    · intro w' hSw
      go_simp
    try simp only [Act.put, List.getElem_toArray, List.getElem_cons_succ, List.getElem_cons_zero, List.setIfInBounds_toArray, List.set_cons_zero, List.set_cons_succ]
    refine wpAnyH_take (i := 16) (v := (.bool false)) rfl (by kernel_rfl) (by kernel_rfl) (by kernel_rfl) (fun _ _ _ h => h) (Or.inl ⟨by rfl, ?_⟩) hHeld ?_
    · intro w' hSw
      go_simp
    try simp only [Act.put, List.getElem_toArray, List.getElem_cons_succ, List.getElem_cons_zero, List.setIfInBounds_toArray, List.set_cons_zero, List.set_cons_succ]
    clear hHeld
    refine wpAnyH_done (by kernel_rfl) ?_ _
    go_wp2
    go_ret
    exact ⟨by simp, HT.out.drew⟩

set_option maxRecDepth 100000 in
set_option maxHeartbeats 1000000 in
theorem cr_neg (o a v hi : Int) (ap vp rv : Bool) (w : World) (h28 : ¬ 28 < o) (h0 : ¬ 0 ≤ a) (hA : ap = true ∨ a = 0) (hV : vp = true ∨ v = 0)
    (hu : HidC Try.prog 82 #[.int .u8 o] (w.alloc (.cells #[.int .u8 o, .int .i64 a, .int .u64 v] 48)) fun e w' => e = .returned (.tuple #[.bool ap, .bool vp]) ∧ (w.alloc (.cells #[.int .u8 o, .int .i64 a, .int .u64 v] 48)) = w')
    (HH : Hid (∀ W, HidC Try.prog 83 #[.int .u8 o] W fun e w' => e = .returned (.int .i64 hi) ∧ W = w')) (HR : Hid (∀ W, HidC Try.prog 84 #[.int .u64 v] W fun e w' => e = .returned (.bool rv) ∧ W = w')) :
    Calls Try.prog 66 #[.agg #[.int .u8 o, .int .i64 a, .int .u64 v]] w fun e w' => e = .returned (.bool false) ∧ Touch w w' [] := by
  have HT : Hid (Touch w (w.alloc (.cells #[.int .u8 o, .int .i64 a, .int .u64 v] 48)) []) := (Touch.refl w []).alloc _
  have D0 : (w.alloc (.cells #[.int .u8 o, .int .i64 a, .int .u64 v] 48)).drew.cell? ⟨w.heap.size, 0, none⟩ = some (.int .u8 o) ∧ (w.alloc (.cells #[.int .u8 o, .int .i64 a, .int .u64 v] 48)).drew.cell? ⟨w.heap.size, 1, none⟩ = some (.int .i64 a) ∧ (w.alloc (.cells #[.int .u8 o, .int .i64 a, .int .u64 v] 48)).drew.cell? ⟨w.heap.size, 2, none⟩ = some (.int .u64 v) := by
    have hb : (w.alloc (.cells #[.int .u8 o, .int .i64 a, .int .u64 v] 48)).drew.heap[w.heap.size]? = some (.cells #[.int .u8 o, .int .i64 a, .int .u64 v] 48 (0, 0)) := heap_alloc_new w _
    exact ⟨by unfold World.cell?; rw [hb]; rfl, by unfold World.cell?; rw [hb]; rfl, by unfold World.cell?; rw [hb]; rfl⟩
  have hA2 : ap = true ∨ (ap = false ∧ a = 0) := by cases ap <;> simp_all
  have hV2 : vp = true ∨ (vp = false ∧ v = 0) := by cases vp <;> simp_all
  clear hA hV
  rcases hA2 with rfl | ⟨rfl, ha⟩ <;> rcases hV2 with rfl | ⟨rfl, hv⟩
  · have hx := True.intro
    go_enter Try.func66, Try.ntmps66
    go_wp2_with fail
    refine hu.out.mono ?_
    rintro e w1 ⟨rfl, rfl⟩
    clear hu
    go_wp2_with fail
    refine wp_region_held_drew (S := (fun w' : World => w'.cell? ⟨w.heap.size, 0, none⟩ = some (.int .u8 o) ∧ w'.cell? ⟨w.heap.size, 1, none⟩ = some (.int .i64 a) ∧ w'.cell? ⟨w.heap.size, 2, none⟩ = some (.int .u64 v))) (by kernel_rfl) D0 (fun hHeld => ?_)
    try simp only [Act.put, List.getElem_toArray, List.getElem_cons_succ, List.getElem_cons_zero, List.setIfInBounds_toArray, List.set_cons_zero, List.set_cons_succ]
    refine wpAnyH_take (i := 0) (v := (.pointer (some ⟨w.heap.size, 1, none⟩))) rfl (by kernel_rfl) (by kernel_rfl) (by kernel_rfl) (fun _ _ _ h => h) (Or.inl ⟨by rfl, ?_⟩) hHeld ?_
    · intro w' hSw
      go_simp
    try simp only [Act.put, List.getElem_toArray, List.getElem_cons_succ, List.getElem_cons_zero, List.setIfInBounds_toArray, List.set_cons_zero, List.set_cons_succ]
    refine wpAnyH_take (i := 1) (v := (.int .i64 a)) rfl (by kernel_rfl) (by kernel_rfl) (by kernel_rfl) (fun _ _ _ h => h) (Or.inl ⟨by rfl, ?_⟩) hHeld ?_
    · intro w' hSw
      go_simp
    try simp only [Act.put, List.getElem_toArray, List.getElem_cons_succ, List.getElem_cons_zero, List.setIfInBounds_toArray, List.set_cons_zero, List.set_cons_succ]
    refine wpAnyH_take (i := 2) (v := (.bool false)) rfl (by kernel_rfl) (by kernel_rfl) (by kernel_rfl) (fun _ _ _ h => h) (Or.inl ⟨by rfl, ?_⟩) hHeld ?_
    · intro w' hSw
      go_simp
    try simp only [Act.put, List.getElem_toArray, List.getElem_cons_succ, List.getElem_cons_zero, List.setIfInBounds_toArray, List.set_cons_zero, List.set_cons_succ]
    refine wpAnyH_take (i := 3) (v := (.bool false)) rfl (by kernel_rfl) (by kernel_rfl) (by kernel_rfl) (fun _ _ _ h => h) (Or.inl ⟨by rfl, ?_⟩) hHeld ?_
    · intro w' hSw
      go_simp
    try simp only [Act.put, List.getElem_toArray, List.getElem_cons_succ, List.getElem_cons_zero, List.setIfInBounds_toArray, List.set_cons_zero, List.set_cons_succ]
    refine wpAnyH_take (i := 4) (v := undef) rfl (by kernel_rfl) (by kernel_rfl) (by kernel_rfl) (fun _ _ _ h => h) (Or.inr ⟨by rfl, rfl⟩) hHeld ?_
    try simp only [Act.put, List.getElem_toArray, List.getElem_cons_succ, List.getElem_cons_zero, List.setIfInBounds_toArray, List.set_cons_zero, List.set_cons_succ]
    refine wpAnyH_take (i := 5) (v := undef) rfl (by kernel_rfl) (by kernel_rfl) (by kernel_rfl) (fun _ _ _ h => h) (Or.inr ⟨by rfl, rfl⟩) hHeld ?_
    try simp only [Act.put, List.getElem_toArray, List.getElem_cons_succ, List.getElem_cons_zero, List.setIfInBounds_toArray, List.set_cons_zero, List.set_cons_succ]
    refine wpAnyH_take (i := 6) (v := undef) rfl (by kernel_rfl) (by kernel_rfl) (by kernel_rfl) (fun _ _ _ h => h) (Or.inr ⟨by rfl, rfl⟩) hHeld ?_
    try simp only [Act.put, List.getElem_toArray, List.getElem_cons_succ, List.getElem_cons_zero, List.setIfInBounds_toArray, List.set_cons_zero, List.set_cons_succ]
    refine wpAnyH_take (i := 7) (v := undef) rfl (by kernel_rfl) (by kernel_rfl) (by kernel_rfl) (fun _ _ _ h => h) (Or.inr ⟨by rfl, rfl⟩) hHeld ?_
    try simp only [Act.put, List.getElem_toArray, List.getElem_cons_succ, List.getElem_cons_zero, List.setIfInBounds_toArray, List.set_cons_zero, List.set_cons_succ]
    refine wpAnyH_take (i := 8) (v := undef) rfl (by kernel_rfl) (by kernel_rfl) (by kernel_rfl) (fun _ _ _ h => h) (Or.inr ⟨by rfl, rfl⟩) hHeld ?_
    try simp only [Act.put, List.getElem_toArray, List.getElem_cons_succ, List.getElem_cons_zero, List.setIfInBounds_toArray, List.set_cons_zero, List.set_cons_succ]
    refine wpAnyH_take (i := 9) (v := undef) rfl (by kernel_rfl) (by kernel_rfl) (by kernel_rfl) (fun _ _ _ h => h) (Or.inr ⟨by rfl, rfl⟩) hHeld ?_
    try simp only [Act.put, List.getElem_toArray, List.getElem_cons_succ, List.getElem_cons_zero, List.setIfInBounds_toArray, List.set_cons_zero, List.set_cons_succ]
    refine wpAnyH_take (i := 10) (v := (.bool false)) rfl (by kernel_rfl) (by kernel_rfl) (by kernel_rfl) (fun _ _ _ h => h) (Or.inl ⟨by rfl, ?_⟩) hHeld ?_
    · intro w' hSw
      go_simp
    try simp only [Act.put, List.getElem_toArray, List.getElem_cons_succ, List.getElem_cons_zero, List.setIfInBounds_toArray, List.set_cons_zero, List.set_cons_succ]
    refine wpAnyH_take (i := 11) (v := (.bool false)) rfl (by kernel_rfl) (by kernel_rfl) (by kernel_rfl) (fun _ _ _ h => h) (Or.inl ⟨by rfl, ?_⟩) hHeld ?_
    · intro w' hSw
      go_simp
    try simp only [Act.put, List.getElem_toArray, List.getElem_cons_succ, List.getElem_cons_zero, List.setIfInBounds_toArray, List.set_cons_zero, List.set_cons_succ]
    refine wpAnyH_take (i := 12) (v := undef) rfl (by kernel_rfl) (by kernel_rfl) (by kernel_rfl) (fun _ _ _ h => h) (Or.inr ⟨by rfl, rfl⟩) hHeld ?_
    try simp only [Act.put, List.getElem_toArray, List.getElem_cons_succ, List.getElem_cons_zero, List.setIfInBounds_toArray, List.set_cons_zero, List.set_cons_succ]
    refine wpAnyH_take (i := 13) (v := undef) rfl (by kernel_rfl) (by kernel_rfl) (by kernel_rfl) (fun _ _ _ h => h) (Or.inr ⟨by rfl, rfl⟩) hHeld ?_
    try simp only [Act.put, List.getElem_toArray, List.getElem_cons_succ, List.getElem_cons_zero, List.setIfInBounds_toArray, List.set_cons_zero, List.set_cons_succ]
    refine wpAnyH_take (i := 14) (v := undef) rfl (by kernel_rfl) (by kernel_rfl) (by kernel_rfl) (fun _ _ _ h => h) (Or.inr ⟨by rfl, rfl⟩) hHeld ?_
    try simp only [Act.put, List.getElem_toArray, List.getElem_cons_succ, List.getElem_cons_zero, List.setIfInBounds_toArray, List.set_cons_zero, List.set_cons_succ]
    refine wpAnyH_take (i := 15) (v := (.bool false)) rfl (by kernel_rfl) (by kernel_rfl) (by kernel_rfl) (fun _ _ _ h => h) (Or.inl ⟨by rfl, ?_⟩) hHeld ?_
    · intro w' hSw
      go_simp
    try simp only [Act.put, List.getElem_toArray, List.getElem_cons_succ, List.getElem_cons_zero, List.setIfInBounds_toArray, List.set_cons_zero, List.set_cons_succ]
    refine wpAnyH_take (i := 16) (v := (.bool false)) rfl (by kernel_rfl) (by kernel_rfl) (by kernel_rfl) (fun _ _ _ h => h) (Or.inl ⟨by rfl, ?_⟩) hHeld ?_
    · intro w' hSw
      go_simp
    try simp only [Act.put, List.getElem_toArray, List.getElem_cons_succ, List.getElem_cons_zero, List.setIfInBounds_toArray, List.set_cons_zero, List.set_cons_succ]
    clear hHeld
    refine wpAnyH_done (by kernel_rfl) ?_ _
    go_wp2
    go_ret
    exact ⟨by simp, HT.out.drew⟩
  · have hx := True.intro
    have ev : (v != 0) = false := by simp [hv]
    clear hv
    go_enter Try.func66, Try.ntmps66
    go_wp2_with fail
    refine hu.out.mono ?_
    rintro e w1 ⟨rfl, rfl⟩
    clear hu
    go_wp2_with fail
    refine wp_region_held_drew (S := (fun w' : World => w'.cell? ⟨w.heap.size, 0, none⟩ = some (.int .u8 o) ∧ w'.cell? ⟨w.heap.size, 1, none⟩ = some (.int .i64 a) ∧ w'.cell? ⟨w.heap.size, 2, none⟩ = some (.int .u64 v))) (by kernel_rfl) D0 (fun hHeld => ?_)
    try simp only [Act.put, List.getElem_toArray, List.getElem_cons_succ, List.getElem_cons_zero, List.setIfInBounds_toArray, List.set_cons_zero, List.set_cons_succ]
    refine wpAnyH_take (i := 0) (v := (.pointer (some ⟨w.heap.size, 1, none⟩))) rfl (by kernel_rfl) (by kernel_rfl) (by kernel_rfl) (fun _ _ _ h => h) (Or.inl ⟨by rfl, ?_⟩) hHeld ?_
    · intro w' hSw
      go_simp
    try simp only [Act.put, List.getElem_toArray, List.getElem_cons_succ, List.getElem_cons_zero, List.setIfInBounds_toArray, List.set_cons_zero, List.set_cons_succ]
    refine wpAnyH_take (i := 1) (v := (.int .i64 a)) rfl (by kernel_rfl) (by kernel_rfl) (by kernel_rfl) (fun _ _ _ h => h) (Or.inl ⟨by rfl, ?_⟩) hHeld ?_
    · intro w' hSw
      go_simp
    try simp only [Act.put, List.getElem_toArray, List.getElem_cons_succ, List.getElem_cons_zero, List.setIfInBounds_toArray, List.set_cons_zero, List.set_cons_succ]
    refine wpAnyH_take (i := 2) (v := (.bool false)) rfl (by kernel_rfl) (by kernel_rfl) (by kernel_rfl) (fun _ _ _ h => h) (Or.inl ⟨by rfl, ?_⟩) hHeld ?_
    · intro w' hSw
      go_simp
    try simp only [Act.put, List.getElem_toArray, List.getElem_cons_succ, List.getElem_cons_zero, List.setIfInBounds_toArray, List.set_cons_zero, List.set_cons_succ]
    refine wpAnyH_take (i := 3) (v := (.bool false)) rfl (by kernel_rfl) (by kernel_rfl) (by kernel_rfl) (fun _ _ _ h => h) (Or.inl ⟨by rfl, ?_⟩) hHeld ?_
    · intro w' hSw
      go_simp
    try simp only [Act.put, List.getElem_toArray, List.getElem_cons_succ, List.getElem_cons_zero, List.setIfInBounds_toArray, List.set_cons_zero, List.set_cons_succ]
    refine wpAnyH_take (i := 4) (v := undef) rfl (by kernel_rfl) (by kernel_rfl) (by kernel_rfl) (fun _ _ _ h => h) (Or.inr ⟨by rfl, rfl⟩) hHeld ?_
    try simp only [Act.put, List.getElem_toArray, List.getElem_cons_succ, List.getElem_cons_zero, List.setIfInBounds_toArray, List.set_cons_zero, List.set_cons_succ]
    refine wpAnyH_take (i := 5) (v := undef) rfl (by kernel_rfl) (by kernel_rfl) (by kernel_rfl) (fun _ _ _ h => h) (Or.inr ⟨by rfl, rfl⟩) hHeld ?_
    try simp only [Act.put, List.getElem_toArray, List.getElem_cons_succ, List.getElem_cons_zero, List.setIfInBounds_toArray, List.set_cons_zero, List.set_cons_succ]
    refine wpAnyH_take (i := 6) (v := undef) rfl (by kernel_rfl) (by kernel_rfl) (by kernel_rfl) (fun _ _ _ h => h) (Or.inr ⟨by rfl, rfl⟩) hHeld ?_
    try simp only [Act.put, List.getElem_toArray, List.getElem_cons_succ, List.getElem_cons_zero, List.setIfInBounds_toArray, List.set_cons_zero, List.set_cons_succ]
    refine wpAnyH_take (i := 7) (v := undef) rfl (by kernel_rfl) (by kernel_rfl) (by kernel_rfl) (fun _ _ _ h => h) (Or.inr ⟨by rfl, rfl⟩) hHeld ?_
    try simp only [Act.put, List.getElem_toArray, List.getElem_cons_succ, List.getElem_cons_zero, List.setIfInBounds_toArray, List.set_cons_zero, List.set_cons_succ]
    refine wpAnyH_take (i := 8) (v := undef) rfl (by kernel_rfl) (by kernel_rfl) (by kernel_rfl) (fun _ _ _ h => h) (Or.inr ⟨by rfl, rfl⟩) hHeld ?_
    try simp only [Act.put, List.getElem_toArray, List.getElem_cons_succ, List.getElem_cons_zero, List.setIfInBounds_toArray, List.set_cons_zero, List.set_cons_succ]
    refine wpAnyH_take (i := 9) (v := undef) rfl (by kernel_rfl) (by kernel_rfl) (by kernel_rfl) (fun _ _ _ h => h) (Or.inr ⟨by rfl, rfl⟩) hHeld ?_
    try simp only [Act.put, List.getElem_toArray, List.getElem_cons_succ, List.getElem_cons_zero, List.setIfInBounds_toArray, List.set_cons_zero, List.set_cons_succ]
    refine wpAnyH_take (i := 10) (v := (.bool false)) rfl (by kernel_rfl) (by kernel_rfl) (by kernel_rfl) (fun _ _ _ h => h) (Or.inl ⟨by rfl, ?_⟩) hHeld ?_
    · intro w' hSw
      go_simp
    try simp only [Act.put, List.getElem_toArray, List.getElem_cons_succ, List.getElem_cons_zero, List.setIfInBounds_toArray, List.set_cons_zero, List.set_cons_succ]
    refine wpAnyH_take (i := 11) (v := (.bool false)) rfl (by kernel_rfl) (by kernel_rfl) (by kernel_rfl) (fun _ _ _ h => h) (Or.inl ⟨by rfl, ?_⟩) hHeld ?_
    · intro w' hSw
      go_simp
    try simp only [Act.put, List.getElem_toArray, List.getElem_cons_succ, List.getElem_cons_zero, List.setIfInBounds_toArray, List.set_cons_zero, List.set_cons_succ]
    refine wpAnyH_take (i := 12) (v := undef) rfl (by kernel_rfl) (by kernel_rfl) (by kernel_rfl) (fun _ _ _ h => h) (Or.inr ⟨by rfl, rfl⟩) hHeld ?_
    try simp only [Act.put, List.getElem_toArray, List.getElem_cons_succ, List.getElem_cons_zero, List.setIfInBounds_toArray, List.set_cons_zero, List.set_cons_succ]
    refine wpAnyH_take (i := 13) (v := undef) rfl (by kernel_rfl) (by kernel_rfl) (by kernel_rfl) (fun _ _ _ h => h) (Or.inr ⟨by rfl, rfl⟩) hHeld ?_
    try simp only [Act.put, List.getElem_toArray, List.getElem_cons_succ, List.getElem_cons_zero, List.setIfInBounds_toArray, List.set_cons_zero, List.set_cons_succ]
    refine wpAnyH_take (i := 14) (v := undef) rfl (by kernel_rfl) (by kernel_rfl) (by kernel_rfl) (fun _ _ _ h => h) (Or.inr ⟨by rfl, rfl⟩) hHeld ?_
    try simp only [Act.put, List.getElem_toArray, List.getElem_cons_succ, List.getElem_cons_zero, List.setIfInBounds_toArray, List.set_cons_zero, List.set_cons_succ]
    refine wpAnyH_take (i := 15) (v := (.bool false)) rfl (by kernel_rfl) (by kernel_rfl) (by kernel_rfl) (fun _ _ _ h => h) (Or.inl ⟨by rfl, ?_⟩) hHeld ?_
    · intro w' hSw
      go_simp
    try simp only [Act.put, List.getElem_toArray, List.getElem_cons_succ, List.getElem_cons_zero, List.setIfInBounds_toArray, List.set_cons_zero, List.set_cons_succ]
    refine wpAnyH_take (i := 16) (v := (.bool false)) rfl (by kernel_rfl) (by kernel_rfl) (by kernel_rfl) (fun _ _ _ h => h) (Or.inl ⟨by rfl, ?_⟩) hHeld ?_
    · intro w' hSw
      go_simp
    try simp only [Act.put, List.getElem_toArray, List.getElem_cons_succ, List.getElem_cons_zero, List.setIfInBounds_toArray, List.set_cons_zero, List.set_cons_succ]
    clear hHeld
    refine wpAnyH_done (by kernel_rfl) ?_ _
    go_wp2
    go_ret
    exact ⟨by simp, HT.out.drew⟩
  · have hx := True.intro
    have ea : (a != 0) = false := by simp [ha]
    clear ha
    go_enter Try.func66, Try.ntmps66
    go_wp2_with fail
    refine hu.out.mono ?_
    rintro e w1 ⟨rfl, rfl⟩
    clear hu
    go_wp2_with fail
    refine wp_region_held_drew (S := (fun w' : World => w'.cell? ⟨w.heap.size, 0, none⟩ = some (.int .u8 o) ∧ w'.cell? ⟨w.heap.size, 1, none⟩ = some (.int .i64 a) ∧ w'.cell? ⟨w.heap.size, 2, none⟩ = some (.int .u64 v))) (by kernel_rfl) D0 (fun hHeld => ?_)
    try simp only [Act.put, List.getElem_toArray, List.getElem_cons_succ, List.getElem_cons_zero, List.setIfInBounds_toArray, List.set_cons_zero, List.set_cons_succ]
    refine wpAnyH_take (i := 0) (v := (.pointer (some ⟨w.heap.size, 1, none⟩))) rfl (by kernel_rfl) (by kernel_rfl) (by kernel_rfl) (fun _ _ _ h => h) (Or.inl ⟨by rfl, ?_⟩) hHeld ?_
    · intro w' hSw
      go_simp
    try simp only [Act.put, List.getElem_toArray, List.getElem_cons_succ, List.getElem_cons_zero, List.setIfInBounds_toArray, List.set_cons_zero, List.set_cons_succ]
    refine wpAnyH_take (i := 1) (v := (.int .i64 a)) rfl (by kernel_rfl) (by kernel_rfl) (by kernel_rfl) (fun _ _ _ h => h) (Or.inl ⟨by rfl, ?_⟩) hHeld ?_
    · intro w' hSw
      go_simp
    try simp only [Act.put, List.getElem_toArray, List.getElem_cons_succ, List.getElem_cons_zero, List.setIfInBounds_toArray, List.set_cons_zero, List.set_cons_succ]
    refine wpAnyH_take (i := 2) (v := (.bool false)) rfl (by kernel_rfl) (by kernel_rfl) (by kernel_rfl) (fun _ _ _ h => h) (Or.inl ⟨by rfl, ?_⟩) hHeld ?_
    · intro w' hSw
      go_simp
    try simp only [Act.put, List.getElem_toArray, List.getElem_cons_succ, List.getElem_cons_zero, List.setIfInBounds_toArray, List.set_cons_zero, List.set_cons_succ]
    refine wpAnyH_take (i := 3) (v := (.bool false)) rfl (by kernel_rfl) (by kernel_rfl) (by kernel_rfl) (fun _ _ _ h => h) (Or.inl ⟨by rfl, ?_⟩) hHeld ?_
    · intro w' hSw
      go_simp
    try simp only [Act.put, List.getElem_toArray, List.getElem_cons_succ, List.getElem_cons_zero, List.setIfInBounds_toArray, List.set_cons_zero, List.set_cons_succ]
    refine wpAnyH_take (i := 4) (v := undef) rfl (by kernel_rfl) (by kernel_rfl) (by kernel_rfl) (fun _ _ _ h => h) (Or.inr ⟨by rfl, rfl⟩) hHeld ?_
    try simp only [Act.put, List.getElem_toArray, List.getElem_cons_succ, List.getElem_cons_zero, List.setIfInBounds_toArray, List.set_cons_zero, List.set_cons_succ]
    refine wpAnyH_take (i := 5) (v := undef) rfl (by kernel_rfl) (by kernel_rfl) (by kernel_rfl) (fun _ _ _ h => h) (Or.inr ⟨by rfl, rfl⟩) hHeld ?_
    try simp only [Act.put, List.getElem_toArray, List.getElem_cons_succ, List.getElem_cons_zero, List.setIfInBounds_toArray, List.set_cons_zero, List.set_cons_succ]
    refine wpAnyH_take (i := 6) (v := undef) rfl (by kernel_rfl) (by kernel_rfl) (by kernel_rfl) (fun _ _ _ h => h) (Or.inr ⟨by rfl, rfl⟩) hHeld ?_
    try simp only [Act.put, List.getElem_toArray, List.getElem_cons_succ, List.getElem_cons_zero, List.setIfInBounds_toArray, List.set_cons_zero, List.set_cons_succ]
    refine wpAnyH_take (i := 7) (v := undef) rfl (by kernel_rfl) (by kernel_rfl) (by kernel_rfl) (fun _ _ _ h => h) (Or.inr ⟨by rfl, rfl⟩) hHeld ?_
    try simp only [Act.put, List.getElem_toArray, List.getElem_cons_succ, List.getElem_cons_zero, List.setIfInBounds_toArray, List.set_cons_zero, List.set_cons_succ]
    refine wpAnyH_take (i := 8) (v := undef) rfl (by kernel_rfl) (by kernel_rfl) (by kernel_rfl) (fun _ _ _ h => h) (Or.inr ⟨by rfl, rfl⟩) hHeld ?_
    try simp only [Act.put, List.getElem_toArray, List.getElem_cons_succ, List.getElem_cons_zero, List.setIfInBounds_toArray, List.set_cons_zero, List.set_cons_succ]
    refine wpAnyH_take (i := 9) (v := undef) rfl (by kernel_rfl) (by kernel_rfl) (by kernel_rfl) (fun _ _ _ h => h) (Or.inr ⟨by rfl, rfl⟩) hHeld ?_
    try simp only [Act.put, List.getElem_toArray, List.getElem_cons_succ, List.getElem_cons_zero, List.setIfInBounds_toArray, List.set_cons_zero, List.set_cons_succ]
    refine wpAnyH_take (i := 10) (v := (.bool false)) rfl (by kernel_rfl) (by kernel_rfl) (by kernel_rfl) (fun _ _ _ h => h) (Or.inl ⟨by rfl, ?_⟩) hHeld ?_
    · intro w' hSw
      go_simp
    try simp only [Act.put, List.getElem_toArray, List.getElem_cons_succ, List.getElem_cons_zero, List.setIfInBounds_toArray, List.set_cons_zero, List.set_cons_succ]
    refine wpAnyH_take (i := 11) (v := (.bool false)) rfl (by kernel_rfl) (by kernel_rfl) (by kernel_rfl) (fun _ _ _ h => h) (Or.inl ⟨by rfl, ?_⟩) hHeld ?_
    · intro w' hSw
      go_simp
    try simp only [Act.put, List.getElem_toArray, List.getElem_cons_succ, List.getElem_cons_zero, List.setIfInBounds_toArray, List.set_cons_zero, List.set_cons_succ]
    refine wpAnyH_take (i := 12) (v := undef) rfl (by kernel_rfl) (by kernel_rfl) (by kernel_rfl) (fun _ _ _ h => h) (Or.inr ⟨by rfl, rfl⟩) hHeld ?_
    try simp only [Act.put, List.getElem_toArray, List.getElem_cons_succ, List.getElem_cons_zero, List.setIfInBounds_toArray, List.set_cons_zero, List.set_cons_succ]
    refine wpAnyH_take (i := 13) (v := undef) rfl (by kernel_rfl) (by kernel_rfl) (by kernel_rfl) (fun _ _ _ h => h) (Or.inr ⟨by rfl, rfl⟩) hHeld ?_
    try simp only [Act.put, List.getElem_toArray, List.getElem_cons_succ, List.getElem_cons_zero, List.setIfInBounds_toArray, List.set_cons_zero, List.set_cons_succ]
    refine wpAnyH_take (i := 14) (v := undef) rfl (by kernel_rfl) (by kernel_rfl) (by kernel_rfl) (fun _ _ _ h => h) (Or.inr ⟨by rfl, rfl⟩) hHeld ?_
    try simp only [Act.put, List.getElem_toArray, List.getElem_cons_succ, List.getElem_cons_zero, List.setIfInBounds_toArray, List.set_cons_zero, List.set_cons_succ]
    refine wpAnyH_take (i := 15) (v := (.bool false)) rfl (by kernel_rfl) (by kernel_rfl) (by kernel_rfl) (fun _ _ _ h => h) (Or.inl ⟨by rfl, ?_⟩) hHeld ?_
    · intro w' hSw
      go_simp
    try simp only [Act.put, List.getElem_toArray, List.getElem_cons_succ, List.getElem_cons_zero, List.setIfInBounds_toArray, List.set_cons_zero, List.set_cons_succ]
    refine wpAnyH_take (i := 16) (v := (.bool false)) rfl (by kernel_rfl) (by kernel_rfl) (by kernel_rfl) (fun _ _ _ h => h) (Or.inl ⟨by rfl, ?_⟩) hHeld ?_
    · intro w' hSw
      go_simp
    try simp only [Act.put, List.getElem_toArray, List.getElem_cons_succ, List.getElem_cons_zero, List.setIfInBounds_toArray, List.set_cons_zero, List.set_cons_succ]
    clear hHeld
    refine wpAnyH_done (by kernel_rfl) ?_ _
    go_wp2
    go_ret
    exact ⟨by simp, HT.out.drew⟩
  · have hx := True.intro
    have ea : (a != 0) = false := by simp [ha]
    have ev : (v != 0) = false := by simp [hv]
    clear ha
    clear hv
    go_enter Try.func66, Try.ntmps66
    go_wp2_with fail
    refine hu.out.mono ?_
    rintro e w1 ⟨rfl, rfl⟩
    clear hu
    go_wp2_with fail
    refine wp_region_held_drew (S := (fun w' : World => w'.cell? ⟨w.heap.size, 0, none⟩ = some (.int .u8 o) ∧ w'.cell? ⟨w.heap.size, 1, none⟩ = some (.int .i64 a) ∧ w'.cell? ⟨w.heap.size, 2, none⟩ = some (.int .u64 v))) (by kernel_rfl) D0 (fun hHeld => ?_)
    try simp only [Act.put, List.getElem_toArray, List.getElem_cons_succ, List.getElem_cons_zero, List.setIfInBounds_toArray, List.set_cons_zero, List.set_cons_succ]
    refine wpAnyH_take (i := 0) (v := (.pointer (some ⟨w.heap.size, 1, none⟩))) rfl (by kernel_rfl) (by kernel_rfl) (by kernel_rfl) (fun _ _ _ h => h) (Or.inl ⟨by rfl, ?_⟩) hHeld ?_
    · intro w' hSw
      go_simp
    try simp only [Act.put, List.getElem_toArray, List.getElem_cons_succ, List.getElem_cons_zero, List.setIfInBounds_toArray, List.set_cons_zero, List.set_cons_succ]
    refine wpAnyH_take (i := 1) (v := (.int .i64 a)) rfl (by kernel_rfl) (by kernel_rfl) (by kernel_rfl) (fun _ _ _ h => h) (Or.inl ⟨by rfl, ?_⟩) hHeld ?_
    · intro w' hSw
      go_simp
    try simp only [Act.put, List.getElem_toArray, List.getElem_cons_succ, List.getElem_cons_zero, List.setIfInBounds_toArray, List.set_cons_zero, List.set_cons_succ]
    refine wpAnyH_take (i := 2) (v := (.bool false)) rfl (by kernel_rfl) (by kernel_rfl) (by kernel_rfl) (fun _ _ _ h => h) (Or.inl ⟨by rfl, ?_⟩) hHeld ?_
    · intro w' hSw
      go_simp
    try simp only [Act.put, List.getElem_toArray, List.getElem_cons_succ, List.getElem_cons_zero, List.setIfInBounds_toArray, List.set_cons_zero, List.set_cons_succ]
    refine wpAnyH_take (i := 3) (v := (.bool false)) rfl (by kernel_rfl) (by kernel_rfl) (by kernel_rfl) (fun _ _ _ h => h) (Or.inl ⟨by rfl, ?_⟩) hHeld ?_
    · intro w' hSw
      go_simp
    try simp only [Act.put, List.getElem_toArray, List.getElem_cons_succ, List.getElem_cons_zero, List.setIfInBounds_toArray, List.set_cons_zero, List.set_cons_succ]
    refine wpAnyH_take (i := 4) (v := undef) rfl (by kernel_rfl) (by kernel_rfl) (by kernel_rfl) (fun _ _ _ h => h) (Or.inr ⟨by rfl, rfl⟩) hHeld ?_
    try simp only [Act.put, List.getElem_toArray, List.getElem_cons_succ, List.getElem_cons_zero, List.setIfInBounds_toArray, List.set_cons_zero, List.set_cons_succ]
    refine wpAnyH_take (i := 5) (v := undef) rfl (by kernel_rfl) (by kernel_rfl) (by kernel_rfl) (fun _ _ _ h => h) (Or.inr ⟨by rfl, rfl⟩) hHeld ?_
    try simp only [Act.put, List.getElem_toArray, List.getElem_cons_succ, List.getElem_cons_zero, List.setIfInBounds_toArray, List.set_cons_zero, List.set_cons_succ]
    refine wpAnyH_take (i := 6) (v := undef) rfl (by kernel_rfl) (by kernel_rfl) (by kernel_rfl) (fun _ _ _ h => h) (Or.inr ⟨by rfl, rfl⟩) hHeld ?_
    try simp only [Act.put, List.getElem_toArray, List.getElem_cons_succ, List.getElem_cons_zero, List.setIfInBounds_toArray, List.set_cons_zero, List.set_cons_succ]
    refine wpAnyH_take (i := 7) (v := undef) rfl (by kernel_rfl) (by kernel_rfl) (by kernel_rfl) (fun _ _ _ h => h) (Or.inr ⟨by rfl, rfl⟩) hHeld ?_
    try simp only [Act.put, List.getElem_toArray, List.getElem_cons_succ, List.getElem_cons_zero, List.setIfInBounds_toArray, List.set_cons_zero, List.set_cons_succ]
    refine wpAnyH_take (i := 8) (v := undef) rfl (by kernel_rfl) (by kernel_rfl) (by kernel_rfl) (fun _ _ _ h => h) (Or.inr ⟨by rfl, rfl⟩) hHeld ?_
    try simp only [Act.put, List.getElem_toArray, List.getElem_cons_succ, List.getElem_cons_zero, List.setIfInBounds_toArray, List.set_cons_zero, List.set_cons_succ]
    refine wpAnyH_take (i := 9) (v := undef) rfl (by kernel_rfl) (by kernel_rfl) (by kernel_rfl) (fun _ _ _ h => h) (Or.inr ⟨by rfl, rfl⟩) hHeld ?_
    try simp only [Act.put, List.getElem_toArray, List.getElem_cons_succ, List.getElem_cons_zero, List.setIfInBounds_toArray, List.set_cons_zero, List.set_cons_succ]
    refine wpAnyH_take (i := 10) (v := (.bool false)) rfl (by kernel_rfl) (by kernel_rfl) (by kernel_rfl) (fun _ _ _ h => h) (Or.inl ⟨by rfl, ?_⟩) hHeld ?_
    · intro w' hSw
      go_simp
    try simp only [Act.put, List.getElem_toArray, List.getElem_cons_succ, List.getElem_cons_zero, List.setIfInBounds_toArray, List.set_cons_zero, List.set_cons_succ]
    refine wpAnyH_take (i := 11) (v := (.bool false)) rfl (by kernel_rfl) (by kernel_rfl) (by kernel_rfl) (fun _ _ _ h => h) (Or.inl ⟨by rfl, ?_⟩) hHeld ?_
    · intro w' hSw
      go_simp
    try simp only [Act.put, List.getElem_toArray, List.getElem_cons_succ, List.getElem_cons_zero, List.setIfInBounds_toArray, List.set_cons_zero, List.set_cons_succ]
    refine wpAnyH_take (i := 12) (v := undef) rfl (by kernel_rfl) (by kernel_rfl) (by kernel_rfl) (fun _ _ _ h => h) (Or.inr ⟨by rfl, rfl⟩) hHeld ?_
    try simp only [Act.put, List.getElem_toArray, List.getElem_cons_succ, List.getElem_cons_zero, List.setIfInBounds_toArray, List.set_cons_zero, List.set_cons_succ]
    refine wpAnyH_take (i := 13) (v := undef) rfl (by kernel_rfl) (by kernel_rfl) (by kernel_rfl) (fun _ _ _ h => h) (Or.inr ⟨by rfl, rfl⟩) hHeld ?_
    try simp only [Act.put, List.getElem_toArray, List.getElem_cons_succ, List.getElem_cons_zero, List.setIfInBounds_toArray, List.set_cons_zero, List.set_cons_succ]
    refine wpAnyH_take (i := 14) (v := undef) rfl (by kernel_rfl) (by kernel_rfl) (by kernel_rfl) (fun _ _ _ h => h) (Or.inr ⟨by rfl, rfl⟩) hHeld ?_
    try simp only [Act.put, List.getElem_toArray, List.getElem_cons_succ, List.getElem_cons_zero, List.setIfInBounds_toArray, List.set_cons_zero, List.set_cons_succ]
    refine wpAnyH_take (i := 15) (v := (.bool false)) rfl (by kernel_rfl) (by kernel_rfl) (by kernel_rfl) (fun _ _ _ h => h) (Or.inl ⟨by rfl, ?_⟩) hHeld ?_
    · intro w' hSw
      go_simp
    try simp only [Act.put, List.getElem_toArray, List.getElem_cons_succ, List.getElem_cons_zero, List.setIfInBounds_toArray, List.set_cons_zero, List.set_cons_succ]
    refine wpAnyH_take (i := 16) (v := (.bool false)) rfl (by kernel_rfl) (by kernel_rfl) (by kernel_rfl) (fun _ _ _ h => h) (Or.inl ⟨by rfl, ?_⟩) hHeld ?_
    · intro w' hSw
      go_simp
    try simp only [Act.put, List.getElem_toArray, List.getElem_cons_succ, List.getElem_cons_zero, List.setIfInBounds_toArray, List.set_cons_zero, List.set_cons_succ]
    clear hHeld
    refine wpAnyH_done (by kernel_rfl) ?_ _
    go_wp2
    go_ret
    exact ⟨by simp, HT.out.drew⟩

set_option maxRecDepth 100000 in
set_option maxHeartbeats 2000000 in
theorem cright_any (i : InsD) (w : World) : Calls Try.prog 66 #[i.v] w fun e w' => e = .returned (.bool (rightI i)) ∧ Touch w w' [] := by
  obtain ⟨o, a, v⟩ := i
  simp only [InsD.v]
  have HT : Hid (Touch w (w.alloc (.cells #[.int .u8 o, .int .i64 a, .int .u64 v] 48)) []) := (Touch.refl w []).alloc _
  have hu : HidC Try.prog 82 #[.int .u8 o] (w.alloc (.cells #[.int .u8 o, .int .i64 a, .int .u64 v] 48)) _ := ⟨uses_any o _⟩
  have HH : Hid (∀ W, HidC Try.prog 83 #[.int .u8 o] W fun e w' => e = .returned (.int .i64 (highP o)) ∧ W = w') := fun W => ⟨highest_any o W⟩
  have HR : Hid (∀ W, HidC Try.prog 84 #[.int .u64 v] W fun e w' => e = .returned (.bool (rightB v)) ∧ W = w') := fun W => ⟨right_any v W⟩
  unfold rightI
  simp only
  generalize argP o = ap at *
  generalize valP o = vp at *
  generalize highP o = hi at *
  generalize rightB v = rv at *
  by_cases h28 : 28 < o
  · have e1 : decide (o ≤ 28) = false := by simp; omega
    simp only [e1, Bool.false_and]
    clear e1
    go_enter Try.func66, Try.ntmps66
    go_wp2_with fail
    refine hu.out.mono ?_
    rintro e w1 ⟨rfl, rfl⟩
    clear hu
    go_wp2
    go_ret
    exact ⟨rfl, HT.out⟩
  · have e1 : decide (o ≤ 28) = true := by simp; omega
    simp only [e1, Bool.true_and]
    clear e1
    by_cases hA : ap = false ∧ ¬ a = 0
    · obtain ⟨rfl, ha⟩ := hA
      have e2 : (a == 0) = false := by simpa using ha
      have e3 : (a != 0) = true := by simpa using ha
      simp only [e2, Bool.false_or, Bool.false_and]
      clear e2
      go_enter Try.func66, Try.ntmps66
      go_wp2_with fail
      refine hu.out.mono ?_
      rintro e w1 ⟨rfl, rfl⟩
      clear hu
      go_wp2
      go_ret
      exact ⟨rfl, HT.out⟩
    · have hA2 : ap = true ∨ a = 0 := by
        cases ap
        · simp at hA; exact .inr hA
        · exact .inl rfl
      have e2 : (ap || a == 0) = true := by rcases hA2 with rfl | rfl <;> simp
      simp only [e2, Bool.true_and]
      by_cases hV : vp = false ∧ ¬ v = 0
      · obtain ⟨rfl, hv⟩ := hV
        have e4 : (v == 0) = false := by simpa using hv
        have e5 : (v != 0) = true := by simpa using hv
        simp only [e4, Bool.false_or, Bool.false_and]
        clear e4 hA e2
        cases ap with
        | true =>
          clear hA2
          go_enter Try.func66, Try.ntmps66
          go_wp2_with fail
          refine hu.out.mono ?_
          rintro e w1 ⟨rfl, rfl⟩
          clear hu
          go_wp2
          go_ret
          exact ⟨rfl, HT.out⟩
        | false =>
          have ha : a = 0 := by simpa using hA2
          have ea : (a != 0) = false := by simp [ha]
          clear hA2 ha
          go_enter Try.func66, Try.ntmps66
          go_wp2_with fail
          refine hu.out.mono ?_
          rintro e w1 ⟨rfl, rfl⟩
          clear hu
          go_wp2
          go_ret
          exact ⟨rfl, HT.out⟩
      · have hV2 : vp = true ∨ v = 0 := by
          cases vp
          · simp at hV; exact .inr hV
          · exact .inl rfl
        have e4 : (vp || v == 0) = true := by rcases hV2 with rfl | rfl <;> simp
        simp only [e4, Bool.true_and]
        by_cases h0 : 0 ≤ a
        · by_cases h1 : a ≤ hi
          · simp only [h0, h1, decide_true, Bool.true_and]
            exact cr_ok o a v hi ap vp rv w h28 h0 h1 hA2 hV2 hu HH HR
          · simp only [h0, h1, decide_true, decide_false, Bool.true_and, Bool.false_and]
            exact cr_hi o a v hi ap vp rv w h28 h0 h1 hA2 hV2 hu HH HR
        · simp only [h0, decide_false, Bool.false_and]
          exact cr_neg o a v hi ap vp rv w h28 h0 hA2 hV2 hu HH HR

end Go.Proofs.Ytlndbligbpfdpaa
/-
  SLICES OF STRUCTS THAT CAN BE READ, and an untied proof's facts on the program.
-/
namespace Go.Proofs.Ytlndbligbpfdpaa
set_option linter.unusedVariables false
set_option linter.unusedSimpArgs false
open Go.ChangeShapes Go.WideShapes Go.ChangeAt Go.RowKit Go.Joins Go.Deep

/-- A slice of structs of n cells each, that can be read. -/
def SRow {α : Type} (n : Nat) (cells : α → List Value) (w : World) (v : Value) (l : List α) : Prop :=
  ∃ ao cap, v = .slice ao l.length cap ∧ (l ≠ [] → ∃ g off, ao = some ⟨g, off, none⟩ ∧ g < w.heap.size ∧ ∀ k (hk : k < l.length), ∀ j, j < n → w.cell? ⟨g, off + k * n + j, none⟩ = (cells l[k])[j]?)

theorem SRow.at {α : Type} {n : Nat} {cells : α → List Value} {w : World} {ao : Option Addr} {cap : Nat} {l : List α} (h : SRow n cells w (.slice ao l.length cap) l) (k : Nat) (hk : k < l.length) :
    ∃ g off, ao = some ⟨g, off, none⟩ ∧ g < w.heap.size ∧ ∀ j, j < n → w.cell? ⟨g, off + k * n + j, none⟩ = (cells l[k])[j]? := by
  obtain ⟨ao', cap', e, h1⟩ := h
  simp only [Value.slice.injEq, true_and] at e
  obtain ⟨rfl, rfl⟩ := e
  obtain ⟨g, off, rfl, hlt, hc⟩ := h1 (by intro e; rw [e] at hk; simp at hk)
  exact ⟨g, off, rfl, hlt, hc k hk⟩

theorem SRow.keep {α : Type} {n : Nat} {cells : α → List Value} {w w' : World} {v : Value} {l : List α} {S : List Nat} (h : SRow n cells w v l) (t : Touch w w' S) (hS : ∀ k ∈ S, w.heap.size ≤ k) : SRow n cells w' v l := by
  obtain ⟨ao, cap, e, h1⟩ := h
  refine ⟨ao, cap, e, fun hn => ?_⟩
  obtain ⟨g, off, rfl, hlt, hc⟩ := h1 hn
  have hne : g ∉ S := fun hs => by have := hS _ hs; omega
  exact ⟨g, off, rfl, Nat.lt_of_lt_of_le hlt t.size, fun k hk j hj => (t.cell (p := ⟨g, _, none⟩) hlt hne).trans (hc k hk j hj)⟩

/-- A slice of structs that came in. -/
theorem rows_of_trod {α : Type} {H : Type} {enc : TypeId × Value → H} {W : World} {n : Nat} {cells : α → List Value} {Wf : α → Prop} {T E : TypeId} (zero : α) (hn : 0 < n) (hlen : ∀ o, (cells o).length = n)
    (hu : Try.prog.underlying T = some (.slice E)) (hE : Try.prog.cellsOf E = n)
    (el : ∀ {w : World} {base : Nat} {spare : Nat → Bool} {held : Bool} {fuel : Nat} {cs : List Value} {x : DataW H × List MemPlace}, DataW.trod enc Try.prog w base spare held fuel E cs = some x → ∃ o, Wf o ∧ cs = cells o)
    {ao : Option Addr} {len cap : Nat} {d : DataW H} {p : List MemPlace} (h : DataW.Trod enc Try.prog W 0 (fun _ => true) true T (.slice ao len cap) d p) :
    ∃ l : List α, SRow n cells W (.slice ao len cap) l ∧ (∀ o ∈ l, Wf o) ∧ l.length ≤ maxLen := by
  obtain ⟨fuel, hf⟩ := h
  rcases open_slice hu hf with ⟨hcs, _⟩ | ⟨a, len', cap', m, n', D, Pl, hcs, _, hl, hm, hmm, _, hx⟩
  · simp [Value.cells] at hcs
    obtain ⟨rfl, rfl, rfl⟩ := hcs
    exact ⟨[], ⟨none, 0, rfl, fun hn => absurd rfl hn⟩, by simp, by simp⟩
  · simp [Value.cells] at hcs
    obtain ⟨rfl, rfl, rfl⟩ := hcs
    simp only [if_true] at hmm
    have hel : ∀ i, i < len → ∃ o : α, Wf o ∧ ∀ j, j < n → W.cell? (a.add (i * n + j)) = (cells o)[j]? := fun i hi => by
      obtain ⟨cs', h1, h2⟩ := hx i (by omega)
      obtain ⟨o, ho, rfl⟩ := el h2
      rw [hE] at h1
      obtain ⟨_, _, h3⟩ := World.cells?_some h1
      exact ⟨o, ho, fun j hj => by rw [← add_add]; exact h3 j hj⟩
    obtain ⟨f, hf⟩ : ∃ f : Nat → α, ∀ i, i < len → Wf (f i) ∧ ∀ j, j < n → W.cell? (a.add (i * n + j)) = (cells (f i))[j]? := by
      classical
      refine ⟨fun i => if hi : i < len then Classical.choose (hel i hi) else zero, fun i hi => ?_⟩
      simp only [dif_pos hi]
      exact Classical.choose_spec (hel i hi)
    refine ⟨(List.range len).map f, ⟨some a, cap, by simp, fun hnn => ?_⟩, ?_, by simp; omega⟩
    · have hpos : 0 < len := by
        rcases Nat.eq_zero_or_pos len with h0 | h0
        · subst h0; simp at hnn
        · exact h0
      have hc0 := (hf 0 hpos).2 0 hn
      have hl0 : 0 < (cells (f 0)).length := by rw [hlen]; exact hn
      have hc0' : W.cell? (a.add 0) = some (cells (f 0))[0] := by
        rw [show 0 * n + 0 = 0 by omega] at hc0
        rw [hc0]
        exact List.getElem?_eq_getElem hl0
      have hsp := World.cell?_spot hc0'
      obtain ⟨g, off, spot⟩ := a
      have : spot = none := by simpa [Addr.add] using hsp
      subst this
      have hlt := World.block_lt_of_cell? W _ hc0'
      refine ⟨g, off, rfl, by simpa [Addr.add] using hlt, fun k hk j hj => ?_⟩
      simp only [List.length_map, List.length_range] at hk
      simp only [List.getElem_map, List.getElem_range]
      have q := (hf k hk).2 j hj
      rw [Addr.add_lit] at q
      simp only [← Nat.add_assoc] at q
      exact q
    · intro o ho
      simp only [List.mem_map, List.mem_range] at ho
      obtain ⟨i, hi, rfl⟩ := ho
      exact (hf i hi).1

theorem wf_u8 {x : Int} (h : (Lit.int .u8 x).wf = true) : 0 ≤ x ∧ x ≤ 255 := by
  simp [Lit.wf, IntKind.min, IntKind.max, IntKind.signed, IntKind.bits] at h; omega
theorem wf_u64 {x : Int} (h : (Lit.int .u64 x).wf = true) : 0 ≤ x ∧ x < 18446744073709551616 := by
  simp [Lit.wf, IntKind.min, IntKind.max, IntKind.signed, IntKind.bits] at h; omega
theorem wf_i64 {x : Int} (h : (Lit.int .i64 x).wf = true) : -9223372036854775808 ≤ x ∧ x ≤ 9223372036854775807 := by
  simp [Lit.wf, IntKind.min, IntKind.max, IntKind.signed, IntKind.bits] at h; omega

theorem Try.cells_int : Try.prog.cellsOf 3 = 1 := by kernel_rfl
theorem Try.cells_u64 : Try.prog.cellsOf 24 = 1 := by kernel_rfl

end Go.Proofs.Ytlndbligbpfdpaa
/-
  append OF A WHOLE SLICE TO A ROW OF THE CALL's OWN. No walk.
-/
namespace Go.Proofs.Ytlndbligbpfdpaa
set_option linter.unusedVariables false
set_option linter.unusedSimpArgs false
open Go.RowKit

/-- append OF A WHOLE SLICE (nil or not) TO A ROW OF THE CALL's OWN THAT IS NOT nil: the value written out, and where it lies. -/
theorem run_append_src {P : Program} (w : World) (t ty e : TypeId) (base : Nat) (i : TypeInfo) (z : Value) (size bytes : Nat) (ht : P.underlying t = some (.slice e)) (hi : P.info? e = some i) (hz : i.zero = some z)
    (hsize : i.size = size) (hby : i.bytes = bytes) (hzs : z.cells.size = size) (hsz : 0 < size)
    (g0 n c0 : Nat) (xs : List Value) (hown : w.ownsRow base e size (.slice (some ⟨g0, 0, none⟩) n c0) n xs)
    (v2 : Value) (base2 m : Nat) (news : List Value) (hsrc : w.ownsRow base2 e size v2 m news) (h1 : ∀ u ∈ news, u.oneCell' = true)
    (h63 : n + m ≤ maxLen) (hbytes : (n + m) * bytes ≤ 140737488355328) (hbase : base ≤ w.heap.size) :
    ∃ g cap w', (Builtin.append_ #[t, t] ty #[.slice (some ⟨g0, 0, none⟩) n c0, v2]).run P w = .ok (.slice (some ⟨g, 0, none⟩) (n + m) cap) w' ∧
      w'.ownsRow base e size (.slice (some ⟨g, 0, none⟩) (n + m) cap) (n + m) (xs ++ news) ∧ w.grownBy w' (some g0) ∧ (g = g0 ∨ g = w.heap.size) ∧ g < w'.heap.size := by
  rcases hsrc.2 with ⟨rfl, h0⟩ | ⟨g2, cap2, cur2, rfl, _⟩
  · subst h0
    have hx : news = [] := List.eq_nil_of_length_eq_zero (by simpa using hsrc.1)
    subst hx
    have hrun := run_append_owned_none (P := P) (w := w) base t ty e i size ht hi _ n xs hown
    refine ⟨g0, c0, w, hrun, by simpa using hown, ⟨rfl, rfl, rfl, Nat.le_refl _, fun _ _ _ => rfl⟩, .inl rfl, ?_⟩
    exact (hown.lt g0 rfl).2
  · obtain ⟨v', w', hr, h2, h3, h4, h5⟩ := run_append_own_at (P := P) w base t ty e i z size bytes ht hi hz hsize hby hzs hsz _ n xs hown ⟨g2, 0, none⟩ m cap2 news hsrc.1 (hsrc.cells (g := g2) rfl) h1 h63 hbytes hbase
    have hne : v' ≠ .slice none 0 0 := fun e => by have := h4.1 e; simp at this
    rcases h2.2 with ⟨e, _⟩ | ⟨g, cap, cur, rfl, _, hg, _⟩
    · exact absurd e hne
    · refine ⟨g, cap, w', hr, h2, h3, ?_, lt_of_heap hg⟩
      rcases h5 with h5 | h5
      · left; simpa [Value.ownBlock] using h5
      · right; simpa [Value.ownBlock] using h5

theorem wp_append_src {P : Program} {w : World} {o : Oper} {a : Act} {K : Act → World → Prop} {Q : Exit → Act → World → Prop} (s x : Operand) (t : TypeId)
    (ho : o.op = .call { callee := .builtin .append, args := #[s, x], argTypes := #[t, t] })
    (base : Nat) (e : TypeId) (i : TypeInfo) (z : Value) (size bytes : Nat) (ht : P.underlying t = some (.slice e)) (hi : P.info? e = some i) (hz : i.zero = some z)
    (hsize : i.size = size) (hby : i.bytes = bytes) (hzs : z.cells.size = size) (hsz : 0 < size)
    (g0 n c0 : Nat) (xs : List Value) (hs : a.eval s = .slice (some ⟨g0, 0, none⟩) n c0) (hown : w.ownsRow base e size (.slice (some ⟨g0, 0, none⟩) n c0) n xs)
    (v2 : Value) (base2 m : Nat) (news : List Value) (hx : a.eval x = v2) (hsrc : w.ownsRow base2 e size v2 m news) (h1 : ∀ u ∈ news, u.oneCell' = true)
    (h63 : n + m ≤ maxLen) (hbytes : (n + m) * bytes ≤ 140737488355328) (hbase : base ≤ w.heap.size)
    (h : ∀ g cap w', w'.ownsRow base e size (.slice (some ⟨g, 0, none⟩) (n + m) cap) (n + m) (xs ++ news) → w.grownBy w' (some g0) → (g = g0 ∨ g = w.heap.size) → g < w'.heap.size → K (a.put o.dst (.slice (some ⟨g, 0, none⟩) (n + m) cap)) w') : o.wp P a w K Q := by
  obtain ⟨g, cap, w', hr, h2, h3, h4, h5⟩ := run_append_src (P := P) w t o.type e base i z size bytes ht hi hz hsize hby hzs hsz g0 n c0 xs hown v2 base2 m news hsrc h1 h63 hbytes hbase
  unfold Oper.wp execOp
  simp only [ho, resolve, invoke, builtin, Sem.run_bind, Sem.run_pure, Result.andThen_ok, List.map_toArray, List.map_cons, List.map_nil, hs, hx, hr]
  exact h g cap w' h2 h3 h4 h5

theorem wpList_append_src {P : Program} {w : World} {ops : Array Oper} {rest : List Oper} {o : Oper} {a : Act} {Q : Exit → Act → World → Prop} (hgd : o.guard = none) (s x : Operand) (t : TypeId)
    (ho : o.op = .call { callee := .builtin .append, args := #[s, x], argTypes := #[t, t] })
    (base : Nat) (e : TypeId) (i : TypeInfo) (z : Value) (size bytes : Nat) (ht : P.underlying t = some (.slice e)) (hi : P.info? e = some i) (hz : i.zero = some z)
    (hsize : i.size = size) (hby : i.bytes = bytes) (hzs : z.cells.size = size) (hsz : 0 < size)
    (g0 n c0 : Nat) (xs : List Value) (hs : a.eval s = .slice (some ⟨g0, 0, none⟩) n c0) (hown : w.ownsRow base e size (.slice (some ⟨g0, 0, none⟩) n c0) n xs)
    (v2 : Value) (base2 m : Nat) (news : List Value) (hx : a.eval x = v2) (hsrc : w.ownsRow base2 e size v2 m news) (h1 : ∀ u ∈ news, u.oneCell' = true)
    (h63 : n + m ≤ maxLen) (hbytes : (n + m) * bytes ≤ 140737488355328) (hbase : base ≤ w.heap.size)
    (h : ∀ g cap w', w'.ownsRow base e size (.slice (some ⟨g, 0, none⟩) (n + m) cap) (n + m) (xs ++ news) → w.grownBy w' (some g0) → (g = g0 ∨ g = w.heap.size) → g < w'.heap.size → wpList P ops Q rest (a.put o.dst (.slice (some ⟨g, 0, none⟩) (n + m) cap)) w') : wpList P ops Q (o :: rest) a w :=
  wpList_plain hgd fun _ hK => wp_append_src s x t ho base e i z size bytes ht hi hz hsize hby hzs hsz g0 n c0 xs hs hown v2 base2 m news hx hsrc h1 h63 hbytes hbase fun g cap w' h2 h3 h4 h5 => hK _ _ (h g cap w' h2 h3 h4 h5)

theorem step_append_src {P : Program} {w : World} {ops : Array Oper} {o : Oper} {a : Act} {K : Act → World → Prop} {Q : Exit → Act → World → Prop} {E : Prop} (hgd : o.guard = none) (s x : Operand) (t : TypeId)
    (ho : o.op = .call { callee := .builtin .append, args := #[s, x], argTypes := #[t, t] })
    (base : Nat) (e : TypeId) (i : TypeInfo) (z : Value) (size bytes : Nat) (ht : P.underlying t = some (.slice e)) (hi : P.info? e = some i) (hz : i.zero = some z)
    (hsize : i.size = size) (hby : i.bytes = bytes) (hzs : z.cells.size = size) (hsz : 0 < size)
    (g0 n c0 : Nat) (xs : List Value) (hs : a.eval s = .slice (some ⟨g0, 0, none⟩) n c0) (hown : w.ownsRow base e size (.slice (some ⟨g0, 0, none⟩) n c0) n xs)
    (v2 : Value) (base2 m : Nat) (news : List Value) (hx : a.eval x = v2) (hsrc : w.ownsRow base2 e size v2 m news) (h1 : ∀ u ∈ news, u.oneCell' = true)
    (h63 : n + m ≤ maxLen) (hbytes : (n + m) * bytes ≤ 140737488355328) (hbase : base ≤ w.heap.size)
    (h : ∀ g cap w', w'.ownsRow base e size (.slice (some ⟨g, 0, none⟩) (n + m) cap) (n + m) (xs ++ news) → w.grownBy w' (some g0) → (g = g0 ∨ g = w.heap.size) → g < w'.heap.size → K (a.put o.dst (.slice (some ⟨g, 0, none⟩) (n + m) cap)) w') :
    if Region.wanted o (yielded ops a.tmps) = true then Oper.wp P o a w K Q else E := by
  have hw : Region.wanted o (yielded ops a.tmps) = true := by simp [Region.wanted, hgd]
  rw [if_pos hw]
  exact wp_append_src s x t ho base e i z size bytes ht hi hz hsize hby hzs hsz g0 n c0 xs hs hown v2 base2 m news hx hsrc h1 h63 hbytes hbase h

theorem empty_row (w : World) (E size : Nat) : (w.alloc (.cells #[] E)).ownsRow w.heap.size E size (.slice (some ⟨w.heap.size, 0, none⟩) 0 0) 0 [] := World.ownsRow_made w #[] 0 (Nat.le_refl _) (by decide) (by simp)

end Go.Proofs.Ytlndbligbpfdpaa
/-
  append OF A SLICE THAT CAN BE READ TO A ROW OF ONE's OWN. No walk.
-/
namespace Go.Proofs.Ytlndbligbpfdpaa
set_option linter.unusedVariables false
set_option linter.unusedSimpArgs false
open Go.RowKit

theorem flat_len {α : Type} {cells : α → List Value} {n : Nat} (hc : ∀ x, (cells x).length = n) (l : List α) : (l.flatMap cells).length = l.length * n := by
  induction l with
  | nil => simp
  | cons x l ih => simp [List.flatMap_cons, hc, ih, Nat.add_mul]; omega
theorem flat_at {α : Type} {cells : α → List Value} {n : Nat} (hc : ∀ x, (cells x).length = n) (l : List α) : ∀ (k : Nat) (hk : k < l.length) (j : Nat), j < n → (l.flatMap cells)[k * n + j]? = (cells l[k])[j]? := by
  induction l with
  | nil => intro k hk; simp at hk
  | cons x l ih =>
    intro k hk j hj
    cases k with
    | zero => simp [List.flatMap_cons, List.getElem?_append_left, hc, hj]
    | succ k =>
      rw [List.flatMap_cons, List.getElem?_append_right (by rw [hc]; have : n ≤ (k + 1) * n := Nat.le_mul_of_pos_left n (by omega); omega), hc]
      have : (k + 1) * n + j - n = k * n + j := by rw [Nat.add_mul]; omega
      rw [this]
      simpa using ih k (by simpa using hk) j hj

/-- append of a slice that can be read to a row of one's own. -/
theorem run_app {P : Program} {α : Type} {cells : α → List Value} {w : World} (t ty e : TypeId) (i : TypeInfo) (z : Value) (size bytes : Nat) (ht : P.underlying t = some (.slice e)) (hi : P.info? e = some i) (hz : i.zero = some z)
    (hsize : i.size = size) (hby : i.bytes = bytes) (hzs : z.cells.size = size) (hsz : 0 < size) (hc : ∀ x, (cells x).length = size) (h1 : ∀ x, ∀ u ∈ cells x, u.oneCell' = true)
    {B n : Nat} {v : Value} {xs : List Value} (hown : w.ownsRow B e size v n xs) {ao : Option Addr} {cap : Nat} {l : List α} (hr : SRow size cells w (.slice ao l.length cap) l)
    (hb : (n + l.length) * bytes ≤ 140737488355328) (hbp : 0 < bytes) (hB : B ≤ w.heap.size) :
    ∃ v' w', (Builtin.append_ #[t, t] ty #[v, .slice ao l.length cap]).run P w = .ok v' w' ∧ w'.ownsRow B e size v' (n + l.length) (xs ++ l.flatMap cells) ∧ w.grownBy w' v.ownBlock ∧ (v'.ownBlock = v.ownBlock ∨ v'.ownBlock = some w.heap.size) := by
  have h63 : n + l.length ≤ maxLen := by
    unfold maxLen
    have : (n + l.length) * 1 ≤ (n + l.length) * bytes := Nat.mul_le_mul_left _ hbp
    omega
  cases ao with
  | none =>
    have hl0 : l = [] := by
      rcases l with _ | ⟨x, l⟩
      · rfl
      · obtain ⟨g, off, e, _⟩ := hr.at 0 (by simp); cases e
    subst hl0
    refine ⟨v, w, ?_, by simpa using hown, ⟨rfl, rfl, rfl, Nat.le_refl _, fun _ _ _ => rfl⟩, .inl rfl⟩
    rcases hown.2 with ⟨rfl, rfl⟩ | ⟨g, cap, cur, rfl, _, _, hnc, _⟩
    · simp [Builtin.append_, run_underlying ht, sizeOf, typeInfo, hi, Builtin.lenOf, Builtin.firstCells]
    · simp [Builtin.append_, run_underlying ht, sizeOf, typeInfo, hi, Builtin.lenOf, Builtin.firstCells, hnc, storeCells]
  | some a =>
    have hn : ∀ j u, (l.flatMap cells)[j]? = some u → w.cell? (a.add j) = some u := by
      intro j u hu
      have hj : j < l.length * size := by
        have := (List.getElem?_eq_some_iff.1 hu).1
        rwa [flat_len hc] at this
      have hk : j / size < l.length := Nat.div_lt_of_lt_mul (by rw [Nat.mul_comm]; exact hj)
      have hj2 : j % size < size := Nat.mod_lt _ hsz
      obtain ⟨g, off, e, _, hcc⟩ := hr.at (j / size) hk
      cases e
      have hjj : j = j / size * size + j % size := by rw [Nat.mul_comm]; exact (Nat.div_add_mod j size).symm
      have h2 := flat_at hc l (j / size) hk (j % size) hj2
      rw [← hjj, hu] at h2
      have h3 := hcc (j % size) hj2
      rw [Nat.add_assoc, ← hjj, ← h2] at h3
      rw [Addr.add_lit]
      exact h3
    obtain ⟨v', w', h1', h2, h3, h4, h5⟩ := run_append_own_at (P := P) w B t ty e i z size bytes ht hi hz hsize hby hzs hsz v n xs hown a l.length cap (l.flatMap cells) (flat_len hc l) hn
      (fun u hu => by obtain ⟨x, _, hx⟩ := List.mem_flatMap.1 hu; exact h1 x u hx) h63 hb hB
    exact ⟨v', w', h1', h2, h3, h5⟩

theorem flat_one {k : IntKind} (l : List Int) : l.flatMap (fun x : Int => [Value.int k x]) = l.map (Value.int k) := by
  induction l with
  | nil => rfl
  | cons x l ih => simp [List.flatMap_cons, ih]
theorem owns_slice {w : World} {B : Nat} {e : TypeId} {size : Nat} {v : Value} {n : Nat} {xs : List Value} (h : w.ownsRow B e size v n xs) : ∃ ao cap, v = .slice ao n cap := by
  rcases h.2 with ⟨rfl, rfl⟩ | ⟨g, cap, cur, rfl, _⟩
  · exact ⟨none, 0, rfl⟩
  · exact ⟨_, cap, rfl⟩
/-- A row of one's own can be read. -/
theorem srow_of {α : Type} {cells : α → List Value} {n : Nat} (hc : ∀ x, (cells x).length = n) {w : World} {B : Nat} {e : TypeId} {v : Value} {l : List α} (h : w.ownsRow B e n v l.length (l.flatMap cells)) : SRow n cells w v l := by
  rcases h.2 with ⟨rfl, h0⟩ | ⟨g, cap, cur, rfl, hb, hg, _⟩
  · have : l = [] := List.eq_nil_of_length_eq_zero h0
    subst this
    exact ⟨none, 0, rfl, fun h => absurd rfl h⟩
  · refine ⟨_, cap, rfl, fun _ => ⟨g, 0, rfl, lt_of_heap hg, fun k hk j hj => ?_⟩⟩
    have hkn : k * n + j < l.length * n := by
      have : (k + 1) * n ≤ l.length * n := Nat.mul_le_mul_right _ hk
      rw [Nat.add_mul] at this
      omega
    have h2 := flat_at hc l k hk j hj
    have hlt : k * n + j < (l.flatMap cells).length := by rw [flat_len hc]; exact hkn
    rw [← h2, List.getElem?_eq_getElem hlt]
    have := h.cells (g := g) rfl (k * n + j) _ (List.getElem?_eq_getElem hlt)
    rw [Addr.add_lit] at this
    rw [Nat.zero_add]
    simpa using this
theorem SRow.form {α : Type} {n : Nat} {cells : α → List Value} {w : World} {v : Value} {l : List α} (h : SRow n cells w v l) : ∃ ao cap, v = .slice ao l.length cap := by
  obtain ⟨ao, cap, e, _⟩ := h
  exact ⟨ao, cap, e⟩
/-- The block in which a row lies. -/
theorem SRow.keepB {α : Type} {n : Nat} {cells : α → List Value} {w w' : World} {v : Value} {l : List α} {S : List Nat} (h : SRow n cells w v l) (t : Touch w w' S) (hS : l ≠ [] → ∀ g, v.ownBlock = some g → g ∉ S) : SRow n cells w' v l := by
  obtain ⟨ao, cap, rfl, h1⟩ := h
  refine ⟨ao, cap, rfl, fun hn => ?_⟩
  obtain ⟨g, off, rfl, hlt, hc⟩ := h1 hn
  exact ⟨g, off, rfl, Nat.lt_of_lt_of_le hlt t.size, fun k hk j hj => (t.cell (p := ⟨g, _, none⟩) hlt (hS hn g rfl)).trans (hc k hk j hj)⟩
theorem SRow.block {α : Type} {n : Nat} {cells : α → List Value} {w : World} {v : Value} {l : List α} (h : SRow n cells w v l) (hl : l ≠ []) (g : Nat) (hg : v.ownBlock = some g) : g < w.heap.size := by
  obtain ⟨ao, cap, rfl, h1⟩ := h
  obtain ⟨g', off, rfl, hlt, _⟩ := h1 hl
  simp [Value.ownBlock] at hg
  omega

end Go.Proofs.Ytlndbligbpfdpaa
/-
  package spec: A WALK AS IT LIES; need, isPlace, burn, target, hangsOnState, truth BY THEIR CONTRACTS.
-/
namespace Go.Proofs.Ytlndbligbpfdpaa
set_option linter.unusedVariables false
set_option linter.unusedSimpArgs false
open Go.RowKit
attribute [local go_sem] Oper.semAt_some

/-- How far a thread is: its place, the stack, four locals, what it put out; the fuel that is left. -/
structure WD where
  pc : Int
  st : List Int
  l0 : Int
  l1 : Int
  l2 : Int
  l3 : Int
  out : List Int
  fuel : Int

/-- A block that begins with a walk: vs, vo, vp: the stack, what was put out, the program, as slices; tl: what stands behind. -/
structure WObj (w : World) (b : Nat) (T : TypeId) (tl : List Value) (vs vo vp : Value) (D : WD) : Prop where
  st : w.heap[b]? = some (.cells ⟨.int .i64 D.pc :: vs :: .int .u64 D.l0 :: .int .u64 D.l1 :: .int .u64 D.l2 :: .int .u64 D.l3 :: vo :: vp :: .int .i64 D.fuel :: tl⟩ T (0, 0))
theorem WObj.touch {w w' : World} {b : Nat} {T : TypeId} {tl : List Value} {vs vo vp : Value} {D : WD} {S : List Nat} (h : WObj w b T tl vs vo vp D) (t : Touch w w' S) (hS : b ∉ S) : WObj w' b T tl vs vo vp D := ⟨(t.block b (lt_of_heap h.st) hS).trans h.st⟩
theorem WObj.lt {w : World} {b : Nat} {T : TypeId} {tl : List Value} {vs vo vp : Value} {D : WD} (h : WObj w b T tl vs vo vp D) : b < w.heap.size := lt_of_heap h.st
theorem WObj.fr {w : World} {b : Nat} {T : TypeId} {tl : List Value} {vs vo vp : Value} {D : WD} (h : WObj w b T tl vs vo vp D) (j : Nat) : w.frozen? ⟨b, j, none⟩ = false := by unfold World.frozen?; rw [h.st]; simp
/-- What the cells of a walk hold. -/
structure WCells (w : World) (b : Nat) (vs vo vp : Value) (D : WD) : Prop where
  c0 : w.cell? ⟨b, 0, none⟩ = some (.int .i64 D.pc)
  c1 : w.cell? ⟨b, 1, none⟩ = some vs
  c2 : w.cell? ⟨b, 2, none⟩ = some (.int .u64 D.l0)
  c3 : w.cell? ⟨b, 3, none⟩ = some (.int .u64 D.l1)
  c4 : w.cell? ⟨b, 4, none⟩ = some (.int .u64 D.l2)
  c5 : w.cell? ⟨b, 5, none⟩ = some (.int .u64 D.l3)
  c6 : w.cell? ⟨b, 6, none⟩ = some vo
  c7 : w.cell? ⟨b, 7, none⟩ = some vp
  c8 : w.cell? ⟨b, 8, none⟩ = some (.int .i64 D.fuel)
theorem WObj.cells {w : World} {b : Nat} {T : TypeId} {tl : List Value} {vs vo vp : Value} {D : WD} (h : WObj w b T tl vs vo vp D) : WCells w b vs vo vp D := by
  constructor <;> (unfold World.cell?; rw [h.st]; rfl)
theorem WObj.set0 {w : World} {b : Nat} {T : TypeId} {tl : List Value} {vs vo vp : Value} {D : WD} (h : WObj w b T tl vs vo vp D) (x : Int) : WObj (w.setCell ⟨b, 0, none⟩ (.int .i64 x)) b T tl vs vo vp { D with pc := x } := ⟨by rw [heap_setCell_same _ _ _ _ _ _ h.st]; simp⟩
theorem WObj.set1 {w : World} {b : Nat} {T : TypeId} {tl : List Value} {vs vo vp : Value} {D : WD} (h : WObj w b T tl vs vo vp D) (v : Value) (l : List Int) : WObj (w.setCell ⟨b, 1, none⟩ v) b T tl v vo vp { D with st := l } := ⟨by rw [heap_setCell_same _ _ _ _ _ _ h.st]; simp⟩
theorem WObj.set6 {w : World} {b : Nat} {T : TypeId} {tl : List Value} {vs vo vp : Value} {D : WD} (h : WObj w b T tl vs vo vp D) (v : Value) (l : List Int) : WObj (w.setCell ⟨b, 6, none⟩ v) b T tl vs v vp { D with out := l } := ⟨by rw [heap_setCell_same _ _ _ _ _ _ h.st]; simp⟩
theorem WObj.set8 {w : World} {b : Nat} {T : TypeId} {tl : List Value} {vs vo vp : Value} {D : WD} (h : WObj w b T tl vs vo vp D) (x : Int) : WObj (w.setCell ⟨b, 8, none⟩ (.int .i64 x)) b T tl vs vo vp { D with fuel := x } := ⟨by rw [heap_setCell_same _ _ _ _ _ _ h.st]; simp⟩

/-- It gives up, by what can't go on ever: why. -/
def StuckP (er : Int) (w : World) (e : Ending) (w' : World) : Prop := e = .panicked [{ v := .iface 78 (.agg #[.int .i64 er]), recovered := false }] ∧ Touch w w' []

theorem sneed_ok (er : Int) (w : World) : Calls Try.prog 41 #[.bool true, .int .i64 er] w fun e w' => e = .returned (.tuple #[]) ∧ w = w' := by
  go_enter Try.func41, Try.ntmps41
  go_wp2
  go_end0
  exact ⟨rfl, rfl⟩
theorem sneed_no (er : Int) (w : World) : Calls Try.prog 41 #[.bool false, .int .i64 er] w (StuckP er w) := by
  go_enter Try.func41, Try.ntmps41
  go_wp2
  exact ⟨rfl, rfl, Touch.refl _ _⟩

/-- Is there an instruction at its place? -/
def placeP (pc : Int) (n : Nat) : Bool := decide (0 ≤ pc) && decide (pc < (n : Int))
set_option maxRecDepth 100000 in
set_option maxHeartbeats 1000000 in
theorem isPlace_any {w : World} {b : Nat} {T : TypeId} {tl : List Value} {vs vo : Value} {ao : Option Addr} {n cap : Nat} {D : WD} (h : WObj w b T tl vs vo (.slice ao n cap) D) :
    Calls Try.prog 65 #[.pointer (some ⟨b, 0, none⟩)] w fun e w' => e = .returned (.bool (placeP D.pc n)) ∧ ∃ q, w' = w.drewN q := by
  have c := h.cells
  have c0 := c.c0
  have c7 := c.c7
  unfold placeP
  generalize D.pc = pc at *
  clear h c
  by_cases h0 : 0 ≤ pc
  · have h0' : decide (0 ≤ pc) = true := decide_eq_true h0
    rw [h0', Bool.true_and]
    go_enter Try.func65, Try.ntmps65
    go_wp2_with fail
    go_quiet (fail)
    go_wp2
    go_ret
    exact ⟨rfl, _, rfl⟩
  · have h0' : decide (0 ≤ pc) = false := decide_eq_false h0
    rw [h0', Bool.false_and]
    go_enter Try.func65, Try.ntmps65
    go_wp2_with fail
    go_quiet (fail)
    go_wp2
    go_ret
    exact ⟨rfl, _, rfl⟩

/-- The fuel of one instruction. -/
theorem burn_ok {w : World} {b : Nat} {T : TypeId} {tl : List Value} {vs vo vp : Value} {D : WD} (h : WObj w b T tl vs vo vp D) (hf : 0 < D.fuel) (hm : D.fuel ≤ 300) :
    Calls Try.prog 61 #[.pointer (some ⟨b, 0, none⟩)] w fun e w' => e = .returned (.tuple #[]) ∧ WObj w' b T tl vs vo vp { D with fuel := D.fuel - 1 } ∧ Touch w w' [b] := by
  have c := h.cells
  have c8 := c.c8
  have f8 := h.fr 8
  have HS : Hid _ := h.set8 (D.fuel - 1)
  have HT : Hid (Touch w (w.setCell ⟨b, 8, none⟩ (.int .i64 (D.fuel - 1))) [b]) := (Touch.refl w [b]).setCell (.inl (by simp)) _
  have hn : HidC _ _ _ _ _ := ⟨sneed_ok 11 w⟩
  have hwr : IntKind.i64.wrap (D.fuel - 1) = D.fuel - 1 := by rw [IntKind.wrap_i64]; omega
  generalize D.fuel = fu at *
  have hd : decide (0 < fu) = true := decide_eq_true hf
  clear h c
  go_enter Try.func61, Try.ntmps61
  go_wp2_with fail
  refine hn.out.mono ?_
  rintro e _ ⟨rfl, rfl⟩
  clear hn
  go_wp2
  go_end0
  exact ⟨rfl, HS.out, HT.out⟩
theorem burn_no {w : World} {b : Nat} {T : TypeId} {tl : List Value} {vs vo vp : Value} {D : WD} (h : WObj w b T tl vs vo vp D) (hf : ¬ 0 < D.fuel) :
    Calls Try.prog 61 #[.pointer (some ⟨b, 0, none⟩)] w (StuckP 11 w) := by
  have c := h.cells
  have c8 := c.c8
  have hn : HidC _ _ _ _ _ := ⟨sneed_no 11 w⟩
  generalize D.fuel = fu at *
  have hd : decide (0 < fu) = false := decide_eq_false hf
  clear h c
  go_enter Try.func61, Try.ntmps61
  go_wp2_with fail
  refine hn.out.mono ?_
  rintro e w1 ⟨rfl, t1⟩
  exact ⟨rfl, rfl, t1⟩

theorem target_ok {w : World} {b : Nat} {T : TypeId} {tl : List Value} {vs vo : Value} {ao : Option Addr} {n cap : Nat} {D : WD} (h : WObj w b T tl vs vo (.slice ao n cap) D) (a : Int) (ha : a ≤ n) :
    Calls Try.prog 44 #[.pointer (some ⟨b, 0, none⟩), .int .i64 a] w fun e w' => e = .returned (.int .i64 a) ∧ w = w' := by
  have c := h.cells
  have c7 := c.c7
  have hn : HidC _ _ _ _ _ := ⟨sneed_ok 2 w⟩
  have hd : decide (a ≤ (n : Int)) = true := decide_eq_true ha
  clear h c
  go_enter Try.func44, Try.ntmps44
  go_wp2_with fail
  refine hn.out.mono ?_
  rintro e _ ⟨rfl, rfl⟩
  clear hn
  go_wp2
  go_ret
  exact ⟨rfl, rfl⟩
theorem target_no {w : World} {b : Nat} {T : TypeId} {tl : List Value} {vs vo : Value} {ao : Option Addr} {n cap : Nat} {D : WD} (h : WObj w b T tl vs vo (.slice ao n cap) D) (a : Int) (ha : ¬ a ≤ n) :
    Calls Try.prog 44 #[.pointer (some ⟨b, 0, none⟩), .int .i64 a] w (StuckP 2 w) := by
  have c := h.cells
  have c7 := c.c7
  have hn : HidC _ _ _ _ _ := ⟨sneed_no 2 w⟩
  have hd : decide (a ≤ (n : Int)) = false := decide_eq_false ha
  clear h c
  go_enter Try.func44, Try.ntmps44
  go_wp2_with fail
  refine hn.out.mono ?_
  rintro e w1 ⟨rfl, t1⟩
  exact ⟨rfl, rfl, t1⟩

/-- Does an operation hang on the State alone? -/
def plainO (o : Int) : Bool := !decide (o = 4 ∨ o = 5 ∨ o = 6 ∨ o = 7 ∨ o = 26 ∨ o = 28 ∨ o = 21 ∨ o = 22 ∨ o = 23 ∨ o = 24 ∨ o = 25)
set_option maxRecDepth 100000 in
theorem hangs_any (o : Int) (w : World) : Calls Try.prog 42 #[.int .u8 o] w fun e w' => e = .returned (.bool (plainO o)) ∧ w = w' := by
  rcases (show o = 4 ∨ o = 5 ∨ o = 6 ∨ o = 7 ∨ o = 26 ∨ o = 28 ∨ o = 21 ∨ o = 22 ∨ o = 23 ∨ o = 24 ∨ o = 25 ∨ (o ≠ 4 ∧ o ≠ 5 ∧ o ≠ 6 ∧ o ≠ 7 ∧ o ≠ 26 ∧ o ≠ 28 ∧ o ≠ 21 ∧ o ≠ 22 ∧ o ≠ 23 ∧ o ≠ 24 ∧ o ≠ 25) by omega) with rfl | rfl | rfl | rfl | rfl | rfl | rfl | rfl | rfl | rfl | rfl | ⟨h4, h5, h6, h7, h26, h28, h21, h22, h23, h24, h25⟩
  all_goals try (
    go_enter Try.func42, Try.ntmps42
    go_wp2
    go_ret
    exact ⟨rfl, rfl⟩)
  have e : plainO o = true := by simp [plainO, *]
  rw [e]
  go_enter Try.func42, Try.ntmps42
  go_wp2
  go_ret
  exact ⟨rfl, rfl⟩

/-- One, or 0. -/
def oneV (x : Bool) : Int := if x then 4607182418800017408 else 0
theorem struth_any (x : Bool) (w : World) : Calls Try.prog 70 #[.bool x] w fun e w' => e = .returned (.int .u64 (oneV x)) ∧ w = w' := by
  cases x
  · show Calls _ _ _ _ fun e w' => e = .returned (.int .u64 0) ∧ w = w'
    go_enter Try.func70, Try.ntmps70
    go_wp2
    go_ret
    exact ⟨rfl, rfl⟩
  · show Calls _ _ _ _ fun e w' => e = .returned (.int .u64 4607182418800017408) ∧ w = w'
    go_enter Try.func70, Try.ntmps70
    go_wp2
    go_ret
    exact ⟨rfl, rfl⟩

end Go.Proofs.Ytlndbligbpfdpaa
/-
  package spec: standsAt, here BY THEIR CONTRACTS.
-/
namespace Go.Proofs.Ytlndbligbpfdpaa
set_option linter.unusedVariables false
set_option linter.unusedSimpArgs false
open Go.RowKit
attribute [local go_sem] Oper.semAt_some

theorem WObj.drewN {w : World} {b : Nat} {T : TypeId} {tl : List Value} {vs vo vp : Value} {D : WD} (h : WObj w b T tl vs vo vp D) (q : Nat) : WObj (w.drewN q) b T tl vs vo vp D := h.touch ((Touch.refl w []).drewN q) (by simp)
abbrev InsRow := SRow 3 InsD.cells
/-- The program's instruction at a place. -/
theorem ins_cells {w : World} {ao : Option Addr} {cap : Nat} {l : List InsD} (h : InsRow w (.slice ao l.length cap) l) (k : Nat) (hk : k < l.length) :
    ∃ g off, ao = some ⟨g, off, none⟩ ∧ g < w.heap.size ∧ w.cell? ⟨g, off + k * 3, none⟩ = some (.int .u8 l[k].op) ∧ w.cell? ⟨g, off + k * 3 + 1, none⟩ = some (.int .i64 l[k].arg) ∧ w.cell? ⟨g, off + k * 3 + 2, none⟩ = some (.int .u64 l[k].val) := by
  obtain ⟨g, off, e, hg, hc⟩ := h.at k hk
  exact ⟨g, off, e, hg, hc 0 (by omega), hc 1 (by omega), hc 2 (by omega)⟩

/-- The operation at a place; -1: none. -/
def opAtW (l : List InsD) (pc : Int) : Int := if placeP pc l.length then (l.getD pc.toNat ⟨0, 0, 0⟩).op else -1

set_option maxRecDepth 100000 in
set_option maxHeartbeats 1000000 in
theorem standsAt_any {w : World} {b : Nat} {T : TypeId} {tl : List Value} {vs vo : Value} {ao : Option Addr} {cap : Nat} {D : WD} {l : List InsD} (h : WObj w b T tl vs vo (.slice ao l.length cap) D) (hl : InsRow w (.slice ao l.length cap) l) (o : Int) (ho : 0 ≤ o) :
    Calls Try.prog 60 #[.pointer (some ⟨b, 0, none⟩), .int .u8 o] w fun e w' => e = .returned (.bool (opAtW l D.pc == o)) ∧ ∃ q, w' = w.drewN q := by
  have HIP : Hid (∀ q, HidC Try.prog 65 #[.pointer (some ⟨b, 0, none⟩)] (w.drewN q) fun e w' => e = .returned (.bool (placeP D.pc l.length)) ∧ ∃ q', w' = w.drewN q') := fun q => ⟨by
    refine (isPlace_any (h.drewN q)).mono ?_
    rintro e w' ⟨rfl, q', rfl⟩
    exact ⟨rfl, _, World.drewN_drewN _ _ _⟩⟩
  have c := h.cells
  have c0 := c.c0
  have c7 := c.c7
  unfold opAtW
  cases hp : placeP D.pc l.length with
  | false =>
    rw [hp] at HIP
    have hne : (((-1 : Int)) == o) = false := by simp; omega
    simp only [Bool.false_eq_true, if_false, hne]
    generalize l.length = n at *
    clear h hl c hp
    go_enter Try.func60, Try.ntmps60
    go_wp2_with fail
    go_quiet (first | (go_at_call 65; exact (HIP.out _).out))
    go_wp2
    go_ret
    exact ⟨rfl, _, rfl⟩
  | true =>
    have hpl := hp
    unfold placeP at hpl
    simp only [Bool.and_eq_true, decide_eq_true_eq] at hpl
    obtain ⟨k, hk⟩ := Int.eq_ofNat_of_zero_le hpl.1
    have hkl : k < l.length := by omega
    obtain ⟨g, off, rfl, hg, d0, d1, d2⟩ := ins_cells hl k hkl
    have hop : (l.getD D.pc.toNat ⟨0, 0, 0⟩).op = l[k].op := by rw [hk, Int.toNat_natCast, List.getD, List.getElem?_eq_getElem hkl]; rfl
    rw [hp] at HIP
    simp only [if_true, hop]
    rw [hk] at c0
    have h1 : (k : Int) < l.length := by omega
    have h0 : (0 : Int) ≤ k := by omega
    clear h hl c hp hpl hop d1 d2
    generalize l[k].op = io at *
    clear hkl
    generalize l.length = n at *
    go_enter Try.func60, Try.ntmps60
    go_wp2_with fail
    go_quiet (first | (go_at_call 65; exact (HIP.out _).out))
    go_wp2
    go_ret
    exact ⟨rfl, _, rfl⟩

end Go.Proofs.Ytlndbligbpfdpaa
/-
  AN INSTRUCTION IN A BLOCK OF ITS OWN. No walk.
-/
namespace Go.Proofs.Ytlndbligbpfdpaa
set_option linter.unusedVariables false
set_option linter.unusedSimpArgs false
open Go.RowKit

/-- An instruction in a block of its own. -/
structure BoxI (W : World) (p : Nat) (o a v : Int) : Prop where
  st : W.heap[p]? = some (.cells #[.int .u8 o, .int .i64 a, .int .u64 v] 48 (0, 0))
theorem BoxI.touch {W W' : World} {p : Nat} {o a v : Int} {S : List Nat} (h : BoxI W p o a v) (t : Touch W W' S) (hS : p ∉ S) : BoxI W' p o a v := ⟨(t.block p (lt_of_heap h.st) hS).trans h.st⟩
theorem BoxI.cells {W : World} {p : Nat} {o a v : Int} (h : BoxI W p o a v) : W.cell? ⟨p, 0, none⟩ = some (.int .u8 o) ∧ W.cell? ⟨p, 1, none⟩ = some (.int .i64 a) ∧ W.cell? ⟨p, 2, none⟩ = some (.int .u64 v) :=
  ⟨by unfold World.cell?; rw [h.st]; rfl, by unfold World.cell?; rw [h.st]; rfl, by unfold World.cell?; rw [h.st]; rfl⟩
theorem BoxI.fr {W : World} {p : Nat} {o a v : Int} (h : BoxI W p o a v) (j : Nat) : W.frozen? ⟨p, j, none⟩ = false := by unfold World.frozen?; rw [h.st]; simp
theorem BoxI.set1 {W : World} {p : Nat} {o a v : Int} (h : BoxI W p o a v) (x : Int) : BoxI (W.setCell ⟨p, 1, none⟩ (.int .i64 x)) p o x v := ⟨heap_setCell_same _ _ _ _ _ _ h.st⟩
theorem BoxI.set2 {W : World} {p : Nat} {o a v : Int} (h : BoxI W p o a v) (x : Int) : BoxI (W.setCell ⟨p, 2, none⟩ (.int .u64 x)) p o a x := ⟨heap_setCell_same _ _ _ _ _ _ h.st⟩
theorem BoxI.set0 {W : World} {p : Nat} {o a v : Int} (h : BoxI W p o a v) (x : Int) : BoxI (W.setCell ⟨p, 0, none⟩ (.int .u8 x)) p x a v := ⟨heap_setCell_same _ _ _ _ _ _ h.st⟩
theorem BoxI.lt {W : World} {p : Nat} {o a v : Int} (h : BoxI W p o a v) : p < W.heap.size := lt_of_heap h.st
theorem BoxI.new (w : World) (o a v : Int) : BoxI (w.alloc (.cells #[.int .u8 o, .int .i64 a, .int .u64 v] 48)) w.heap.size o a v := ⟨heap_alloc_new w _⟩

end Go.Proofs.Ytlndbligbpfdpaa
/-
  package spec: here BY ITS CONTRACT.
-/
namespace Go.Proofs.Ytlndbligbpfdpaa
set_option linter.unusedVariables false
set_option linter.unusedSimpArgs false
open Go.RowKit
attribute [local go_sem] Oper.semAt_some

/-- The instruction at a place, if there is one, and it is right. -/
def hereP (l : List InsD) (pc : Int) : Option InsD := if placeP pc l.length then (if rightI (l.getD pc.toNat ⟨0, 0, 0⟩) then some (l.getD pc.toNat ⟨0, 0, 0⟩) else none) else none

theorem res_cell {fn : Func} {p : Tmp} {ty : TypeId} (h : fn.results = #[.cell p ty]) (tmps : Array Value) (P : Program) (w : World) :
    (results fn tmps).run P w = ((asAddr (tmps.getD p undef)).run P w).andThen fun a w₁ => (loadVar ty a).run P w₁ := by
  simp only [results, h]
  simp [Sem.run_bind, Result.andThen]

set_option maxRecDepth 100000 in
set_option maxHeartbeats 2000000 in
theorem here_far {w : World} {b : Nat} {T : TypeId} {tl : List Value} {vs vo : Value} {ao : Option Addr} {n cap : Nat} {D : WD} (h : WObj w b T tl vs vo (.slice ao n cap) D) (hp : placeP D.pc n = false) :
    Calls Try.prog 40 #[.pointer (some ⟨b, 0, none⟩)] w (StuckP 3 w) := by
  have HT0 : Hid (Touch w (w.alloc (.cells #[.int .u8 0, .int .i64 0, .int .u64 0] 48)) []) := (Touch.refl w []).alloc _
  have HIP : Hid (∀ W, Touch (w.alloc (.cells #[.int .u8 0, .int .i64 0, .int .u64 0] 48)) W [] → HidC Try.prog 65 #[.pointer (some ⟨b, 0, none⟩)] W fun e w' => e = .returned (.bool false) ∧ Touch (w.alloc (.cells #[.int .u8 0, .int .i64 0, .int .u64 0] 48)) w' []) := fun W t => ⟨by
    have q := isPlace_any ((h.touch HT0.out (by simp)).touch t (by simp))
    rw [hp] at q
    refine q.mono ?_
    rintro e w' ⟨rfl, m, rfl⟩
    exact ⟨rfl, t.drewN _⟩⟩
  have HK : Hid (∀ W, Touch (w.alloc (.cells #[.int .u8 0, .int .i64 0, .int .u64 0] 48)) W [] → (W.cell? ⟨b, 0, none⟩ = some (.int .i64 D.pc) ∧ W.cell? ⟨b, 7, none⟩ = some (.slice ao n cap)) ∧ (W.cell? ⟨w.heap.size, 0, none⟩ = some (.int .u8 0) ∧ W.cell? ⟨w.heap.size, 1, none⟩ = some (.int .i64 0) ∧ W.cell? ⟨w.heap.size, 2, none⟩ = some (.int .u64 0) ∧ W.frozen? ⟨w.heap.size, 0, none⟩ = false ∧ W.frozen? ⟨w.heap.size, 1, none⟩ = false ∧ W.frozen? ⟨w.heap.size, 2, none⟩ = false)) := fun W t => by
    have c := ((h.touch HT0.out (by simp)).touch t (by simp)).cells
    have x := (BoxI.new w 0 0 0).touch t (by simp)
    exact ⟨⟨c.c0, c.c7⟩, x.cells.1, x.cells.2.1, x.cells.2.2, x.fr 0, x.fr 1, x.fr 2⟩
  generalize D.pc = pc at *
  clear h hp
  go_enter Try.func40, Try.ntmps40
  go_wp2_with fail
  generalize w.alloc (.cells #[.int .u8 0, .int .i64 0, .int .u64 0] 48) = Q at *
  have hd : Touch Q Q.drew [] := (Touch.refl Q []).drew
  refine wp_region_held_drew (S := (fun w' : World => (w'.cell? ⟨b, 0, none⟩ = some (.int .i64 pc) ∧ w'.cell? ⟨b, 7, none⟩ = some (.slice ao n cap)) ∧  (w'.cell? ⟨w.heap.size, 0, none⟩ = some (.int .u8 0) ∧ w'.cell? ⟨w.heap.size, 1, none⟩ = some (.int .i64 0) ∧ w'.cell? ⟨w.heap.size, 2, none⟩ = some (.int .u64 0) ∧ w'.frozen? ⟨w.heap.size, 0, none⟩ = false ∧ w'.frozen? ⟨w.heap.size, 1, none⟩ = false ∧ w'.frozen? ⟨w.heap.size, 2, none⟩ = false))) (by kernel_rfl) (HK.out _ hd) (fun hHeld => ?_)
  try simp only [Act.put, List.getElem_toArray, List.getElem_cons_succ, List.getElem_cons_zero, List.setIfInBounds_toArray, List.set_cons_zero, List.set_cons_succ]
  refine wpAnyH_take (i := 0) (v := (.pointer (some ⟨b, 0, none⟩))) rfl (by kernel_rfl) (by kernel_rfl) (by kernel_rfl) (fun _ _ _ h => h) (Or.inl ⟨by rfl, ?_⟩) hHeld ?_
  · intro w' hSw
    go_simp
  try simp only [Act.put, List.getElem_toArray, List.getElem_cons_succ, List.getElem_cons_zero, List.setIfInBounds_toArray, List.set_cons_zero, List.set_cons_succ]
  clear hHeld
  refine wpAnyH_ready (rs := [1]) (by kernel_rfl) (by simp) (AllReadyH.cons rfl (fun K hK => ?_) AllReadyH.nil)
  rw [if_pos (by rfl)]
  go_simp
  refine (HIP.out _ hd).out.mono ?_
  rintro e w1 ⟨rfl, t1⟩
  go_simp
  refine hK.out _ _ (HK.out _ t1) (fun hHeld => ?_)
  clear hK
  try simp only [Act.put, List.getElem_toArray, List.getElem_cons_succ, List.getElem_cons_zero, List.setIfInBounds_toArray, List.set_cons_zero, List.set_cons_succ]
  refine wpAnyH_take (i := 2) (v := (.bool false)) rfl (by kernel_rfl) (by kernel_rfl) (by kernel_rfl) (fun _ _ _ h => h) (Or.inl ⟨by rfl, ?_⟩) hHeld ?_
  · intro w' hSw
    go_simp
  try simp only [Act.put, List.getElem_toArray, List.getElem_cons_succ, List.getElem_cons_zero, List.setIfInBounds_toArray, List.set_cons_zero, List.set_cons_succ]
  refine wpAnyH_take (i := 3) (v := undef) rfl (by kernel_rfl) (by kernel_rfl) (by kernel_rfl) (fun _ _ _ h => h) (Or.inr ⟨by rfl, rfl⟩) hHeld ?_
  try simp only [Act.put, List.getElem_toArray, List.getElem_cons_succ, List.getElem_cons_zero, List.setIfInBounds_toArray, List.set_cons_zero, List.set_cons_succ]
  refine wpAnyH_take (i := 4) (v := undef) rfl (by kernel_rfl) (by kernel_rfl) (by kernel_rfl) (fun _ _ _ h => h) (Or.inr ⟨by rfl, rfl⟩) hHeld ?_
  try simp only [Act.put, List.getElem_toArray, List.getElem_cons_succ, List.getElem_cons_zero, List.setIfInBounds_toArray, List.set_cons_zero, List.set_cons_succ]
  refine wpAnyH_take (i := 5) (v := undef) rfl (by kernel_rfl) (by kernel_rfl) (by kernel_rfl) (fun _ _ _ h => h) (Or.inr ⟨by rfl, rfl⟩) hHeld ?_
  try simp only [Act.put, List.getElem_toArray, List.getElem_cons_succ, List.getElem_cons_zero, List.setIfInBounds_toArray, List.set_cons_zero, List.set_cons_succ]
  refine wpAnyH_take (i := 6) (v := undef) rfl (by kernel_rfl) (by kernel_rfl) (by kernel_rfl) (fun _ _ _ h => h) (Or.inr ⟨by rfl, rfl⟩) hHeld ?_
  try simp only [Act.put, List.getElem_toArray, List.getElem_cons_succ, List.getElem_cons_zero, List.setIfInBounds_toArray, List.set_cons_zero, List.set_cons_succ]
  refine wpAnyH_take (i := 7) (v := undef) rfl (by kernel_rfl) (by kernel_rfl) (by kernel_rfl) (fun _ _ _ h => h) (Or.inr ⟨by rfl, rfl⟩) hHeld ?_
  try simp only [Act.put, List.getElem_toArray, List.getElem_cons_succ, List.getElem_cons_zero, List.setIfInBounds_toArray, List.set_cons_zero, List.set_cons_succ]
  refine wpAnyH_take (i := 8) (v := undef) rfl (by kernel_rfl) (by kernel_rfl) (by kernel_rfl) (fun _ _ _ h => h) (Or.inr ⟨by rfl, rfl⟩) hHeld ?_
  try simp only [Act.put, List.getElem_toArray, List.getElem_cons_succ, List.getElem_cons_zero, List.setIfInBounds_toArray, List.set_cons_zero, List.set_cons_succ]
  refine wpAnyH_take (i := 9) (v := undef) rfl (by kernel_rfl) (by kernel_rfl) (by kernel_rfl) (fun _ _ _ h => h) (Or.inr ⟨by rfl, rfl⟩) hHeld ?_
  try simp only [Act.put, List.getElem_toArray, List.getElem_cons_succ, List.getElem_cons_zero, List.setIfInBounds_toArray, List.set_cons_zero, List.set_cons_succ]
  refine wpAnyH_take (i := 10) (v := undef) rfl (by kernel_rfl) (by kernel_rfl) (by kernel_rfl) (fun _ _ _ h => h) (Or.inr ⟨by rfl, rfl⟩) hHeld ?_
  try simp only [Act.put, List.getElem_toArray, List.getElem_cons_succ, List.getElem_cons_zero, List.setIfInBounds_toArray, List.set_cons_zero, List.set_cons_succ]
  refine wpAnyH_take (i := 11) (v := undef) rfl (by kernel_rfl) (by kernel_rfl) (by kernel_rfl) (fun _ _ _ h => h) (Or.inr ⟨by rfl, rfl⟩) hHeld ?_
  try simp only [Act.put, List.getElem_toArray, List.getElem_cons_succ, List.getElem_cons_zero, List.setIfInBounds_toArray, List.set_cons_zero, List.set_cons_succ]
  refine wpAnyH_take (i := 12) (v := undef) rfl (by kernel_rfl) (by kernel_rfl) (by kernel_rfl) (fun _ _ _ h => h) (Or.inr ⟨by rfl, rfl⟩) hHeld ?_
  try simp only [Act.put, List.getElem_toArray, List.getElem_cons_succ, List.getElem_cons_zero, List.setIfInBounds_toArray, List.set_cons_zero, List.set_cons_succ]
  refine wpAnyH_take (i := 13) (v := undef) rfl (by kernel_rfl) (by kernel_rfl) (by kernel_rfl) (fun _ _ _ h => h) (Or.inr ⟨by rfl, rfl⟩) hHeld ?_
  try simp only [Act.put, List.getElem_toArray, List.getElem_cons_succ, List.getElem_cons_zero, List.setIfInBounds_toArray, List.set_cons_zero, List.set_cons_succ]
  refine wpAnyH_take (i := 14) (v := undef) rfl (by kernel_rfl) (by kernel_rfl) (by kernel_rfl) (fun _ _ _ h => h) (Or.inr ⟨by rfl, rfl⟩) hHeld ?_
  try simp only [Act.put, List.getElem_toArray, List.getElem_cons_succ, List.getElem_cons_zero, List.setIfInBounds_toArray, List.set_cons_zero, List.set_cons_succ]
  refine wpAnyH_take (i := 15) (v := (.bool false)) rfl (by kernel_rfl) (by kernel_rfl) (by kernel_rfl) (fun _ _ _ h => h) (Or.inl ⟨by rfl, ?_⟩) hHeld ?_
  · intro w' hSw
    go_simp
  try simp only [Act.put, List.getElem_toArray, List.getElem_cons_succ, List.getElem_cons_zero, List.setIfInBounds_toArray, List.set_cons_zero, List.set_cons_succ]
  clear hHeld
  refine wpAnyH_ready (rs := [16]) (by kernel_rfl) (by simp) (AllReadyH.cons rfl (fun K hK => ?_) AllReadyH.nil)
  rw [if_pos (by rfl)]
  go_simp
  refine (sneed_no 3 _).mono ?_
  rintro e w5 ⟨rfl, t5⟩
  exact ⟨rfl, rfl, HT0.out.trans (t1.trans t5 (by simp)) (by simp)⟩

set_option maxRecDepth 100000 in
set_option maxHeartbeats 2000000 in
theorem here_wrong {w : World} {b : Nat} {T : TypeId} {tl : List Value} {vs vo : Value} {ao : Option Addr} {cap : Nat} {D : WD} {l : List InsD} (h : WObj w b T tl vs vo (.slice ao l.length cap) D) (hl : InsRow w (.slice ao l.length cap) l) (k : Nat) (hk : k < l.length) (hpc : D.pc = k) (hri : rightI l[k] = false) :
    Calls Try.prog 40 #[.pointer (some ⟨b, 0, none⟩)] w (StuckP 3 w) := by
  have HT0 : Hid (Touch w (w.alloc (.cells #[.int .u8 0, .int .i64 0, .int .u64 0] 48)) []) := (Touch.refl w []).alloc _
  have hp : placeP D.pc l.length = true := by unfold placeP; rw [hpc]; simp; omega
  have HIP : Hid (∀ W, Touch (w.alloc (.cells #[.int .u8 0, .int .i64 0, .int .u64 0] 48)) W [] → HidC Try.prog 65 #[.pointer (some ⟨b, 0, none⟩)] W fun e w' => e = .returned (.bool true) ∧ Touch (w.alloc (.cells #[.int .u8 0, .int .i64 0, .int .u64 0] 48)) w' []) := fun W t => ⟨by
    have q := isPlace_any ((h.touch HT0.out (by simp)).touch t (by simp))
    rw [hp] at q
    refine q.mono ?_
    rintro e w' ⟨rfl, m, rfl⟩
    exact ⟨rfl, t.drewN _⟩⟩
  obtain ⟨g, off, rfl, hg, d0, d1, d2⟩ := ins_cells hl k hk
  have HRI : Hid (∀ W, HidC Try.prog 66 #[l[k].v] W fun e w' => e = .returned (.bool false) ∧ Touch W w' []) := fun W => ⟨by have q := cright_any l[k] W; rw [hri] at q; exact q⟩
  have HK : Hid (∀ W, Touch (w.alloc (.cells #[.int .u8 0, .int .i64 0, .int .u64 0] 48)) W [] → (W.cell? ⟨b, 0, none⟩ = some (.int .i64 (k : Int)) ∧ W.cell? ⟨b, 7, none⟩ = some (.slice (some ⟨g, off, none⟩) l.length cap)) ∧ (W.cell? ⟨g, off + k * 3, none⟩ = some (.int .u8 l[k].op) ∧ W.cell? ⟨g, off + k * 3 + 1, none⟩ = some (.int .i64 l[k].arg) ∧ W.cell? ⟨g, off + k * 3 + 2, none⟩ = some (.int .u64 l[k].val)) ∧ (W.cell? ⟨w.heap.size, 0, none⟩ = some (.int .u8 0) ∧ W.cell? ⟨w.heap.size, 1, none⟩ = some (.int .i64 0) ∧ W.cell? ⟨w.heap.size, 2, none⟩ = some (.int .u64 0) ∧ W.frozen? ⟨w.heap.size, 0, none⟩ = false ∧ W.frozen? ⟨w.heap.size, 1, none⟩ = false ∧ W.frozen? ⟨w.heap.size, 2, none⟩ = false)) := fun W t => by
    have c := ((h.touch HT0.out (by simp)).touch t (by simp)).cells
    have x := (BoxI.new w 0 0 0).touch t (by simp)
    have tw := HT0.out.trans t (by simp)
    have c0 := c.c0
    rw [hpc] at c0
    exact ⟨⟨c0, c.c7⟩, ⟨(tw.cell (p := ⟨g, _, none⟩) hg (by simp)).trans d0, (tw.cell (p := ⟨g, _, none⟩) hg (by simp)).trans d1, (tw.cell (p := ⟨g, _, none⟩) hg (by simp)).trans d2⟩, x.cells.1, x.cells.2.1, x.cells.2.2, x.fr 0, x.fr 1, x.fr 2⟩
  have HBN : Hid (∀ W, Touch (w.alloc (.cells #[.int .u8 0, .int .i64 0, .int .u64 0] 48)) W [] → BoxI W w.heap.size 0 0 0) := fun W t => (BoxI.new w 0 0 0).touch t (by simp)
  have hgr : g ≠ w.heap.size := by omega
  have hbr : b ≠ w.heap.size := by have := h.lt; omega
  have h1 : (k : Int) < l.length := by omega
  have h0 : (0 : Int) ≤ k := by omega
  clear h hl hp hpc hri d0 d1 d2 hg
  generalize l[k] = i at *
  obtain ⟨io, ia, iv⟩ := i
  simp only [InsD.v] at *
  clear hk
  generalize l.length = n at *
  go_enter Try.func40, Try.ntmps40
  go_wp2_with fail
  generalize w.alloc (.cells #[.int .u8 0, .int .i64 0, .int .u64 0] 48) = Q at *
  have hd : Touch Q Q.drew [] := (Touch.refl Q []).drew
  refine wp_region_held_drew (S := (fun w' : World => (w'.cell? ⟨b, 0, none⟩ = some (.int .i64 (k : Int)) ∧ w'.cell? ⟨b, 7, none⟩ = some (.slice (some ⟨g, off, none⟩) n cap)) ∧ (w'.cell? ⟨g, off + k * 3, none⟩ = some (.int .u8 io) ∧ w'.cell? ⟨g, off + k * 3 + 1, none⟩ = some (.int .i64 ia) ∧ w'.cell? ⟨g, off + k * 3 + 2, none⟩ = some (.int .u64 iv)) ∧ (w'.cell? ⟨w.heap.size, 0, none⟩ = some (.int .u8 0) ∧ w'.cell? ⟨w.heap.size, 1, none⟩ = some (.int .i64 0) ∧ w'.cell? ⟨w.heap.size, 2, none⟩ = some (.int .u64 0) ∧ w'.frozen? ⟨w.heap.size, 0, none⟩ = false ∧ w'.frozen? ⟨w.heap.size, 1, none⟩ = false ∧ w'.frozen? ⟨w.heap.size, 2, none⟩ = false))) (by kernel_rfl) (HK.out _ hd) (fun hHeld => ?_)
  try simp only [Act.put, List.getElem_toArray, List.getElem_cons_succ, List.getElem_cons_zero, List.setIfInBounds_toArray, List.set_cons_zero, List.set_cons_succ]
  refine wpAnyH_take (i := 0) (v := (.pointer (some ⟨b, 0, none⟩))) rfl (by kernel_rfl) (by kernel_rfl) (by kernel_rfl) (fun _ _ _ h => h) (Or.inl ⟨by rfl, ?_⟩) hHeld ?_
  · intro w' hSw
    go_simp
  try simp only [Act.put, List.getElem_toArray, List.getElem_cons_succ, List.getElem_cons_zero, List.setIfInBounds_toArray, List.set_cons_zero, List.set_cons_succ]
  clear hHeld
  refine wpAnyH_ready (rs := [1]) (by kernel_rfl) (by simp) (AllReadyH.cons rfl (fun K hK => ?_) AllReadyH.nil)
  rw [if_pos (by rfl)]
  go_simp
  refine (HIP.out _ hd).out.mono ?_
  rintro e w1 ⟨rfl, t1⟩
  go_simp
  refine hK.out _ _ (HK.out _ t1) (fun hHeld => ?_)
  clear hK
  try simp only [Act.put, List.getElem_toArray, List.getElem_cons_succ, List.getElem_cons_zero, List.setIfInBounds_toArray, List.set_cons_zero, List.set_cons_succ]
  refine wpAnyH_take (i := 2) (v := (.bool true)) rfl (by kernel_rfl) (by kernel_rfl) (by kernel_rfl) (fun _ _ _ h => h) (Or.inl ⟨by rfl, ?_⟩) hHeld ?_
  · intro w' hSw
    go_simp
  try simp only [Act.put, List.getElem_toArray, List.getElem_cons_succ, List.getElem_cons_zero, List.setIfInBounds_toArray, List.set_cons_zero, List.set_cons_succ]
  refine wpAnyH_take (i := 3) (v := (.pointer (some ⟨b, 0, none⟩))) rfl (by kernel_rfl) (by kernel_rfl) (by kernel_rfl) (fun _ _ _ h => h) (Or.inl ⟨by rfl, ?_⟩) hHeld ?_
  · intro w' hSw
    go_simp
  try simp only [Act.put, List.getElem_toArray, List.getElem_cons_succ, List.getElem_cons_zero, List.setIfInBounds_toArray, List.set_cons_zero, List.set_cons_succ]
  refine wpAnyH_take (i := 4) (v := (.pointer (some ⟨b, 0, none⟩))) rfl (by kernel_rfl) (by kernel_rfl) (by kernel_rfl) (fun _ _ _ h => h) (Or.inl ⟨by rfl, ?_⟩) hHeld ?_
  · intro w' hSw
    go_simp
  try simp only [Act.put, List.getElem_toArray, List.getElem_cons_succ, List.getElem_cons_zero, List.setIfInBounds_toArray, List.set_cons_zero, List.set_cons_succ]
  refine wpAnyH_take (i := 5) (v := (.pointer (some ⟨b, 7, none⟩))) rfl (by kernel_rfl) (by kernel_rfl) (by kernel_rfl) (fun _ _ _ h => h) (Or.inl ⟨by rfl, ?_⟩) hHeld ?_
  · intro w' hSw
    go_simp
  try simp only [Act.put, List.getElem_toArray, List.getElem_cons_succ, List.getElem_cons_zero, List.setIfInBounds_toArray, List.set_cons_zero, List.set_cons_succ]
  refine wpAnyH_take (i := 6) (v := (.slice (some ⟨g, off, none⟩) n cap)) rfl (by kernel_rfl) (by kernel_rfl) (by kernel_rfl) (fun _ _ _ h => h) (Or.inl ⟨by rfl, ?_⟩) hHeld ?_
  · intro w' hSw
    go_simp
  try simp only [Act.put, List.getElem_toArray, List.getElem_cons_succ, List.getElem_cons_zero, List.setIfInBounds_toArray, List.set_cons_zero, List.set_cons_succ]
  refine wpAnyH_take (i := 7) (v := (.pointer (some ⟨b, 0, none⟩))) rfl (by kernel_rfl) (by kernel_rfl) (by kernel_rfl) (fun _ _ _ h => h) (Or.inl ⟨by rfl, ?_⟩) hHeld ?_
  · intro w' hSw
    go_simp
  try simp only [Act.put, List.getElem_toArray, List.getElem_cons_succ, List.getElem_cons_zero, List.setIfInBounds_toArray, List.set_cons_zero, List.set_cons_succ]
  refine wpAnyH_take (i := 8) (v := (.pointer (some ⟨b, 0, none⟩))) rfl (by kernel_rfl) (by kernel_rfl) (by kernel_rfl) (fun _ _ _ h => h) (Or.inl ⟨by rfl, ?_⟩) hHeld ?_
  · intro w' hSw
    go_simp
  try simp only [Act.put, List.getElem_toArray, List.getElem_cons_succ, List.getElem_cons_zero, List.setIfInBounds_toArray, List.set_cons_zero, List.set_cons_succ]
  refine wpAnyH_take (i := 9) (v := (.pointer (some ⟨b, 0, none⟩))) rfl (by kernel_rfl) (by kernel_rfl) (by kernel_rfl) (fun _ _ _ h => h) (Or.inl ⟨by rfl, ?_⟩) hHeld ?_
  · intro w' hSw
    go_simp
  try simp only [Act.put, List.getElem_toArray, List.getElem_cons_succ, List.getElem_cons_zero, List.setIfInBounds_toArray, List.set_cons_zero, List.set_cons_succ]
  refine wpAnyH_take (i := 10) (v := (.pointer (some ⟨b, 0, none⟩))) rfl (by kernel_rfl) (by kernel_rfl) (by kernel_rfl) (fun _ _ _ h => h) (Or.inl ⟨by rfl, ?_⟩) hHeld ?_
  · intro w' hSw
    go_simp
  try simp only [Act.put, List.getElem_toArray, List.getElem_cons_succ, List.getElem_cons_zero, List.setIfInBounds_toArray, List.set_cons_zero, List.set_cons_succ]
  refine wpAnyH_take (i := 11) (v := (.int .i64 (k : Int))) rfl (by kernel_rfl) (by kernel_rfl) (by kernel_rfl) (fun _ _ _ h => h) (Or.inl ⟨by rfl, ?_⟩) hHeld ?_
  · intro w' hSw
    go_simp
  try simp only [Act.put, List.getElem_toArray, List.getElem_cons_succ, List.getElem_cons_zero, List.setIfInBounds_toArray, List.set_cons_zero, List.set_cons_succ]
  refine wpAnyH_take (i := 12) (v := (.pointer (some ⟨g, off + k * 3, none⟩))) rfl (by kernel_rfl) (by kernel_rfl) (by kernel_rfl) (fun _ _ _ h => h) (Or.inl ⟨by rfl, ?_⟩) hHeld ?_
  · intro w' hSw
    go_simp
  try simp only [Act.put, List.getElem_toArray, List.getElem_cons_succ, List.getElem_cons_zero, List.setIfInBounds_toArray, List.set_cons_zero, List.set_cons_succ]
  refine wpAnyH_take (i := 13) (v := (.agg #[.int .u8 io, .int .i64 ia, .int .u64 iv])) rfl (by kernel_rfl) (by kernel_rfl) (by kernel_rfl) (fun _ _ _ h => h) (Or.inl ⟨by rfl, ?_⟩) hHeld ?_
  · intro w' hSw
    go_simp
  try simp only [Act.put, List.getElem_toArray, List.getElem_cons_succ, List.getElem_cons_zero, List.setIfInBounds_toArray, List.set_cons_zero, List.set_cons_succ]
  clear hHeld
  refine wpAnyH_ready (rs := [14]) (by kernel_rfl) (by simp) (AllReadyH.cons rfl (fun K hK => ?_) AllReadyH.nil)
  rw [if_pos (by rfl)]
  go_simp
  refine (HRI.out _).out.mono ?_
  rintro e w2 ⟨rfl, t2'⟩
  have t2 := t1.trans t2' (by simp)
  go_simp
  refine hK.out _ _ (HK.out _ t2) (fun hHeld => ?_)
  clear hK
  try simp only [Act.put, List.getElem_toArray, List.getElem_cons_succ, List.getElem_cons_zero, List.setIfInBounds_toArray, List.set_cons_zero, List.set_cons_succ]
  refine wpAnyH_take (i := 15) (v := (.bool false)) rfl (by kernel_rfl) (by kernel_rfl) (by kernel_rfl) (fun _ _ _ h => h) (Or.inl ⟨by rfl, ?_⟩) hHeld ?_
  · intro w' hSw
    go_simp
  try simp only [Act.put, List.getElem_toArray, List.getElem_cons_succ, List.getElem_cons_zero, List.setIfInBounds_toArray, List.set_cons_zero, List.set_cons_succ]
  clear hHeld
  refine wpAnyH_ready (rs := [16]) (by kernel_rfl) (by simp) (AllReadyH.cons rfl (fun K hK => ?_) AllReadyH.nil)
  rw [if_pos (by rfl)]
  go_simp
  refine (sneed_no 3 _).mono ?_
  rintro e w5 ⟨rfl, t5⟩
  exact ⟨rfl, rfl, HT0.out.trans (t2.trans t5 (by simp)) (by simp)⟩

set_option maxRecDepth 100000 in
set_option maxHeartbeats 2000000 in
theorem here_ok {w : World} {b : Nat} {T : TypeId} {tl : List Value} {vs vo : Value} {ao : Option Addr} {cap : Nat} {D : WD} {l : List InsD} (h : WObj w b T tl vs vo (.slice ao l.length cap) D) (hl : InsRow w (.slice ao l.length cap) l) (k : Nat) (hk : k < l.length) (hpc : D.pc = k) (hri : rightI l[k] = true) :
    Calls Try.prog 40 #[.pointer (some ⟨b, 0, none⟩)] w fun e w' => e = .returned l[k].v ∧ Touch w w' [] := by
  have HT0 : Hid (Touch w (w.alloc (.cells #[.int .u8 0, .int .i64 0, .int .u64 0] 48)) []) := (Touch.refl w []).alloc _
  have hp : placeP D.pc l.length = true := by unfold placeP; rw [hpc]; simp; omega
  have HIP : Hid (∀ W, Touch (w.alloc (.cells #[.int .u8 0, .int .i64 0, .int .u64 0] 48)) W [] → HidC Try.prog 65 #[.pointer (some ⟨b, 0, none⟩)] W fun e w' => e = .returned (.bool true) ∧ Touch (w.alloc (.cells #[.int .u8 0, .int .i64 0, .int .u64 0] 48)) w' []) := fun W t => ⟨by
    have q := isPlace_any ((h.touch HT0.out (by simp)).touch t (by simp))
    rw [hp] at q
    refine q.mono ?_
    rintro e w' ⟨rfl, m, rfl⟩
    exact ⟨rfl, t.drewN _⟩⟩
  obtain ⟨g, off, rfl, hg, d0, d1, d2⟩ := ins_cells hl k hk
  have HRI : Hid (∀ W, HidC Try.prog 66 #[l[k].v] W fun e w' => e = .returned (.bool true) ∧ Touch W w' []) := fun W => ⟨by have q := cright_any l[k] W; rw [hri] at q; exact q⟩
  have HK : Hid (∀ W, Touch (w.alloc (.cells #[.int .u8 0, .int .i64 0, .int .u64 0] 48)) W [] → (W.cell? ⟨b, 0, none⟩ = some (.int .i64 (k : Int)) ∧ W.cell? ⟨b, 7, none⟩ = some (.slice (some ⟨g, off, none⟩) l.length cap)) ∧ (W.cell? ⟨g, off + k * 3, none⟩ = some (.int .u8 l[k].op) ∧ W.cell? ⟨g, off + k * 3 + 1, none⟩ = some (.int .i64 l[k].arg) ∧ W.cell? ⟨g, off + k * 3 + 2, none⟩ = some (.int .u64 l[k].val)) ∧ (W.cell? ⟨w.heap.size, 0, none⟩ = some (.int .u8 0) ∧ W.cell? ⟨w.heap.size, 1, none⟩ = some (.int .i64 0) ∧ W.cell? ⟨w.heap.size, 2, none⟩ = some (.int .u64 0) ∧ W.frozen? ⟨w.heap.size, 0, none⟩ = false ∧ W.frozen? ⟨w.heap.size, 1, none⟩ = false ∧ W.frozen? ⟨w.heap.size, 2, none⟩ = false)) := fun W t => by
    have c := ((h.touch HT0.out (by simp)).touch t (by simp)).cells
    have x := (BoxI.new w 0 0 0).touch t (by simp)
    have tw := HT0.out.trans t (by simp)
    have c0 := c.c0
    rw [hpc] at c0
    exact ⟨⟨c0, c.c7⟩, ⟨(tw.cell (p := ⟨g, _, none⟩) hg (by simp)).trans d0, (tw.cell (p := ⟨g, _, none⟩) hg (by simp)).trans d1, (tw.cell (p := ⟨g, _, none⟩) hg (by simp)).trans d2⟩, x.cells.1, x.cells.2.1, x.cells.2.2, x.fr 0, x.fr 1, x.fr 2⟩
  have HBN : Hid (∀ W, Touch (w.alloc (.cells #[.int .u8 0, .int .i64 0, .int .u64 0] 48)) W [] → BoxI W w.heap.size 0 0 0) := fun W t => (BoxI.new w 0 0 0).touch t (by simp)
  have hgr : g ≠ w.heap.size := by omega
  have hbr : b ≠ w.heap.size := by have := h.lt; omega
  have h1 : (k : Int) < l.length := by omega
  have h0 : (0 : Int) ≤ k := by omega
  clear h hl hp hpc hri d0 d1 d2 hg
  generalize l[k] = i at *
  obtain ⟨io, ia, iv⟩ := i
  simp only [InsD.v] at *
  clear hk
  generalize l.length = n at *
  go_enter Try.func40, Try.ntmps40
  go_wp2_with fail
  generalize w.alloc (.cells #[.int .u8 0, .int .i64 0, .int .u64 0] 48) = Q at *
  have hd : Touch Q Q.drew [] := (Touch.refl Q []).drew
  refine wp_region_held_drew (S := (fun w' : World => (w'.cell? ⟨b, 0, none⟩ = some (.int .i64 (k : Int)) ∧ w'.cell? ⟨b, 7, none⟩ = some (.slice (some ⟨g, off, none⟩) n cap)) ∧ (w'.cell? ⟨g, off + k * 3, none⟩ = some (.int .u8 io) ∧ w'.cell? ⟨g, off + k * 3 + 1, none⟩ = some (.int .i64 ia) ∧ w'.cell? ⟨g, off + k * 3 + 2, none⟩ = some (.int .u64 iv)) ∧ (w'.cell? ⟨w.heap.size, 0, none⟩ = some (.int .u8 0) ∧ w'.cell? ⟨w.heap.size, 1, none⟩ = some (.int .i64 0) ∧ w'.cell? ⟨w.heap.size, 2, none⟩ = some (.int .u64 0) ∧ w'.frozen? ⟨w.heap.size, 0, none⟩ = false ∧ w'.frozen? ⟨w.heap.size, 1, none⟩ = false ∧ w'.frozen? ⟨w.heap.size, 2, none⟩ = false))) (by kernel_rfl) (HK.out _ hd) (fun hHeld => ?_)
  try simp only [Act.put, List.getElem_toArray, List.getElem_cons_succ, List.getElem_cons_zero, List.setIfInBounds_toArray, List.set_cons_zero, List.set_cons_succ]
  refine wpAnyH_take (i := 0) (v := (.pointer (some ⟨b, 0, none⟩))) rfl (by kernel_rfl) (by kernel_rfl) (by kernel_rfl) (fun _ _ _ h => h) (Or.inl ⟨by rfl, ?_⟩) hHeld ?_
  · intro w' hSw
    go_simp
  try simp only [Act.put, List.getElem_toArray, List.getElem_cons_succ, List.getElem_cons_zero, List.setIfInBounds_toArray, List.set_cons_zero, List.set_cons_succ]
  clear hHeld
  refine wpAnyH_ready (rs := [1]) (by kernel_rfl) (by simp) (AllReadyH.cons rfl (fun K hK => ?_) AllReadyH.nil)
  rw [if_pos (by rfl)]
  go_simp
  refine (HIP.out _ hd).out.mono ?_
  rintro e w1 ⟨rfl, t1⟩
  go_simp
  refine hK.out _ _ (HK.out _ t1) (fun hHeld => ?_)
  clear hK
  try simp only [Act.put, List.getElem_toArray, List.getElem_cons_succ, List.getElem_cons_zero, List.setIfInBounds_toArray, List.set_cons_zero, List.set_cons_succ]
  refine wpAnyH_take (i := 2) (v := (.bool true)) rfl (by kernel_rfl) (by kernel_rfl) (by kernel_rfl) (fun _ _ _ h => h) (Or.inl ⟨by rfl, ?_⟩) hHeld ?_
  · intro w' hSw
    go_simp
  try simp only [Act.put, List.getElem_toArray, List.getElem_cons_succ, List.getElem_cons_zero, List.setIfInBounds_toArray, List.set_cons_zero, List.set_cons_succ]
  refine wpAnyH_take (i := 3) (v := (.pointer (some ⟨b, 0, none⟩))) rfl (by kernel_rfl) (by kernel_rfl) (by kernel_rfl) (fun _ _ _ h => h) (Or.inl ⟨by rfl, ?_⟩) hHeld ?_
  · intro w' hSw
    go_simp
  try simp only [Act.put, List.getElem_toArray, List.getElem_cons_succ, List.getElem_cons_zero, List.setIfInBounds_toArray, List.set_cons_zero, List.set_cons_succ]
  refine wpAnyH_take (i := 4) (v := (.pointer (some ⟨b, 0, none⟩))) rfl (by kernel_rfl) (by kernel_rfl) (by kernel_rfl) (fun _ _ _ h => h) (Or.inl ⟨by rfl, ?_⟩) hHeld ?_
  · intro w' hSw
    go_simp
  try simp only [Act.put, List.getElem_toArray, List.getElem_cons_succ, List.getElem_cons_zero, List.setIfInBounds_toArray, List.set_cons_zero, List.set_cons_succ]
  refine wpAnyH_take (i := 5) (v := (.pointer (some ⟨b, 7, none⟩))) rfl (by kernel_rfl) (by kernel_rfl) (by kernel_rfl) (fun _ _ _ h => h) (Or.inl ⟨by rfl, ?_⟩) hHeld ?_
  · intro w' hSw
    go_simp
  try simp only [Act.put, List.getElem_toArray, List.getElem_cons_succ, List.getElem_cons_zero, List.setIfInBounds_toArray, List.set_cons_zero, List.set_cons_succ]
  refine wpAnyH_take (i := 6) (v := (.slice (some ⟨g, off, none⟩) n cap)) rfl (by kernel_rfl) (by kernel_rfl) (by kernel_rfl) (fun _ _ _ h => h) (Or.inl ⟨by rfl, ?_⟩) hHeld ?_
  · intro w' hSw
    go_simp
  try simp only [Act.put, List.getElem_toArray, List.getElem_cons_succ, List.getElem_cons_zero, List.setIfInBounds_toArray, List.set_cons_zero, List.set_cons_succ]
  refine wpAnyH_take (i := 7) (v := (.pointer (some ⟨b, 0, none⟩))) rfl (by kernel_rfl) (by kernel_rfl) (by kernel_rfl) (fun _ _ _ h => h) (Or.inl ⟨by rfl, ?_⟩) hHeld ?_
  · intro w' hSw
    go_simp
  try simp only [Act.put, List.getElem_toArray, List.getElem_cons_succ, List.getElem_cons_zero, List.setIfInBounds_toArray, List.set_cons_zero, List.set_cons_succ]
  refine wpAnyH_take (i := 8) (v := (.pointer (some ⟨b, 0, none⟩))) rfl (by kernel_rfl) (by kernel_rfl) (by kernel_rfl) (fun _ _ _ h => h) (Or.inl ⟨by rfl, ?_⟩) hHeld ?_
  · intro w' hSw
    go_simp
  try simp only [Act.put, List.getElem_toArray, List.getElem_cons_succ, List.getElem_cons_zero, List.setIfInBounds_toArray, List.set_cons_zero, List.set_cons_succ]
  refine wpAnyH_take (i := 9) (v := (.pointer (some ⟨b, 0, none⟩))) rfl (by kernel_rfl) (by kernel_rfl) (by kernel_rfl) (fun _ _ _ h => h) (Or.inl ⟨by rfl, ?_⟩) hHeld ?_
  · intro w' hSw
    go_simp
  try simp only [Act.put, List.getElem_toArray, List.getElem_cons_succ, List.getElem_cons_zero, List.setIfInBounds_toArray, List.set_cons_zero, List.set_cons_succ]
  refine wpAnyH_take (i := 10) (v := (.pointer (some ⟨b, 0, none⟩))) rfl (by kernel_rfl) (by kernel_rfl) (by kernel_rfl) (fun _ _ _ h => h) (Or.inl ⟨by rfl, ?_⟩) hHeld ?_
  · intro w' hSw
    go_simp
  try simp only [Act.put, List.getElem_toArray, List.getElem_cons_succ, List.getElem_cons_zero, List.setIfInBounds_toArray, List.set_cons_zero, List.set_cons_succ]
  refine wpAnyH_take (i := 11) (v := (.int .i64 (k : Int))) rfl (by kernel_rfl) (by kernel_rfl) (by kernel_rfl) (fun _ _ _ h => h) (Or.inl ⟨by rfl, ?_⟩) hHeld ?_
  · intro w' hSw
    go_simp
  try simp only [Act.put, List.getElem_toArray, List.getElem_cons_succ, List.getElem_cons_zero, List.setIfInBounds_toArray, List.set_cons_zero, List.set_cons_succ]
  refine wpAnyH_take (i := 12) (v := (.pointer (some ⟨g, off + k * 3, none⟩))) rfl (by kernel_rfl) (by kernel_rfl) (by kernel_rfl) (fun _ _ _ h => h) (Or.inl ⟨by rfl, ?_⟩) hHeld ?_
  · intro w' hSw
    go_simp
  try simp only [Act.put, List.getElem_toArray, List.getElem_cons_succ, List.getElem_cons_zero, List.setIfInBounds_toArray, List.set_cons_zero, List.set_cons_succ]
  refine wpAnyH_take (i := 13) (v := (.agg #[.int .u8 io, .int .i64 ia, .int .u64 iv])) rfl (by kernel_rfl) (by kernel_rfl) (by kernel_rfl) (fun _ _ _ h => h) (Or.inl ⟨by rfl, ?_⟩) hHeld ?_
  · intro w' hSw
    go_simp
  try simp only [Act.put, List.getElem_toArray, List.getElem_cons_succ, List.getElem_cons_zero, List.setIfInBounds_toArray, List.set_cons_zero, List.set_cons_succ]
  clear hHeld
  refine wpAnyH_ready (rs := [14]) (by kernel_rfl) (by simp) (AllReadyH.cons rfl (fun K hK => ?_) AllReadyH.nil)
  rw [if_pos (by rfl)]
  go_simp
  refine (HRI.out _).out.mono ?_
  rintro e w2 ⟨rfl, t2'⟩
  have t2 := t1.trans t2' (by simp)
  go_simp
  refine hK.out _ _ (HK.out _ t2) (fun hHeld => ?_)
  clear hK
  try simp only [Act.put, List.getElem_toArray, List.getElem_cons_succ, List.getElem_cons_zero, List.setIfInBounds_toArray, List.set_cons_zero, List.set_cons_succ]
  refine wpAnyH_take (i := 15) (v := (.bool true)) rfl (by kernel_rfl) (by kernel_rfl) (by kernel_rfl) (fun _ _ _ h => h) (Or.inl ⟨by rfl, ?_⟩) hHeld ?_
  · intro w' hSw
    go_simp
  try simp only [Act.put, List.getElem_toArray, List.getElem_cons_succ, List.getElem_cons_zero, List.setIfInBounds_toArray, List.set_cons_zero, List.set_cons_succ]
  clear hHeld
  refine wpAnyH_ready (rs := [16]) (by kernel_rfl) (by simp) (AllReadyH.cons rfl (fun K hK => ?_) AllReadyH.nil)
  rw [if_pos (by rfl)]
  go_simp
  refine (sneed_ok 3 _).mono ?_
  rintro e _ ⟨rfl, rfl⟩
  go_simp
  refine hK.out _ _ (HK.out _ t2) (fun hHeld => ?_)
  clear hK
  try simp only [Act.put, List.getElem_toArray, List.getElem_cons_succ, List.getElem_cons_zero, List.setIfInBounds_toArray, List.set_cons_zero, List.set_cons_succ]
  clear hHeld
  refine wpAnyH_done (by kernel_rfl) ?_ _
  go_wp2_with fail
  refine wp_name fun W4 hW4 => ?_
  have t4 : Touch Q W4 [] := by rw [hW4]; exact t2
  have hd4 : Touch Q W4.drew [] := t4.drew
  clear hW4
  obtain ⟨⟨m0, m1⟩, ⟨n0, n1, n2⟩, r0, r1, r2, f0, f1, f2⟩ := HK.out _ hd4
  have HFX : Hid (BoxI (((W4.drew.setCell ⟨w.heap.size, 0, none⟩ (.int .u8 io)).setCell ⟨w.heap.size, 1, none⟩ (.int .i64 ia)).setCell ⟨w.heap.size, 2, none⟩ (.int .u64 iv)) w.heap.size io ia iv) := (((HBN.out _ hd4).set0 io).set1 ia).set2 iv
  have tX : Touch W4.drew (((W4.drew.setCell ⟨w.heap.size, 0, none⟩ (.int .u8 io)).setCell ⟨w.heap.size, 1, none⟩ (.int .i64 ia)).setCell ⟨w.heap.size, 2, none⟩ (.int .u64 iv)) [w.heap.size] := (((Touch.refl W4.drew _).setCell (.inl (by simp)) _).setCell (.inl (by simp)) _).setCell (.inl (by simp)) _
  have HTX : Hid (Touch w (((W4.drew.setCell ⟨w.heap.size, 0, none⟩ (.int .u8 io)).setCell ⟨w.heap.size, 1, none⟩ (.int .i64 ia)).setCell ⟨w.heap.size, 2, none⟩ (.int .u64 iv)) []) := (HT0.out.trans hd4 (by simp)).trans tX (fun x hx => .inr (by simp at hx; omega))
  have hbl : b < W4.drew.heap.size := World.block_lt_of_cell? _ _ m0
  have hgl : g < W4.drew.heap.size := World.block_lt_of_cell? _ _ n0
  have HSX : Hid (((((W4.drew.setCell ⟨w.heap.size, 0, none⟩ (.int .u8 io)).setCell ⟨w.heap.size, 1, none⟩ (.int .i64 ia)).setCell ⟨w.heap.size, 2, none⟩ (.int .u64 iv)).cell? ⟨b, 0, none⟩ = some (.int .i64 (k : Int)) ∧ (((W4.drew.setCell ⟨w.heap.size, 0, none⟩ (.int .u8 io)).setCell ⟨w.heap.size, 1, none⟩ (.int .i64 ia)).setCell ⟨w.heap.size, 2, none⟩ (.int .u64 iv)).cell? ⟨b, 7, none⟩ = some (.slice (some ⟨g, off, none⟩) n cap)) ∧ ((((W4.drew.setCell ⟨w.heap.size, 0, none⟩ (.int .u8 io)).setCell ⟨w.heap.size, 1, none⟩ (.int .i64 ia)).setCell ⟨w.heap.size, 2, none⟩ (.int .u64 iv)).cell? ⟨g, off + k * 3, none⟩ = some (.int .u8 io) ∧ (((W4.drew.setCell ⟨w.heap.size, 0, none⟩ (.int .u8 io)).setCell ⟨w.heap.size, 1, none⟩ (.int .i64 ia)).setCell ⟨w.heap.size, 2, none⟩ (.int .u64 iv)).cell? ⟨g, off + k * 3 + 1, none⟩ = some (.int .i64 ia) ∧ (((W4.drew.setCell ⟨w.heap.size, 0, none⟩ (.int .u8 io)).setCell ⟨w.heap.size, 1, none⟩ (.int .i64 ia)).setCell ⟨w.heap.size, 2, none⟩ (.int .u64 iv)).cell? ⟨g, off + k * 3 + 2, none⟩ = some (.int .u64 iv))) :=
    ⟨⟨(tX.cell (p := ⟨b, 0, none⟩) hbl (by simpa using hbr)).trans m0, (tX.cell (p := ⟨b, 7, none⟩) hbl (by simpa using hbr)).trans m1⟩, (tX.cell (p := ⟨g, _, none⟩) hgl (by simpa using hgr)).trans n0, (tX.cell (p := ⟨g, _, none⟩) hgl (by simpa using hgr)).trans n1, (tX.cell (p := ⟨g, _, none⟩) hgl (by simpa using hgr)).trans n2⟩
  have r0' : W4.cell? ⟨w.heap.size, 0, none⟩ = some (.int .u8 0) := r0
  have r1' : W4.cell? ⟨w.heap.size, 1, none⟩ = some (.int .i64 0) := r1
  have r2' : W4.cell? ⟨w.heap.size, 2, none⟩ = some (.int .u64 0) := r2
  have f0' : W4.frozen? ⟨w.heap.size, 0, none⟩ = false := f0
  have f1' : W4.frozen? ⟨w.heap.size, 1, none⟩ = false := f1
  have f2' : W4.frozen? ⟨w.heap.size, 2, none⟩ = false := f2
  clear tX
  refine wp_region_held_drew (S := (fun w' : World => (w'.cell? ⟨b, 0, none⟩ = some (.int .i64 (k : Int)) ∧ w'.cell? ⟨b, 7, none⟩ = some (.slice (some ⟨g, off, none⟩) n cap)) ∧ (w'.cell? ⟨g, off + k * 3, none⟩ = some (.int .u8 io) ∧ w'.cell? ⟨g, off + k * 3 + 1, none⟩ = some (.int .i64 ia) ∧ w'.cell? ⟨g, off + k * 3 + 2, none⟩ = some (.int .u64 iv)))) (by kernel_rfl) ⟨⟨m0, m1⟩, n0, n1, n2⟩ (fun hHeld => ?_)
  try simp only [Act.put, List.getElem_toArray, List.getElem_cons_succ, List.getElem_cons_zero, List.setIfInBounds_toArray, List.set_cons_zero, List.set_cons_succ]
  refine wpAnyH_take (i := 0) (v := (.pointer (some ⟨b, 0, none⟩))) rfl (by kernel_rfl) (by kernel_rfl) (by kernel_rfl) (fun _ _ _ h => h) (Or.inl ⟨by rfl, ?_⟩) hHeld ?_
  · intro w' hSw
    go_simp
  try simp only [Act.put, List.getElem_toArray, List.getElem_cons_succ, List.getElem_cons_zero, List.setIfInBounds_toArray, List.set_cons_zero, List.set_cons_succ]
  refine wpAnyH_take (i := 1) (v := (.pointer (some ⟨b, 0, none⟩))) rfl (by kernel_rfl) (by kernel_rfl) (by kernel_rfl) (fun _ _ _ h => h) (Or.inl ⟨by rfl, ?_⟩) hHeld ?_
  · intro w' hSw
    go_simp
  try simp only [Act.put, List.getElem_toArray, List.getElem_cons_succ, List.getElem_cons_zero, List.setIfInBounds_toArray, List.set_cons_zero, List.set_cons_succ]
  refine wpAnyH_take (i := 2) (v := (.pointer (some ⟨b, 7, none⟩))) rfl (by kernel_rfl) (by kernel_rfl) (by kernel_rfl) (fun _ _ _ h => h) (Or.inl ⟨by rfl, ?_⟩) hHeld ?_
  · intro w' hSw
    go_simp
  try simp only [Act.put, List.getElem_toArray, List.getElem_cons_succ, List.getElem_cons_zero, List.setIfInBounds_toArray, List.set_cons_zero, List.set_cons_succ]
  refine wpAnyH_take (i := 3) (v := (.slice (some ⟨g, off, none⟩) n cap)) rfl (by kernel_rfl) (by kernel_rfl) (by kernel_rfl) (fun _ _ _ h => h) (Or.inl ⟨by rfl, ?_⟩) hHeld ?_
  · intro w' hSw
    go_simp
  try simp only [Act.put, List.getElem_toArray, List.getElem_cons_succ, List.getElem_cons_zero, List.setIfInBounds_toArray, List.set_cons_zero, List.set_cons_succ]
  refine wpAnyH_take (i := 4) (v := (.pointer (some ⟨b, 0, none⟩))) rfl (by kernel_rfl) (by kernel_rfl) (by kernel_rfl) (fun _ _ _ h => h) (Or.inl ⟨by rfl, ?_⟩) hHeld ?_
  · intro w' hSw
    go_simp
  try simp only [Act.put, List.getElem_toArray, List.getElem_cons_succ, List.getElem_cons_zero, List.setIfInBounds_toArray, List.set_cons_zero, List.set_cons_succ]
  refine wpAnyH_take (i := 5) (v := (.pointer (some ⟨b, 0, none⟩))) rfl (by kernel_rfl) (by kernel_rfl) (by kernel_rfl) (fun _ _ _ h => h) (Or.inl ⟨by rfl, ?_⟩) hHeld ?_
  · intro w' hSw
    go_simp
  try simp only [Act.put, List.getElem_toArray, List.getElem_cons_succ, List.getElem_cons_zero, List.setIfInBounds_toArray, List.set_cons_zero, List.set_cons_succ]
  refine wpAnyH_take (i := 6) (v := (.pointer (some ⟨b, 0, none⟩))) rfl (by kernel_rfl) (by kernel_rfl) (by kernel_rfl) (fun _ _ _ h => h) (Or.inl ⟨by rfl, ?_⟩) hHeld ?_
  · intro w' hSw
    go_simp
  try simp only [Act.put, List.getElem_toArray, List.getElem_cons_succ, List.getElem_cons_zero, List.setIfInBounds_toArray, List.set_cons_zero, List.set_cons_succ]
  refine wpAnyH_take (i := 7) (v := (.pointer (some ⟨b, 0, none⟩))) rfl (by kernel_rfl) (by kernel_rfl) (by kernel_rfl) (fun _ _ _ h => h) (Or.inl ⟨by rfl, ?_⟩) hHeld ?_
  · intro w' hSw
    go_simp
  try simp only [Act.put, List.getElem_toArray, List.getElem_cons_succ, List.getElem_cons_zero, List.setIfInBounds_toArray, List.set_cons_zero, List.set_cons_succ]
  refine wpAnyH_take (i := 8) (v := (.int .i64 (k : Int))) rfl (by kernel_rfl) (by kernel_rfl) (by kernel_rfl) (fun _ _ _ h => h) (Or.inl ⟨by rfl, ?_⟩) hHeld ?_
  · intro w' hSw
    go_simp
  try simp only [Act.put, List.getElem_toArray, List.getElem_cons_succ, List.getElem_cons_zero, List.setIfInBounds_toArray, List.set_cons_zero, List.set_cons_succ]
  refine wpAnyH_take (i := 9) (v := (.pointer (some ⟨g, off + k * 3, none⟩))) rfl (by kernel_rfl) (by kernel_rfl) (by kernel_rfl) (fun _ _ _ h => h) (Or.inl ⟨by rfl, ?_⟩) hHeld ?_
  · intro w' hSw
    go_simp
  try simp only [Act.put, List.getElem_toArray, List.getElem_cons_succ, List.getElem_cons_zero, List.setIfInBounds_toArray, List.set_cons_zero, List.set_cons_succ]
  refine wpAnyH_take (i := 10) (v := (.agg #[.int .u8 io, .int .i64 ia, .int .u64 iv])) rfl (by kernel_rfl) (by kernel_rfl) (by kernel_rfl) (fun _ _ _ h => h) (Or.inl ⟨by rfl, ?_⟩) hHeld ?_
  · intro w' hSw
    go_simp
  try simp only [Act.put, List.getElem_toArray, List.getElem_cons_succ, List.getElem_cons_zero, List.setIfInBounds_toArray, List.set_cons_zero, List.set_cons_succ]
  clear hHeld
  refine wpAnyH_ready (rs := [11]) (by kernel_rfl) (by simp) (AllReadyH.cons rfl (fun K hK => ?_) AllReadyH.nil)
  rw [if_pos (by rfl)]
  go_simp
  refine hK.out _ _ HSX.out (fun hHeld => ?_)
  clear hK
  try simp only [Act.put, List.getElem_toArray, List.getElem_cons_succ, List.getElem_cons_zero, List.setIfInBounds_toArray, List.set_cons_zero, List.set_cons_succ]
  clear hHeld
  refine wpAnyH_done (by kernel_rfl) ?_ _
  go_wp2
  have HF4 : BoxI (((W4.setCell ⟨w.heap.size, 0, none⟩ (.int .u8 io)).setCell ⟨w.heap.size, 1, none⟩ (.int .i64 ia)).setCell ⟨w.heap.size, 2, none⟩ (.int .u64 iv)) w.heap.size io ia iv := (((HBN.out _ t4).set0 io).set1 ia).set2 iv
  obtain ⟨k0, k1, k2⟩ := HF4.cells
  refine bodyPost_ret (v := .agg #[.int .u8 io, .int .i64 ia, .int .u64 iv]) ?_ rfl ⟨rfl, HTX.out⟩
  rw [res_cell rfl]
  simp [go_sem, k0, k1, k2]

end Go.Proofs.Ytlndbligbpfdpaa
/-
  CLASSES, SIGNS AND ORDER OF VALUES, of both sides, BY THEIR CONTRACTS.
-/
namespace Go.Proofs.Ytlndbligbpfdpaa
set_option linter.unusedVariables false
set_option linter.unusedSimpArgs false
open Go.RowKit

theorem rclass_any (n : Int) (h : Wf64 n) (w : World) : Calls Try.prog 51 #[.int .u64 n] w fun e w' => e = .returned (.int .u8 (classB (ofB n.toNat))) ∧ w = w' := by
  rw [← refClass_eq h.rt]
  have hf := rfloat_any n h w
  generalize ofB n.toNat = x at *
  clear h
  unfold refClass nanB
  generalize hq : (FloatKind.f64.format.order x x == some Ordering.eq) = q
  have hq' : (FloatKind.f64.format.order x x != some Ordering.eq) = !q := by rw [← hq]; rfl
  rw [hq']
  generalize hc1 : (FloatKind.f64.format.order x 0 == some Ordering.eq) = c1
  generalize hc2 : (FloatKind.f64.format.order x 9218868437227405311 == some Ordering.gt) = c2
  generalize hc3 : (FloatKind.f64.format.order x 18442240474082181119 == some Ordering.lt) = c3
  cases q <;> cases c1 <;> cases c2 <;> cases c3
  all_goals
    go_enter Try.func51, Try.ntmps51
    go_wp2_with fail
    refine hf.mono ?_
    rintro e w1 ⟨rfl, rfl⟩
    clear hf
    go_wp2
    go_ret
    exact ⟨by simp, rfl⟩

theorem class_any (n : Int) (w : World) : Calls Try.prog 68 #[.int .u64 n] w fun e w' => e = .returned (.int .u8 (classB (ofB n.toNat))) ∧ w = w' :=
  (classOf_is n w).mono fun _ _ h => ⟨h.1, h.2.symm⟩

theorem classB_3 (x : Nat) : (classB x == 3) = nanB x := by
  cases h : nanB x with
  | true => rw [classB_nan x h]; rfl
  | false => simpa using classB_num x h

theorem negB_ofB {n : Int} (h : Wf64 n) : negB (ofB n.toNat) = (!(classB (ofB n.toNat) == 3) && decide (9223372036854775808 ≤ n)) := by
  rw [classB_3, negB_is _ h.rt.lt, h.rt.nan]
  unfold Wf64 at h
  rcases ofB_cases n.toNat (by omega) with ⟨h1, e⟩ | ⟨h1, e⟩
  · rw [e]
    have hne : ¬ n.toNat = 9221120237041090560 := by
      intro e2
      rw [e2] at h1
      revert h1
      decide
    rw [decide_eq_false hne]
    simp only [Bool.not_false, Bool.true_and]
    congr 1
    apply propext
    omega
  · rw [e]; simp

theorem rnegative_any (n : Int) (h : Wf64 n) (w : World) : Calls Try.prog 75 #[.int .u64 n] w fun e w' => e = .returned (.bool (negB (ofB n.toNat))) ∧ w = w' := by
  rw [negB_ofB h]
  have hc := rclass_any n h w
  generalize classB (ofB n.toNat) = c at *
  generalize hq : (c == 3) = q
  have hq' : (c != 3) = !q := by rw [← hq]; rfl
  clear h
  cases q
  all_goals
    go_enter Try.func75, Try.ntmps75
    go_wp2_with fail
    refine hc.mono ?_
    rintro e w1 ⟨rfl, rfl⟩
    clear hc
    go_wp2
    go_ret
    exact ⟨by simp, rfl⟩

/-- The other sign. -/
def negV (x : Nat) : Int := if classB x == 3 then 9221120237041090560 else if negB x then (x : Int) - 9223372036854775808 else (x : Int) + 9223372036854775808

theorem negV_is {x : Nat} (h : Rt x) : ((ofB (Op.negFloat .f64 x) : Nat) : Int) = negV x := by
  unfold negV
  rw [neg_of h, classB_3, h.nan, negB_is x h.lt]
  have := h.lt
  by_cases h1 : x = 9221120237041090560
  · simp [h1]
  · by_cases h2 : 9223372036854775808 ≤ x
    · simp only [h1, h2, if_false, if_true, decide_false, decide_true, Bool.false_eq_true]; omega
    · simp only [h1, h2, if_false, decide_false, Bool.false_eq_true]; omega

theorem neg_any (n : Int) (h : Wf64 n) (w : World) : Calls Try.prog 69 #[.int .u64 n] w fun e w' => e = .returned (.int .u64 (negV (ofB n.toNat))) ∧ w = w' := by
  rw [← negV_is h.rt]
  have hf := float_any n w
  generalize ofB n.toNat = x at *
  have ho := of_any (Op.negFloat .f64 x) w
  have hneg : ∀ w : World, (Op.unary .neg (.float .f64 x)).run Try.prog w = .ok (.float .f64 (Op.negFloat .f64 x)) w := fun _ => rfl
  generalize Op.negFloat .f64 x = y at *
  clear h
  go_enter Try.func69, Try.ntmps69
  go_wp2_with fail
  refine hf.mono ?_
  rintro e w1 ⟨rfl, rfl⟩
  clear hf
  go_wp2_with fail
  refine ho.mono ?_
  rintro e w1 ⟨rfl, rfl⟩
  go_wp2
  go_ret
  exact ⟨by simp, rfl⟩

theorem rneg_any (n : Int) (h : Wf64 n) (w : World) : Calls Try.prog 56 #[.int .u64 n] w fun e w' => e = .returned (.int .u64 (negV (ofB n.toNat))) ∧ w = w' := by
  have hc := rclass_any n h w
  have hn := rnegative_any n h w
  have hw : Wf64 n := h
  unfold negV
  unfold Wf64 at h
  cases hq : (classB (ofB n.toNat) == 3) with
  | true =>
    have e : classB (ofB n.toNat) = 3 := by simpa using hq
    rw [e] at hc
    clear hq e hn hw
    go_enter Try.func56, Try.ntmps56
    go_wp2_with fail
    refine hc.mono ?_
    rintro e w1 ⟨rfl, rfl⟩
    clear hc
    go_wp2
    go_ret
    exact ⟨by simp, rfl⟩
  | false =>
    have hnan : nanB (ofB n.toNat) = false := by rw [← classB_3]; exact hq
    have hx : ofB n.toNat = n.toNat := by
      rcases ofB_cases n.toNat (by omega) with ⟨_, e⟩ | ⟨_, e⟩
      · exact e
      · have h3 : nanB 9221120237041090560 = true := by decide +kernel
        rw [e, h3] at hnan
        cases hnan
    have hxi : ((ofB n.toNat : Nat) : Int) = n := by rw [hx]; omega
    rw [hxi]
    have hb := negB_is (ofB n.toNat) hw.rt.lt
    have hbd : (9223372036854775808 ≤ ofB n.toNat) ↔ 9223372036854775808 ≤ n := by rw [hx]; omega
    generalize hg : classB (ofB n.toNat) = c at *
    generalize negB (ofB n.toNat) = g at *
    clear hg hx hxi hnan hw
    cases g with
    | true =>
      have h9 : 9223372036854775808 ≤ n := hbd.1 (of_decide_eq_true hb.symm)
      clear hb hbd
      go_enter Try.func56, Try.ntmps56
      go_wp2_with fail
      refine hc.mono ?_
      rintro e w1 ⟨rfl, rfl⟩
      clear hc
      go_wp2_with fail
      refine hn.mono ?_
      rintro e w1 ⟨rfl, rfl⟩
      clear hn
      go_wp2
      go_ret
      exact ⟨by simp, rfl⟩
    | false =>
      have h9 : ¬ 9223372036854775808 ≤ n := fun k => of_decide_eq_false hb.symm (hbd.2 k)
      clear hb hbd
      go_enter Try.func56, Try.ntmps56
      go_wp2_with fail
      refine hc.mono ?_
      rintro e w1 ⟨rfl, rfl⟩
      clear hc
      go_wp2_with fail
      refine hn.mono ?_
      rintro e w1 ⟨rfl, rfl⟩
      clear hn
      go_wp2
      go_ret
      exact ⟨by simp, rfl⟩

/-- Without its sign. -/
def absV (x : Nat) : Int := if negB x then negV x else x
theorem absV_is {x : Nat} (h : Rt x) : ((ofB (absB x) : Nat) : Int) = absV x := by
  unfold absV negV
  rw [abs_of h, classB_3, h.nan, negB_is x h.lt, rungB_is x h.lt]
  have := h.lt
  by_cases h1 : x = 9221120237041090560
  · simp [h1]
  · by_cases h2 : 9223372036854775808 ≤ x
    · simp only [h1, h2, if_false, if_true, decide_false, decide_true, Bool.false_eq_true]; omega
    · simp only [h1, h2, if_false, decide_false, Bool.false_eq_true]

theorem rless_any (a b : Int) (ha : Wf64 a) (hb : Wf64 b) (w : World) : Calls Try.prog 58 #[.int .u64 a, .int .u64 b] w fun e w' => e = .returned (.bool (lessB (ofB a.toNat) (ofB b.toNat))) ∧ w = w' := by
  rw [← refLess_eq ha.rt hb.rt]
  have ca := rcanon_any a ha w
  have cb := rcanon_any b hb w
  have fa := rfloat_any _ (wf_ofB ha) w
  have fb := rfloat_any _ (wf_ofB hb) w
  rw [ofB_ofB] at fa fb
  generalize ofB a.toNat = x at *
  generalize ofB b.toNat = y at *
  unfold refLess
  clear ha hb
  by_cases h1 : x = 9221120237041090560
  · subst h1
    clear fa fb
    go_enter Try.func58, Try.ntmps58
    go_wp2_with fail
    refine ca.mono ?_
    rintro e w1 ⟨rfl, rfl⟩
    go_wp2_with fail
    refine cb.mono ?_
    rintro e w1 ⟨rfl, rfl⟩
    clear ca cb
    go_wp2
    go_ret
    exact ⟨by simp, rfl⟩
  · have h1' : ¬ (x : Int) = 9221120237041090560 := by omega
    rw [if_neg h1]
    by_cases h2 : y = 9221120237041090560
    · subst h2
      clear fa fb
      go_enter Try.func58, Try.ntmps58
      go_wp2_with fail
      refine ca.mono ?_
      rintro e w1 ⟨rfl, rfl⟩
      go_wp2_with fail
      refine cb.mono ?_
      rintro e w1 ⟨rfl, rfl⟩
      clear ca cb
      go_wp2
      go_ret
      exact ⟨by simp, rfl⟩
    · have h2' : ¬ (y : Int) = 9221120237041090560 := by omega
      rw [if_neg h2]
      by_cases h3 : x = 9223372036854775808
      · subst h3
        by_cases h4 : y = 0
        · subst h4
          rw [if_pos ⟨rfl, rfl⟩]
          clear fa fb
          go_enter Try.func58, Try.ntmps58
          go_wp2_with fail
          refine ca.mono ?_
          rintro e w1 ⟨rfl, rfl⟩
          go_wp2_with fail
          refine cb.mono ?_
          rintro e w1 ⟨rfl, rfl⟩
          clear ca cb
          go_wp2
          go_ret
          exact ⟨by simp, rfl⟩
        · have h4' : ¬ (y : Int) = 0 := by omega
          rw [if_neg (fun k => h4 k.2)]
          go_enter Try.func58, Try.ntmps58
          go_wp2_with fail
          refine ca.mono ?_
          rintro e w1 ⟨rfl, rfl⟩
          go_wp2_with fail
          refine cb.mono ?_
          rintro e w1 ⟨rfl, rfl⟩
          clear ca cb
          go_wp2_with fail
          refine fa.mono ?_
          rintro e w1 ⟨rfl, rfl⟩
          go_wp2_with fail
          refine fb.mono ?_
          rintro e w1 ⟨rfl, rfl⟩
          clear fa fb
          go_wp2
          go_ret
          exact ⟨by simp, rfl⟩
      · have h3' : ¬ (x : Int) = 9223372036854775808 := by omega
        rw [if_neg (fun k => h3 k.1)]
        go_enter Try.func58, Try.ntmps58
        go_wp2_with fail
        refine ca.mono ?_
        rintro e w1 ⟨rfl, rfl⟩
        go_wp2_with fail
        refine cb.mono ?_
        rintro e w1 ⟨rfl, rfl⟩
        clear ca cb
        go_wp2_with fail
        refine fa.mono ?_
        rintro e w1 ⟨rfl, rfl⟩
        go_wp2_with fail
        refine fb.mono ?_
        rintro e w1 ⟨rfl, rfl⟩
        clear fa fb
        go_wp2
        go_ret
        exact ⟨by simp, rfl⟩

theorem same_any (a b : Int) (w : World) : Calls Try.prog 94 #[.int .u64 a, .int .u64 b] w fun e w' => e = .returned (.bool (((ofB a.toNat : Nat) : Int) == (ofB b.toNat : Nat))) ∧ w = w' := by
  have fa := canon_any a w
  have fb := canon_any b w
  generalize ((ofB a.toNat : Nat) : Int) = x at *
  generalize ((ofB b.toNat : Nat) : Int) = y at *
  go_enter Try.func94, Try.ntmps94
  go_wp2_with fail
  refine fa.mono ?_
  rintro e w1 ⟨rfl, rfl⟩
  go_wp2_with fail
  refine fb.mono ?_
  rintro e w1 ⟨rfl, rfl⟩
  clear fa fb
  go_wp2
  go_ret
  exact ⟨by simp, rfl⟩

theorem rsame_any (a b : Int) (ha : Wf64 a) (hb : Wf64 b) (w : World) : Calls Try.prog 59 #[.int .u64 a, .int .u64 b] w fun e w' => e = .returned (.bool (((ofB a.toNat : Nat) : Int) == (ofB b.toNat : Nat))) ∧ w = w' := by
  have fa := rcanon_any a ha w
  have fb := rcanon_any b hb w
  clear ha hb
  generalize ((ofB a.toNat : Nat) : Int) = x at *
  generalize ((ofB b.toNat : Nat) : Int) = y at *
  go_enter Try.func59, Try.ntmps59
  go_wp2_with fail
  refine fa.mono ?_
  rintro e w1 ⟨rfl, rfl⟩
  go_wp2_with fail
  refine fb.mono ?_
  rintro e w1 ⟨rfl, rfl⟩
  clear fa fb
  go_wp2
  go_ret
  exact ⟨by simp, rfl⟩

def pick2 (q : Bool) (x y : Nat) : Nat := if q then x else y
def truthB (c : Int) : Bool := (c == 1) || (c == 2)
theorem classB_in (x : Nat) : classB x = 0 ∨ classB x = 1 ∨ classB x = 2 ∨ classB x = 3 := by
  unfold classB
  repeat' split
  all_goals simp

theorem truth_any (n : Int) (w : World) : Calls Try.prog 45 #[.int .u64 n] w fun e w' => e = .returned (.bool (truthB (classB (ofB n.toNat)))) ∧ w = w' := by
  have hc := class_any n w
  rcases classB_in (ofB n.toNat) with h | h | h | h
  all_goals
    rw [h] at hc ⊢
    clear h
    go_enter Try.func45, Try.ntmps45
    go_wp2_with fail
    refine hc.mono ?_
    rintro e w1 ⟨rfl, rfl⟩
    clear hc
    go_wp2
    go_ret
    exact ⟨by simp [truthB], rfl⟩

theorem rtruth_any (n : Int) (h : Wf64 n) (w : World) : Calls Try.prog 30 #[.int .u64 n] w fun e w' => e = .returned (.bool (truthB (classB (ofB n.toNat)))) ∧ w = w' := by
  have hc := rclass_any n h w
  clear h
  rcases classB_in (ofB n.toNat) with h | h | h | h
  all_goals
    rw [h] at hc ⊢
    clear h
    go_enter Try.func30, Try.ntmps30
    go_wp2_with (go_at_call 51; refine hc.mono ?_; rintro e w1 ⟨rfl, rfl⟩)
    go_ret
    exact ⟨by simp [truthB], rfl⟩





end Go.Proofs.Ytlndbligbpfdpaa
/-
  package code: WHAT OPERATIONS POP AND PUSH, AS PLAIN DATA. No walk.
-/
namespace Go.Proofs.Ytlndbligbpfdpaa
set_option linter.unusedVariables false
set_option linter.unusedSimpArgs false
open Go.RowKit

def popV (o : Int) : Int := if o = 3 ∨ o = 5 ∨ o = 17 ∨ o = 20 ∨ o = 27 ∨ o = 6 ∨ o = 12 ∨ o = 15 ∨ o = 16 then 1 else if o = 7 ∨ o = 8 ∨ o = 9 ∨ o = 10 ∨ o = 11 ∨ o = 13 ∨ o = 14 ∨ o = 18 then 2 else 0
def pushV (o : Int) : Int := if o = 1 ∨ o = 2 ∨ o = 4 ∨ o = 6 ∨ o = 12 ∨ o = 15 ∨ o = 8 ∨ o = 9 ∨ o = 10 ∨ o = 11 ∨ o = 13 ∨ o = 14 then 1 else if o = 16 ∨ o = 18 then 2 else 0
theorem pop_le (o : Int) : 0 ≤ popV o ∧ popV o ≤ 2 := by unfold popV; split <;> (try split) <;> omega
theorem push_le (o : Int) : 0 ≤ pushV o ∧ pushV o ≤ 2 := by unfold pushV; split <;> (try split) <;> omega

end Go.Proofs.Ytlndbligbpfdpaa
/-
  Effect, the program's and the document's, BY ITS CONTRACT.
-/
namespace Go.Proofs.Ytlndbligbpfdpaa
set_option linter.unusedVariables false
set_option linter.unusedSimpArgs false
open Go.RowKit
attribute [local go_sem] Oper.semAt_some

set_option maxRecDepth 100000 in
set_option maxHeartbeats 2000000 in
theorem eff_any (o : Int) (w : World) : Calls Try.prog 67 #[.int .u8 o] w fun e w' => e = .returned (.tuple #[.int .i64 (popV o), .int .i64 (pushV o)]) ∧ w = w' := by
  rcases (show o = 1 ∨ o = 2 ∨ o = 3 ∨ o = 4 ∨ o = 5 ∨ o = 6 ∨ o = 7 ∨ o = 8 ∨ o = 9 ∨ o = 10 ∨ o = 11 ∨ o = 12 ∨ o = 13 ∨ o = 14 ∨ o = 15 ∨ o = 16 ∨ o = 17 ∨ o = 18 ∨ o = 20 ∨ o = 27 ∨ (o ≠ 1 ∧ o ≠ 2 ∧ o ≠ 3 ∧ o ≠ 4 ∧ o ≠ 5 ∧ o ≠ 6 ∧ o ≠ 7 ∧ o ≠ 8 ∧ o ≠ 9 ∧ o ≠ 10 ∧ o ≠ 11 ∧ o ≠ 12 ∧ o ≠ 13 ∧ o ≠ 14 ∧ o ≠ 15 ∧ o ≠ 16 ∧ o ≠ 17 ∧ o ≠ 18 ∧ o ≠ 20 ∧ o ≠ 27) by omega) with rfl | rfl | rfl | rfl | rfl | rfl | rfl | rfl | rfl | rfl | rfl | rfl | rfl | rfl | rfl | rfl | rfl | rfl | rfl | rfl | ⟨h1, h2, h3, h4, h5, h6, h7, h8, h9, h10, h11, h12, h13, h14, h15, h16, h17, h18, h20, h27⟩
  · show Calls _ _ _ _ fun e w' => e = .returned (.tuple #[.int .i64 0, .int .i64 1]) ∧ w = w'
    go_enter Try.func67, Try.ntmps67
    go_wp2
    refine bodyPost_ret (v := .tuple #[.int .i64 0, .int .i64 1]) (by simp [results, Try.results67, go_sem]) rfl ?_
    exact ⟨rfl, rfl⟩
  · show Calls _ _ _ _ fun e w' => e = .returned (.tuple #[.int .i64 0, .int .i64 1]) ∧ w = w'
    go_enter Try.func67, Try.ntmps67
    go_wp2
    refine bodyPost_ret (v := .tuple #[.int .i64 0, .int .i64 1]) (by simp [results, Try.results67, go_sem]) rfl ?_
    exact ⟨rfl, rfl⟩
  · show Calls _ _ _ _ fun e w' => e = .returned (.tuple #[.int .i64 1, .int .i64 0]) ∧ w = w'
    go_enter Try.func67, Try.ntmps67
    go_wp2
    refine bodyPost_ret (v := .tuple #[.int .i64 1, .int .i64 0]) (by simp [results, Try.results67, go_sem]) rfl ?_
    exact ⟨rfl, rfl⟩
  · show Calls _ _ _ _ fun e w' => e = .returned (.tuple #[.int .i64 0, .int .i64 1]) ∧ w = w'
    go_enter Try.func67, Try.ntmps67
    go_wp2
    refine bodyPost_ret (v := .tuple #[.int .i64 0, .int .i64 1]) (by simp [results, Try.results67, go_sem]) rfl ?_
    exact ⟨rfl, rfl⟩
  · show Calls _ _ _ _ fun e w' => e = .returned (.tuple #[.int .i64 1, .int .i64 0]) ∧ w = w'
    go_enter Try.func67, Try.ntmps67
    go_wp2
    refine bodyPost_ret (v := .tuple #[.int .i64 1, .int .i64 0]) (by simp [results, Try.results67, go_sem]) rfl ?_
    exact ⟨rfl, rfl⟩
  · show Calls _ _ _ _ fun e w' => e = .returned (.tuple #[.int .i64 1, .int .i64 1]) ∧ w = w'
    go_enter Try.func67, Try.ntmps67
    go_wp2
    refine bodyPost_ret (v := .tuple #[.int .i64 1, .int .i64 1]) (by simp [results, Try.results67, go_sem]) rfl ?_
    exact ⟨rfl, rfl⟩
  · show Calls _ _ _ _ fun e w' => e = .returned (.tuple #[.int .i64 2, .int .i64 0]) ∧ w = w'
    go_enter Try.func67, Try.ntmps67
    go_wp2
    refine bodyPost_ret (v := .tuple #[.int .i64 2, .int .i64 0]) (by simp [results, Try.results67, go_sem]) rfl ?_
    exact ⟨rfl, rfl⟩
  · show Calls _ _ _ _ fun e w' => e = .returned (.tuple #[.int .i64 2, .int .i64 1]) ∧ w = w'
    go_enter Try.func67, Try.ntmps67
    go_wp2
    refine bodyPost_ret (v := .tuple #[.int .i64 2, .int .i64 1]) (by simp [results, Try.results67, go_sem]) rfl ?_
    exact ⟨rfl, rfl⟩
  · show Calls _ _ _ _ fun e w' => e = .returned (.tuple #[.int .i64 2, .int .i64 1]) ∧ w = w'
    go_enter Try.func67, Try.ntmps67
    go_wp2
    refine bodyPost_ret (v := .tuple #[.int .i64 2, .int .i64 1]) (by simp [results, Try.results67, go_sem]) rfl ?_
    exact ⟨rfl, rfl⟩
  · show Calls _ _ _ _ fun e w' => e = .returned (.tuple #[.int .i64 2, .int .i64 1]) ∧ w = w'
    go_enter Try.func67, Try.ntmps67
    go_wp2
    refine bodyPost_ret (v := .tuple #[.int .i64 2, .int .i64 1]) (by simp [results, Try.results67, go_sem]) rfl ?_
    exact ⟨rfl, rfl⟩
  · show Calls _ _ _ _ fun e w' => e = .returned (.tuple #[.int .i64 2, .int .i64 1]) ∧ w = w'
    go_enter Try.func67, Try.ntmps67
    go_wp2
    refine bodyPost_ret (v := .tuple #[.int .i64 2, .int .i64 1]) (by simp [results, Try.results67, go_sem]) rfl ?_
    exact ⟨rfl, rfl⟩
  · show Calls _ _ _ _ fun e w' => e = .returned (.tuple #[.int .i64 1, .int .i64 1]) ∧ w = w'
    go_enter Try.func67, Try.ntmps67
    go_wp2
    refine bodyPost_ret (v := .tuple #[.int .i64 1, .int .i64 1]) (by simp [results, Try.results67, go_sem]) rfl ?_
    exact ⟨rfl, rfl⟩
  · show Calls _ _ _ _ fun e w' => e = .returned (.tuple #[.int .i64 2, .int .i64 1]) ∧ w = w'
    go_enter Try.func67, Try.ntmps67
    go_wp2
    refine bodyPost_ret (v := .tuple #[.int .i64 2, .int .i64 1]) (by simp [results, Try.results67, go_sem]) rfl ?_
    exact ⟨rfl, rfl⟩
  · show Calls _ _ _ _ fun e w' => e = .returned (.tuple #[.int .i64 2, .int .i64 1]) ∧ w = w'
    go_enter Try.func67, Try.ntmps67
    go_wp2
    refine bodyPost_ret (v := .tuple #[.int .i64 2, .int .i64 1]) (by simp [results, Try.results67, go_sem]) rfl ?_
    exact ⟨rfl, rfl⟩
  · show Calls _ _ _ _ fun e w' => e = .returned (.tuple #[.int .i64 1, .int .i64 1]) ∧ w = w'
    go_enter Try.func67, Try.ntmps67
    go_wp2
    refine bodyPost_ret (v := .tuple #[.int .i64 1, .int .i64 1]) (by simp [results, Try.results67, go_sem]) rfl ?_
    exact ⟨rfl, rfl⟩
  · show Calls _ _ _ _ fun e w' => e = .returned (.tuple #[.int .i64 1, .int .i64 2]) ∧ w = w'
    go_enter Try.func67, Try.ntmps67
    go_wp2
    refine bodyPost_ret (v := .tuple #[.int .i64 1, .int .i64 2]) (by simp [results, Try.results67, go_sem]) rfl ?_
    exact ⟨rfl, rfl⟩
  · show Calls _ _ _ _ fun e w' => e = .returned (.tuple #[.int .i64 1, .int .i64 0]) ∧ w = w'
    go_enter Try.func67, Try.ntmps67
    go_wp2
    refine bodyPost_ret (v := .tuple #[.int .i64 1, .int .i64 0]) (by simp [results, Try.results67, go_sem]) rfl ?_
    exact ⟨rfl, rfl⟩
  · show Calls _ _ _ _ fun e w' => e = .returned (.tuple #[.int .i64 2, .int .i64 2]) ∧ w = w'
    go_enter Try.func67, Try.ntmps67
    go_wp2
    refine bodyPost_ret (v := .tuple #[.int .i64 2, .int .i64 2]) (by simp [results, Try.results67, go_sem]) rfl ?_
    exact ⟨rfl, rfl⟩
  · show Calls _ _ _ _ fun e w' => e = .returned (.tuple #[.int .i64 1, .int .i64 0]) ∧ w = w'
    go_enter Try.func67, Try.ntmps67
    go_wp2
    refine bodyPost_ret (v := .tuple #[.int .i64 1, .int .i64 0]) (by simp [results, Try.results67, go_sem]) rfl ?_
    exact ⟨rfl, rfl⟩
  · show Calls _ _ _ _ fun e w' => e = .returned (.tuple #[.int .i64 1, .int .i64 0]) ∧ w = w'
    go_enter Try.func67, Try.ntmps67
    go_wp2
    refine bodyPost_ret (v := .tuple #[.int .i64 1, .int .i64 0]) (by simp [results, Try.results67, go_sem]) rfl ?_
    exact ⟨rfl, rfl⟩
  · have e1 : popV o = 0 := by simp [popV, *]
    have e2 : pushV o = 0 := by simp [pushV, *]
    rw [e1, e2]
    go_enter Try.func67, Try.ntmps67
    go_wp2
    refine bodyPost_ret (v := .tuple #[.int .i64 0, .int .i64 0]) (by simp [results, Try.results67, go_sem]) rfl ?_
    exact ⟨rfl, rfl⟩

set_option maxRecDepth 100000 in
set_option maxHeartbeats 2000000 in
theorem reff_any (o : Int) (w : World) : Calls Try.prog 29 #[.int .u8 o] w fun e w' => e = .returned (.tuple #[.int .i64 (popV o), .int .i64 (pushV o)]) ∧ w = w' := by
  rcases (show o = 1 ∨ o = 2 ∨ o = 3 ∨ o = 4 ∨ o = 5 ∨ o = 6 ∨ o = 7 ∨ o = 8 ∨ o = 9 ∨ o = 10 ∨ o = 11 ∨ o = 12 ∨ o = 13 ∨ o = 14 ∨ o = 15 ∨ o = 16 ∨ o = 17 ∨ o = 18 ∨ o = 20 ∨ o = 27 ∨ (o ≠ 1 ∧ o ≠ 2 ∧ o ≠ 3 ∧ o ≠ 4 ∧ o ≠ 5 ∧ o ≠ 6 ∧ o ≠ 7 ∧ o ≠ 8 ∧ o ≠ 9 ∧ o ≠ 10 ∧ o ≠ 11 ∧ o ≠ 12 ∧ o ≠ 13 ∧ o ≠ 14 ∧ o ≠ 15 ∧ o ≠ 16 ∧ o ≠ 17 ∧ o ≠ 18 ∧ o ≠ 20 ∧ o ≠ 27) by omega) with rfl | rfl | rfl | rfl | rfl | rfl | rfl | rfl | rfl | rfl | rfl | rfl | rfl | rfl | rfl | rfl | rfl | rfl | rfl | rfl | ⟨h1, h2, h3, h4, h5, h6, h7, h8, h9, h10, h11, h12, h13, h14, h15, h16, h17, h18, h20, h27⟩
  · show Calls _ _ _ _ fun e w' => e = .returned (.tuple #[.int .i64 0, .int .i64 1]) ∧ w = w'
    go_enter Try.func29, Try.ntmps29
    go_wp2
    refine bodyPost_ret (v := .tuple #[.int .i64 0, .int .i64 1]) (by simp [results, Try.results29, go_sem]) rfl ?_
    exact ⟨rfl, rfl⟩
  · show Calls _ _ _ _ fun e w' => e = .returned (.tuple #[.int .i64 0, .int .i64 1]) ∧ w = w'
    go_enter Try.func29, Try.ntmps29
    go_wp2
    refine bodyPost_ret (v := .tuple #[.int .i64 0, .int .i64 1]) (by simp [results, Try.results29, go_sem]) rfl ?_
    exact ⟨rfl, rfl⟩
  · show Calls _ _ _ _ fun e w' => e = .returned (.tuple #[.int .i64 1, .int .i64 0]) ∧ w = w'
    go_enter Try.func29, Try.ntmps29
    go_wp2
    refine bodyPost_ret (v := .tuple #[.int .i64 1, .int .i64 0]) (by simp [results, Try.results29, go_sem]) rfl ?_
    exact ⟨rfl, rfl⟩
  · show Calls _ _ _ _ fun e w' => e = .returned (.tuple #[.int .i64 0, .int .i64 1]) ∧ w = w'
    go_enter Try.func29, Try.ntmps29
    go_wp2
    refine bodyPost_ret (v := .tuple #[.int .i64 0, .int .i64 1]) (by simp [results, Try.results29, go_sem]) rfl ?_
    exact ⟨rfl, rfl⟩
  · show Calls _ _ _ _ fun e w' => e = .returned (.tuple #[.int .i64 1, .int .i64 0]) ∧ w = w'
    go_enter Try.func29, Try.ntmps29
    go_wp2
    refine bodyPost_ret (v := .tuple #[.int .i64 1, .int .i64 0]) (by simp [results, Try.results29, go_sem]) rfl ?_
    exact ⟨rfl, rfl⟩
  · show Calls _ _ _ _ fun e w' => e = .returned (.tuple #[.int .i64 1, .int .i64 1]) ∧ w = w'
    go_enter Try.func29, Try.ntmps29
    go_wp2
    refine bodyPost_ret (v := .tuple #[.int .i64 1, .int .i64 1]) (by simp [results, Try.results29, go_sem]) rfl ?_
    exact ⟨rfl, rfl⟩
  · show Calls _ _ _ _ fun e w' => e = .returned (.tuple #[.int .i64 2, .int .i64 0]) ∧ w = w'
    go_enter Try.func29, Try.ntmps29
    go_wp2
    refine bodyPost_ret (v := .tuple #[.int .i64 2, .int .i64 0]) (by simp [results, Try.results29, go_sem]) rfl ?_
    exact ⟨rfl, rfl⟩
  · show Calls _ _ _ _ fun e w' => e = .returned (.tuple #[.int .i64 2, .int .i64 1]) ∧ w = w'
    go_enter Try.func29, Try.ntmps29
    go_wp2
    refine bodyPost_ret (v := .tuple #[.int .i64 2, .int .i64 1]) (by simp [results, Try.results29, go_sem]) rfl ?_
    exact ⟨rfl, rfl⟩
  · show Calls _ _ _ _ fun e w' => e = .returned (.tuple #[.int .i64 2, .int .i64 1]) ∧ w = w'
    go_enter Try.func29, Try.ntmps29
    go_wp2
    refine bodyPost_ret (v := .tuple #[.int .i64 2, .int .i64 1]) (by simp [results, Try.results29, go_sem]) rfl ?_
    exact ⟨rfl, rfl⟩
  · show Calls _ _ _ _ fun e w' => e = .returned (.tuple #[.int .i64 2, .int .i64 1]) ∧ w = w'
    go_enter Try.func29, Try.ntmps29
    go_wp2
    refine bodyPost_ret (v := .tuple #[.int .i64 2, .int .i64 1]) (by simp [results, Try.results29, go_sem]) rfl ?_
    exact ⟨rfl, rfl⟩
  · show Calls _ _ _ _ fun e w' => e = .returned (.tuple #[.int .i64 2, .int .i64 1]) ∧ w = w'
    go_enter Try.func29, Try.ntmps29
    go_wp2
    refine bodyPost_ret (v := .tuple #[.int .i64 2, .int .i64 1]) (by simp [results, Try.results29, go_sem]) rfl ?_
    exact ⟨rfl, rfl⟩
  · show Calls _ _ _ _ fun e w' => e = .returned (.tuple #[.int .i64 1, .int .i64 1]) ∧ w = w'
    go_enter Try.func29, Try.ntmps29
    go_wp2
    refine bodyPost_ret (v := .tuple #[.int .i64 1, .int .i64 1]) (by simp [results, Try.results29, go_sem]) rfl ?_
    exact ⟨rfl, rfl⟩
  · show Calls _ _ _ _ fun e w' => e = .returned (.tuple #[.int .i64 2, .int .i64 1]) ∧ w = w'
    go_enter Try.func29, Try.ntmps29
    go_wp2
    refine bodyPost_ret (v := .tuple #[.int .i64 2, .int .i64 1]) (by simp [results, Try.results29, go_sem]) rfl ?_
    exact ⟨rfl, rfl⟩
  · show Calls _ _ _ _ fun e w' => e = .returned (.tuple #[.int .i64 2, .int .i64 1]) ∧ w = w'
    go_enter Try.func29, Try.ntmps29
    go_wp2
    refine bodyPost_ret (v := .tuple #[.int .i64 2, .int .i64 1]) (by simp [results, Try.results29, go_sem]) rfl ?_
    exact ⟨rfl, rfl⟩
  · show Calls _ _ _ _ fun e w' => e = .returned (.tuple #[.int .i64 1, .int .i64 1]) ∧ w = w'
    go_enter Try.func29, Try.ntmps29
    go_wp2
    refine bodyPost_ret (v := .tuple #[.int .i64 1, .int .i64 1]) (by simp [results, Try.results29, go_sem]) rfl ?_
    exact ⟨rfl, rfl⟩
  · show Calls _ _ _ _ fun e w' => e = .returned (.tuple #[.int .i64 1, .int .i64 2]) ∧ w = w'
    go_enter Try.func29, Try.ntmps29
    go_wp2
    refine bodyPost_ret (v := .tuple #[.int .i64 1, .int .i64 2]) (by simp [results, Try.results29, go_sem]) rfl ?_
    exact ⟨rfl, rfl⟩
  · show Calls _ _ _ _ fun e w' => e = .returned (.tuple #[.int .i64 1, .int .i64 0]) ∧ w = w'
    go_enter Try.func29, Try.ntmps29
    go_wp2
    refine bodyPost_ret (v := .tuple #[.int .i64 1, .int .i64 0]) (by simp [results, Try.results29, go_sem]) rfl ?_
    exact ⟨rfl, rfl⟩
  · show Calls _ _ _ _ fun e w' => e = .returned (.tuple #[.int .i64 2, .int .i64 2]) ∧ w = w'
    go_enter Try.func29, Try.ntmps29
    go_wp2
    refine bodyPost_ret (v := .tuple #[.int .i64 2, .int .i64 2]) (by simp [results, Try.results29, go_sem]) rfl ?_
    exact ⟨rfl, rfl⟩
  · show Calls _ _ _ _ fun e w' => e = .returned (.tuple #[.int .i64 1, .int .i64 0]) ∧ w = w'
    go_enter Try.func29, Try.ntmps29
    go_wp2
    refine bodyPost_ret (v := .tuple #[.int .i64 1, .int .i64 0]) (by simp [results, Try.results29, go_sem]) rfl ?_
    exact ⟨rfl, rfl⟩
  · show Calls _ _ _ _ fun e w' => e = .returned (.tuple #[.int .i64 1, .int .i64 0]) ∧ w = w'
    go_enter Try.func29, Try.ntmps29
    go_wp2
    refine bodyPost_ret (v := .tuple #[.int .i64 1, .int .i64 0]) (by simp [results, Try.results29, go_sem]) rfl ?_
    exact ⟨rfl, rfl⟩
  · have e1 : popV o = 0 := by simp [popV, *]
    have e2 : pushV o = 0 := by simp [pushV, *]
    rw [e1, e2]
    go_enter Try.func29, Try.ntmps29
    go_wp2
    refine bodyPost_ret (v := .tuple #[.int .i64 0, .int .i64 0]) (by simp [results, Try.results29, go_sem]) rfl ?_
    exact ⟨rfl, rfl⟩

end Go.Proofs.Ytlndbligbpfdpaa
/-
  package spec: reckoned, popped BY THEIR CONTRACTS.
-/
namespace Go.Proofs.Ytlndbligbpfdpaa
set_option linter.unusedVariables false
set_option linter.unusedSimpArgs false
open Go.RowKit
attribute [local go_sem] Oper.semAt_some

/-- What an operation makes of two values. -/
def reckV (o a b : Int) : Int :=
  if o = 8 then (arithB .add (ofB a.toNat) (ofB b.toNat) : Int) else if o = 9 then (arithB .sub (ofB a.toNat) (ofB b.toNat) : Int) else if o = 10 then (arithB .mul (ofB a.toNat) (ofB b.toNat) : Int) else if o = 11 then (arithB .quo (ofB a.toNat) (ofB b.toNat) : Int) else if o = 13 then oneV (lessB (ofB a.toNat) (ofB b.toNat)) else oneV (((ofB a.toNat : Nat) : Int) == (ofB b.toNat : Nat))

set_option maxRecDepth 100000 in
set_option maxHeartbeats 1000000 in
theorem reckoned_any (o a b : Int) (w : World) : Calls Try.prog 71 #[.int .u8 o, .int .u64 a, .int .u64 b] w fun e w' => e = .returned (.int .u64 (reckV o a b)) ∧ Touch w w' [] := by
  rcases (show o = 8 ∨ o = 9 ∨ o = 10 ∨ o = 11 ∨ o = 13 ∨ (o ≠ 8 ∧ o ≠ 9 ∧ o ≠ 10 ∧ o ≠ 11 ∧ o ≠ 13) by omega) with rfl | rfl | rfl | rfl | rfl | ⟨h8, h9, h10, h11, h13⟩
  · have hc : HidC _ _ _ _ _ := ⟨add_any a b w⟩
    have e : reckV 8 a b = (arithB .add (ofB a.toNat) (ofB b.toNat) : Int) := rfl
    rw [e]
    generalize (arithB .add (ofB a.toNat) (ofB b.toNat)) = x at *
    go_enter Try.func71, Try.ntmps71
    go_wp2_with fail
    refine hc.out.mono ?_
    rintro e w1 ⟨rfl, t1⟩
    have HT : Hid _ := t1
    clear hc t1
    go_wp2
    go_ret
    exact ⟨rfl, HT.out⟩
  · have hc : HidC _ _ _ _ _ := ⟨sub_any a b w⟩
    have e : reckV 9 a b = (arithB .sub (ofB a.toNat) (ofB b.toNat) : Int) := rfl
    rw [e]
    generalize (arithB .sub (ofB a.toNat) (ofB b.toNat)) = x at *
    go_enter Try.func71, Try.ntmps71
    go_wp2_with fail
    refine hc.out.mono ?_
    rintro e w1 ⟨rfl, t1⟩
    have HT : Hid _ := t1
    clear hc t1
    go_wp2
    go_ret
    exact ⟨rfl, HT.out⟩
  · have hc : HidC _ _ _ _ _ := ⟨mul_any a b w⟩
    have e : reckV 10 a b = (arithB .mul (ofB a.toNat) (ofB b.toNat) : Int) := rfl
    rw [e]
    generalize (arithB .mul (ofB a.toNat) (ofB b.toNat)) = x at *
    go_enter Try.func71, Try.ntmps71
    go_wp2_with fail
    refine hc.out.mono ?_
    rintro e w1 ⟨rfl, t1⟩
    have HT : Hid _ := t1
    clear hc t1
    go_wp2
    go_ret
    exact ⟨rfl, HT.out⟩
  · have hc : HidC _ _ _ _ _ := ⟨div_any a b w⟩
    have e : reckV 11 a b = (arithB .quo (ofB a.toNat) (ofB b.toNat) : Int) := rfl
    rw [e]
    generalize (arithB .quo (ofB a.toNat) (ofB b.toNat)) = x at *
    go_enter Try.func71, Try.ntmps71
    go_wp2_with fail
    refine hc.out.mono ?_
    rintro e w1 ⟨rfl, t1⟩
    have HT : Hid _ := t1
    clear hc t1
    go_wp2
    go_ret
    exact ⟨rfl, HT.out⟩
  · have hc : HidC _ _ _ _ _ := ⟨less_any a b w⟩
    have e : reckV 13 a b = oneV (lessB (ofB a.toNat) (ofB b.toNat)) := rfl
    rw [e]
    generalize lessB (ofB a.toNat) (ofB b.toNat) = x at *
    have ht : HidC _ _ _ _ _ := ⟨struth_any x w⟩
    go_enter Try.func71, Try.ntmps71
    go_wp2_with fail
    refine hc.out.mono ?_
    rintro e w1 ⟨rfl, rfl⟩
    clear hc
    go_wp2_with fail
    refine ht.out.mono ?_
    rintro e w1 ⟨rfl, rfl⟩
    clear ht
    go_wp2
    go_ret
    exact ⟨rfl, Touch.refl _ _⟩
  · have hc : HidC _ _ _ _ _ := ⟨same_any a b w⟩
    have e : reckV o a b = oneV (((ofB a.toNat : Nat) : Int) == (ofB b.toNat : Nat)) := by unfold reckV; rw [if_neg h8, if_neg h9, if_neg h10, if_neg h11, if_neg h13]
    rw [e]
    generalize (((ofB a.toNat : Nat) : Int) == (ofB b.toNat : Nat)) = x at *
    have ht : HidC _ _ _ _ _ := ⟨struth_any x w⟩
    clear e
    go_enter Try.func71, Try.ntmps71
    go_wp2_with fail
    refine hc.out.mono ?_
    rintro e w1 ⟨rfl, rfl⟩
    clear hc
    go_wp2_with fail
    refine ht.out.mono ?_
    rintro e w1 ⟨rfl, rfl⟩
    clear ht
    go_wp2
    go_ret
    exact ⟨rfl, Touch.refl _ _⟩

/-- Are the values there that an operation pops, and has what it pushes room? -/
def fitsW (o : Int) (n : Nat) : Bool := decide (popV o ≤ n) && decide ((n : Int) - popV o + pushV o ≤ 12)

set_option maxRecDepth 100000 in
set_option maxHeartbeats 1000000 in
theorem popped_no {w : World} {b : Nat} {T : TypeId} {tl : List Value} {vo vp : Value} {ao : Option Addr} {n cap : Nat} {D : WD} (h : WObj w b T tl (.slice ao n cap) vo vp D) (hn : n ≤ 1000) (o : Int) (hf : fitsW o n = false) :
    Calls Try.prog 43 #[.pointer (some ⟨b, 0, none⟩), .int .u8 o] w (StuckP 12 w) := by
  have c := h.cells
  have c1 := c.c1
  have hef : HidC _ _ _ _ _ := ⟨eff_any o w⟩
  have hnd : HidC _ _ _ _ _ := ⟨sneed_no 12 w⟩
  have p0 := pop_le o
  have p1 := push_le o
  unfold fitsW at hf
  generalize popV o = po at *
  generalize pushV o = pu at *
  have hw1 : IntKind.i64.wrap ((n : Int) - po) = (n : Int) - po := by rw [IntKind.wrap_i64]; omega
  have hw2 : IntKind.i64.wrap ((n : Int) - po + pu) = (n : Int) - po + pu := by rw [IntKind.wrap_i64]; omega
  clear h c
  by_cases h1 : po ≤ n
  · have h2 : decide ((0 : Int) ≤ (n : Int) - po) = true := decide_eq_true (by omega)
    have h3 : decide ((n : Int) - po + pu ≤ 12) = false := by
      rw [decide_eq_true (show po ≤ (n : Int) from h1)] at hf
      simpa using hf
    clear hf
    go_enter Try.func43, Try.ntmps43
    go_wp2_with fail
    refine hef.out.mono ?_
    rintro e _ ⟨rfl, rfl⟩
    clear hef
    go_wp2_with fail
    refine hnd.out.mono ?_
    rintro e w1 ⟨rfl, t1⟩
    exact ⟨rfl, rfl, t1⟩
  · have h2 : decide ((0 : Int) ≤ (n : Int) - po) = false := decide_eq_false (by omega)
    clear hf
    go_enter Try.func43, Try.ntmps43
    go_wp2_with fail
    refine hef.out.mono ?_
    rintro e _ ⟨rfl, rfl⟩
    clear hef
    go_wp2_with fail
    refine hnd.out.mono ?_
    rintro e w1 ⟨rfl, t1⟩
    exact ⟨rfl, rfl, t1⟩

/-! ### Rows of values -/
abbrev vcell : Int → List Value := fun x => [Value.int .u64 x]
abbrev VRow := SRow 1 vcell
abbrev valOwn (w : World) (B : Nat) (v : Value) (l : List Int) : Prop := w.ownsRow B 25 1 v l.length (l.map (Value.int .u64))
theorem vrow_of {w : World} {B : Nat} {v : Value} {l : List Int} (h : valOwn w B v l) : VRow w v l := srow_of (cells := vcell) (n := 1) (fun _ => rfl) (by rw [flat_one]; exact h)
theorem vrow_drop {w : World} {g off cap : Nat} {l : List Int} (h : VRow w (.slice (some ⟨g, off, none⟩) l.length cap) l) (m c p : Nat) (hm : m ≤ l.length) (hp : m < l.length → p = off + m) : VRow w (.slice (some ⟨g, p, none⟩) (l.length - m) c) (l.drop m) := by
  refine ⟨_, c, by rw [List.length_drop], fun hne => ?_⟩
  have hlt : m < l.length := by
    rcases Nat.lt_or_ge m l.length with q | q
    · exact q
    · exact absurd (List.drop_of_length_le q) hne
  obtain ⟨g', off', e, hg, _⟩ := h.at m hlt
  simp only [Option.some.injEq, Addr.mk.injEq] at e
  obtain ⟨rfl, rfl, _⟩ := e
  refine ⟨g, p, rfl, hg, fun k hk j hj => ?_⟩
  rw [List.length_drop] at hk
  obtain ⟨g2, off2, e2, _, hc⟩ := h.at (m + k) (by omega)
  simp only [Option.some.injEq, Addr.mk.injEq] at e2
  obtain ⟨rfl, rfl, _⟩ := e2
  have := hc j hj
  rw [List.getElem_drop, hp hlt]
  have e3 : off + m + k * 1 + j = off + (m + k) * 1 + j := by omega
  rw [e3]
  exact this

set_option maxRecDepth 100000 in
set_option maxHeartbeats 1000000 in
theorem popped_ok {w : World} {b B : Nat} {T : TypeId} {tl : List Value} {vo vp : Value} {ao : Option Addr} {n cap : Nat} {D : WD} (h : WObj w b T tl (.slice ao n cap) vo vp D) (hv : valOwn w B (.slice ao n cap) D.st) (hn : n ≤ 1000) (o : Int) (hf : fitsW o n = true) :
    Calls Try.prog 43 #[.pointer (some ⟨b, 0, none⟩), .int .u8 o] w fun e w' => (∃ a c, e = .returned (.slice a (popV o).toNat c) ∧ VRow w (.slice a (popV o).toNat c) (D.st.drop (n - (popV o).toNat))) ∧ w = w' := by
  have c := h.cells
  have c1 := c.c1
  have hef : HidC _ _ _ _ _ := ⟨eff_any o w⟩
  have hnd : HidC _ _ _ _ _ := ⟨sneed_ok 12 w⟩
  have p0 := pop_le o
  have p1 := push_le o
  unfold fitsW at hf
  generalize popV o = po at *
  generalize pushV o = pu at *
  simp only [Bool.and_eq_true, decide_eq_true_eq] at hf
  obtain ⟨m, hm⟩ := Int.eq_ofNat_of_zero_le p0.1
  have hm' : po = (m : Int) := hm
  subst hm'
  simp only [Int.toNat_natCast]
  have hmn : m ≤ n := by omega
  have hlen : D.st.length = n := by
    obtain ⟨a2, c2, e⟩ := owns_slice hv
    simp only [Value.slice.injEq] at e
    exact e.2.1.symm
  have hcap : n ≤ cap ∧ cap ≤ 9223372036854775807 := by
    rcases hv.2 with ⟨e5, h5⟩ | ⟨g5, cap5, cur5, e5, hb5, _, hn5, hm5, _⟩
    · simp only [Value.slice.injEq] at e5; omega
    · simp only [Value.slice.injEq] at e5; unfold maxLen at hm5; omega
  have hw1 : IntKind.i64.wrap ((n : Int) - m) = (n : Int) - m := by rw [IntKind.wrap_i64]; omega
  have hw2 : IntKind.i64.wrap ((n : Int) - m + pu) = (n : Int) - m + pu := by rw [IntKind.wrap_i64]; omega
  have h2 : decide ((0 : Int) ≤ (n : Int) - m) = true := decide_eq_true (by omega)
  have h3 : decide ((n : Int) - m + pu ≤ 12) = true := decide_eq_true hf.2
  obtain ⟨q, hq⟩ : ∃ q : Nat, (q : Int) = (n : Int) - m := ⟨n - m, by omega⟩
  have hqm : n - m = q := by omega
  have hnq : n - q = m := by omega
  have hqn : (q : Int) ≤ n := by omega
  have hqc : (q : Int) ≤ cap := by omega
  have hqc2 : q ≤ cap := by omega
  have hqn2 : q ≤ n := by omega
  have hnc : (n : Int) ≤ cap := by omega
  rw [← hq] at hw1 hw2 h2 h3
  rw [hqm]
  have HQ : Hid _ := hq
  have hsub : ((n : Int) - (m : Int)) = (q : Int) := hq.symm
  have HR : Hid _ := vrow_of hv
  have HL : Hid _ := hlen
  have hform : (ao = none ∧ n = 0 ∧ cap = 0) ∨ ∃ g, ao = some ⟨g, 0, none⟩ := by
    rcases hv.2 with ⟨e5, h5⟩ | ⟨g5, cap5, cur5, e5, _⟩
    · simp only [Value.slice.injEq] at e5; exact .inl e5
    · simp only [Value.slice.injEq] at e5; exact .inr ⟨g5, e5.1⟩
  obtain ⟨p1a, p1b⟩ := p1
  clear h c hf hv hq hm hlen hqm hcap p0
  rcases hform with ⟨rfl, rfl, rfl⟩ | ⟨g, rfl⟩
  · obtain rfl : m = 0 := by omega
    obtain rfl : q = 0 := by omega
    have h4 : decide (pu ≤ (12 : Int)) = true := decide_eq_true (by omega)
    have HV : Hid (VRow w (.slice none 0 0) (D.st.drop 0)) := by
      have := HR.out
      rw [List.drop_zero]
      exact this
    go_enter Try.func43, Try.ntmps43
    go_wp2_with fail
    refine hef.out.mono ?_
    rintro e _ ⟨rfl, rfl⟩
    clear hef
    go_wp2_with fail
    refine hnd.out.mono ?_
    rintro e _ ⟨rfl, rfl⟩
    clear hnd
    go_wp2
    go_ret
    exact ⟨⟨none, 0, rfl, HV.out⟩, rfl⟩
  · have HV : Hid (∀ p c, (q < n → p = 0 + q) → VRow w (.slice (some ⟨g, p, none⟩) m c) (D.st.drop q)) := fun p c hp => by
      have hr := HR.out
      rw [← HL.out] at hr
      have := vrow_drop hr q c p (by rw [HL.out]; exact hqn2) (by rw [HL.out]; exact hp)
      rw [HL.out, hnq] at this
      exact this
    by_cases hcc : cap = q
    · have hm0 : m = 0 := by omega
      subst hm0
      obtain rfl : n = q := by omega
      subst hcc
      go_enter Try.func43, Try.ntmps43
      go_wp2_with fail
      refine hef.out.mono ?_
      rintro e _ ⟨rfl, rfl⟩
      clear hef
      go_wp2_with fail
      refine hnd.out.mono ?_
      rintro e _ ⟨rfl, rfl⟩
      clear hnd
      go_wp2
      go_ret
      exact ⟨⟨some ⟨g, 0, none⟩, 0, rfl, HV.out _ _ (fun h => by omega)⟩, rfl⟩
    · go_enter Try.func43, Try.ntmps43
      go_wp2_with fail
      refine hef.out.mono ?_
      rintro e _ ⟨rfl, rfl⟩
      clear hef
      go_wp2_with fail
      refine hnd.out.mono ?_
      rintro e _ ⟨rfl, rfl⟩
      clear hnd
      go_wp2
      go_ret
      exact ⟨⟨some ⟨g, q, none⟩, cap - q, rfl, HV.out _ _ (fun h => by omega)⟩, rfl⟩

end Go.Proofs.Ytlndbligbpfdpaa
/-
  package spec: exchange BY ITS CONTRACT.
-/
namespace Go.Proofs.Ytlndbligbpfdpaa
set_option linter.unusedVariables false
set_option linter.unusedSimpArgs false
open Go.RowKit
attribute [local go_sem] Oper.semAt_some

theorem info_partsV {P : Program} {t : TypeId} {z : Value} {s b : Nat} (h : (P.info? t).map (fun i => (i.zero, i.size, i.bytes)) = some (some z, s, b)) : ∃ i, P.info? t = some i ∧ i.zero = some z ∧ i.size = s ∧ i.bytes = b := by
  cases hi : P.info? t with
  | none => rw [hi] at h; cases h
  | some i => rw [hi] at h; simp at h; exact ⟨i, rfl, h.1, h.2.1, h.2.2⟩
theorem Try.info_val : (Try.prog.info? 25).map (fun i => (i.zero, i.size, i.bytes)) = some (some (.int .u64 0), 1, 8) := by kernel_rfl

theorem step_append_run {P : Program} {w : World} {ops : Array Oper} {o : Oper} {a : Act} {K : Act → World → Prop} {Q : Exit → Act → World → Prop} {E : Prop} (hgd : o.guard = none) (s x : Operand) (t ty : TypeId)
    (ho : o.op = .call { callee := .builtin .append, args := #[s, x], argTypes := #[t, t] }) (hty : o.type = ty) (v1 v2 v3 : Value) (w3 : World) (hs : a.eval s = v1) (hx : a.eval x = v2)
    (hr : (Builtin.append_ #[t, t] ty #[v1, v2]).run P w = .ok v3 w3) (h : K (a.put o.dst v3) w3) : if Region.wanted o (yielded ops a.tmps) = true then Oper.wp P o a w K Q else E := by
  have hw : Region.wanted o (yielded ops a.tmps) = true := by simp [Region.wanted, hgd]
  rw [if_pos hw]
  subst hty
  unfold Oper.wp execOp
  simp only [ho, resolve, invoke, builtin, Sem.run_bind, Sem.run_pure, Result.andThen_ok, List.map_toArray, List.map_cons, List.map_nil, hs, hx, hr]
  exact h
/-- The lower values of a stack. -/
theorem own_take {w : World} {B : Nat} {ao : Option Addr} {n cap : Nat} {l : List Int} (h : valOwn w B (.slice ao n cap) l) (q : Nat) (hq : q ≤ n) : valOwn w B (.slice ao q cap) (l.take q) := by
  have hl : l.length = n := by
    obtain ⟨a2, c2, e⟩ := owns_slice h
    simp only [Value.slice.injEq] at e
    exact e.2.1.symm
  have hlq : (l.take q).length = q := by rw [List.length_take]; omega
  refine ⟨by simp, ?_⟩
  rcases h.2 with ⟨e5, h5⟩ | ⟨g5, cap5, cur5, e5, hb5, hg5, hn5, hm5, hs5, ht5⟩
  · simp only [Value.slice.injEq] at e5
    obtain ⟨rfl, rfl, rfl⟩ := e5
    have hq0 : q = 0 := by omega
    subst hq0
    exact .inl ⟨rfl, by simp⟩
  · simp only [Value.slice.injEq] at e5
    obtain ⟨rfl, e6, rfl⟩ := e5
    refine .inr ⟨g5, cap, cur5, by rw [hlq], hb5, hg5, by rw [hlq]; omega, hm5, hs5, ?_⟩
    rw [hlq, List.map_take, ← ht5, List.take_take]
    congr 1
    omega
theorem val_app {w : World} {B : Nat} {v : Value} {xs : List Int} (h : valOwn w B v xs) (hl : xs.length ≤ 1000) (hB : B ≤ w.heap.size) {ao : Option Addr} {n cap : Nat} {l : List Int} (hr : VRow w (.slice ao n cap) l) (hn : n = l.length) (hm : n ≤ 1000) (ty : TypeId) :
    ∃ ao' cap' w', (Builtin.append_ #[23, 23] ty #[v, .slice ao n cap]).run Try.prog w = .ok (.slice ao' (xs.length + n) cap') w' ∧ valOwn w' B (.slice ao' (xs.length + n) cap') (xs ++ l) ∧ Touch w w' v.ownBlock.toList ∧ (∀ g, (Value.slice ao' (xs.length + n) cap').ownBlock = some g → v.ownBlock = some g ∨ w.heap.size ≤ g) := by
  obtain ⟨i0, hi, hz0, hz1, hz2⟩ := info_partsV Try.info_val
  subst hn
  obtain ⟨v', w', h1, h2, h3, h4⟩ := run_app (P := Try.prog) (cells := vcell) 23 ty 25 i0 _ 1 8 Try.underlying23 hi hz0 hz1 hz2 rfl (by decide) (fun _ => rfl) (by simp [vcell, Value.oneCell']) h (l := l) hr (by omega) (by decide) hB
  have h2' : valOwn w' B v' (xs ++ l) := by
    show w'.ownsRow _ _ _ _ _ _
    rw [flat_one] at h2
    rw [List.length_append, List.map_append]
    exact h2
  obtain ⟨ao', cap', rfl⟩ := owns_slice h2'
  simp only [List.length_append] at h1 h2' h4
  refine ⟨ao', cap', w', h1, h2', (Touch.refl w _).grown h3 (fun k hk => .inl (by simp [hk])), ?_⟩
  intro g hg
  rcases h4 with h4 | h4
  · left; rw [← h4]; exact hg
  · right; rw [h4] at hg; simp at hg; omega

/-- Behind exchange. -/
def ExchP (w : World) (b B : Nat) (T : TypeId) (tl : List Value) (vs vo vp : Value) (D : WD) (e : Ending) (w' : World) : Prop :=
  e = .returned (.tuple #[]) ∧ ∃ v', WObj w' b T tl v' vo vp D ∧ valOwn w' B v' D.st ∧ Touch w w' (b :: vs.ownBlock.toList) ∧ (∀ g, v'.ownBlock = some g → vs.ownBlock = some g ∨ w.heap.size ≤ g)

set_option maxRecDepth 100000 in
set_option maxHeartbeats 2000000 in
theorem exchange_any {w : World} {b B : Nat} {T : TypeId} {tl : List Value} {vo vp : Value} {ao : Option Addr} {n cap : Nat} {D : WD} (h : WObj w b T tl (.slice ao n cap) vo vp D) (hv : valOwn w B (.slice ao n cap) D.st) (hB : B ≤ w.heap.size) (hb : ∀ g, (Value.slice ao n cap).ownBlock = some g → g ≠ b) (hn : n ≤ 1000) (p : Nat) (hp : p ≤ n) {a2 : Option Addr} {m c2 : Nat} {pu : List Int} (hpu : VRow w (.slice a2 m c2) pu) (hm : m = pu.length) (hm2 : m ≤ 1000) :
    Calls Try.prog 46 #[.pointer (some ⟨b, 0, none⟩), .int .i64 (p : Int), .slice a2 m c2] w (ExchP w b B T tl (.slice ao n cap) vo vp { D with st := D.st.take (n - p) ++ pu }) := by
  have td : Touch w w.drew [] := (Touch.refl w []).drew
  obtain ⟨a3, c3, w3, hrun, ho3, t3, hb3⟩ := val_app (ownsRow_touch (own_take hv (n - p) (by omega)) td (by simp)) (by rw [List.length_take]; omega) hB (SRow.keep hpu td (by simp)) hm hm2 23
  have hlen : D.st.length = n := by
    obtain ⟨a5, c5, e⟩ := owns_slice hv
    simp only [Value.slice.injEq] at e
    exact e.2.1.symm
  have hlt : (D.st.take (n - p)).length = n - p := by rw [List.length_take]; omega
  rw [hlt] at hrun ho3 hb3
  have hob : ∀ g, (Value.slice ao n cap).ownBlock = some g → B ≤ g := fun g hg => by
    rcases hv.2 with ⟨e5, h5⟩ | ⟨g5, cap5, cur5, e5, hb5, _⟩
    · rw [e5] at hg; simp [Value.ownBlock] at hg
    · rw [e5] at hg; simp [Value.ownBlock] at hg; omega
  have hobe : (Value.slice ao (n - p) cap).ownBlock = (Value.slice ao n cap).ownBlock := by cases ao <;> rfl
  rw [hobe] at t3 hb3
  have hbn : b ∉ (Value.slice ao n cap).ownBlock.toList := fun hx => hb b (by simpa using hx) rfl
  have h3 : WObj w3 b T tl (.slice ao n cap) vo vp D := (h.touch td (by simp)).touch t3 hbn
  have c1 := h.cells.c1
  have c31 := h3.cells.c1
  have f31 := h3.fr 1
  have HW : Hid _ := h3.set1 (.slice a3 (n - p + m) c3) (D.st.take (n - p) ++ pu)
  have HT : Hid (Touch w (w3.setCell ⟨b, 1, none⟩ (.slice a3 (n - p + m) c3)) (b :: (Value.slice ao n cap).ownBlock.toList)) := ((td.mono (by simp)).trans t3 (fun x hx => .inl (by simp at hx ⊢; exact .inr hx))).setCell (.inl (by simp)) _
  have hnb3 : (Value.slice a3 (n - p + m) c3).ownBlock ≠ some b := fun hx => by
    rcases hb3 b hx with q | q
    · exact hb b q rfl
    · have h5 := h.lt
      have h6 : w.drew.heap.size = w.heap.size := rfl
      omega
  have HO : Hid (valOwn (w3.setCell ⟨b, 1, none⟩ (.slice a3 (n - p + m) c3)) B (.slice a3 (n - p + m) c3) (D.st.take (n - p) ++ pu)) := ownsRow_touch ho3 ((Touch.refl w3 [b]).setCell (.inl (by simp)) _) (fun g hg hs => by simp at hs; subst hs; exact hnb3 hg)
  have HBK : Hid (∀ g, (Value.slice a3 (n - p + m) c3).ownBlock = some g → (Value.slice ao n cap).ownBlock = some g ∨ w.heap.size ≤ g) := hb3
  have hcap : n ≤ cap ∧ cap ≤ 9223372036854775807 := by
    rcases hv.2 with ⟨e5, h5⟩ | ⟨g5, cap5, cur5, e5, hb5, _, hn5, hm5, _⟩
    · simp only [Value.slice.injEq] at e5; omega
    · simp only [Value.slice.injEq] at e5; unfold maxLen at hm5; omega
  obtain ⟨q, hq⟩ : ∃ q, q = n - p := ⟨_, rfl⟩
  rw [← hq] at hrun HW HT HO HBK ⊢
  have hqi : IntKind.i64.wrap ((n : Int) - p) = (q : Int) := by rw [IntKind.wrap_i64]; omega
  have hqi2 : (n : Int) - p = (q : Int) := by omega
  have hwq : IntKind.i64.wrap (q : Int) = (q : Int) := by rw [IntKind.wrap_i64]; omega
  have hnil : ao = none → n = 0 ∧ cap = 0 := fun e => by
    rcases hv.2 with ⟨e5, h5⟩ | ⟨g5, cap5, cur5, e5, _⟩
    · simp only [Value.slice.injEq] at e5; exact ⟨e5.2.1, e5.2.2⟩
    · simp only [Value.slice.injEq] at e5; rw [e] at e5; cases e5.1
  have hqn : q ≤ n := by omega
  have hpn : p ≤ n := hp
  have hqc : (q : Int) ≤ cap := by omega
  have hq0 : (0 : Int) ≤ q := by omega
  have hqc2 : q ≤ cap := by omega
  clear h hv hpu hlen hlt hob hobe hbn hb h3 hnb3 hb3 ho3 t3 hcap hq hm hm2 hp hn hqi
  have c1d : w.drew.cell? ⟨b, 1, none⟩ = some (.slice ao n cap) := c1
  cases ao with
  | none =>
    obtain ⟨rfl, rfl⟩ := hnil rfl
    obtain rfl : p = 0 := by omega
    obtain rfl : q = 0 := by omega
    clear hnil hwq hqi2 hqc hq0 hqc2 hqn hpn
    have h0w : IntKind.i64.wrap (0 : Int) = 0 := by rw [IntKind.wrap_i64]; rfl
    simp only [Nat.zero_add] at hrun HW HO HT HBK
    go_enter Try.func46, Try.ntmps46
    go_wp2_with fail
    go_region_law (first | (refine step_append_run (by rfl) (.tmp 20) (.tmp 21) 23 23 (by rfl) (by rfl) (.slice none 0 0) (.slice a2 m c2) (.slice a3 m c3) w3 (by rfl) (by rfl) hrun ?_))
    all_goals
      go_wp2
      go_end0
      exact ⟨rfl, _, HW.out, HO.out, HT.out, HBK.out⟩
  | some ad =>
    obtain ⟨ag, aoff, af⟩ := ad
    go_enter Try.func46, Try.ntmps46
    go_wp2_with fail
    go_region_law (first | (refine step_append_run (by rfl) (.tmp 20) (.tmp 21) 23 23 (by rfl) (by rfl) (.slice (some ⟨ag, aoff, af⟩) q cap) (.slice a2 m c2) (.slice a3 (q + m) c3) w3 (by rfl) (by rfl) hrun ?_))
    all_goals
      go_wp2
      go_end0
      exact ⟨rfl, _, HW.out, HO.out, HT.out, HBK.out⟩

end Go.Proofs.Ytlndbligbpfdpaa
/-
  package spec: step BY ITS CONTRACT, where it gets stuck ahead of its switch.
-/
namespace Go.Proofs.Ytlndbligbpfdpaa
set_option linter.unusedVariables false
set_option linter.unusedSimpArgs false
open Go.RowKit
attribute [local go_sem] Oper.semAt_some

theorem StuckP.after {er : Int} {w w1 : World} (t : Touch w w1 []) {e : Ending} {w' : World} (h : StuckP er w1 e w') : StuckP er w e w' := ⟨h.1, t.trans h.2 (by simp)⟩

set_option maxRecDepth 100000 in
set_option maxHeartbeats 1000000 in
/-- Where here gives up. -/
theorem step_here {w : World} {b : Nat} (hh : Calls Try.prog 40 #[.pointer (some ⟨b, 0, none⟩)] w (StuckP 3 w)) : Calls Try.prog 24 #[.pointer (some ⟨b, 0, none⟩)] w (StuckP 3 w) := by
  have HH : HidC _ _ _ _ _ := ⟨hh⟩
  clear hh
  go_enter Try.func24, Try.ntmps24
  go_wp2_with fail
  refine HH.out.mono ?_
  rintro e w1 ⟨rfl, t1⟩
  exact ⟨rfl, rfl, t1⟩

set_option maxRecDepth 100000 in
set_option maxHeartbeats 1000000 in
theorem step_hangs {w : World} {b : Nat} {io ia iv : Int} (hh : Calls Try.prog 40 #[.pointer (some ⟨b, 0, none⟩)] w fun e w' => e = .returned (.agg #[.int .u8 io, .int .i64 ia, .int .u64 iv]) ∧ Touch w w' []) (hpl : plainO io = false) : Calls Try.prog 24 #[.pointer (some ⟨b, 0, none⟩)] w (StuckP 3 w) := by
  have HH : HidC _ _ _ _ _ := ⟨hh⟩
  have HG : Hid (∀ W, HidC Try.prog 42 #[.int .u8 io] W fun e w' => e = .returned (.bool false) ∧ W = w') := fun W => ⟨by have q := hangs_any io W; rw [hpl] at q; exact q⟩
  clear hh hpl
  go_enter Try.func24, Try.ntmps24
  go_wp2_with fail
  refine HH.out.mono ?_
  rintro e w1 ⟨rfl, t1⟩
  clear HH
  have HT : Hid (Touch w (w1.alloc (.cells #[.int .u8 io, .int .i64 ia, .int .u64 iv] 48)) []) := t1.alloc _
  obtain ⟨x0, x1, x2⟩ := (BoxI.new w1 io ia iv).cells
  go_wp2_with fail
  refine (HG.out _).out.mono ?_
  rintro e _ ⟨rfl, rfl⟩
  go_wp2_with fail
  refine (sneed_no 3 _).mono ?_
  rintro e w2 ⟨rfl, t2⟩
  exact ⟨rfl, rfl, HT.out.trans t2 (by simp)⟩

set_option maxRecDepth 100000 in
set_option maxHeartbeats 1000000 in
theorem step_stack {w : World} {b : Nat} {T : TypeId} {tl : List Value} {vo vp : Value} {ao : Option Addr} {n cap : Nat} {D : WD} (h : WObj w b T tl (.slice ao n cap) vo vp D) (hn : n ≤ 1000) {io ia iv : Int} (hh : Calls Try.prog 40 #[.pointer (some ⟨b, 0, none⟩)] w fun e w' => e = .returned (.agg #[.int .u8 io, .int .i64 ia, .int .u64 iv]) ∧ Touch w w' []) (hpl : plainO io = true) (hf : fitsW io n = false) : Calls Try.prog 24 #[.pointer (some ⟨b, 0, none⟩)] w (StuckP 12 w) := by
  have HH : HidC _ _ _ _ _ := ⟨hh⟩
  have HG : Hid (∀ W, HidC Try.prog 42 #[.int .u8 io] W fun e w' => e = .returned (.bool true) ∧ W = w') := fun W => ⟨by have q := hangs_any io W; rw [hpl] at q; exact q⟩
  have HP : Hid (∀ W, Touch w W [] → HidC Try.prog 43 #[.pointer (some ⟨b, 0, none⟩), .int .u8 io] W (StuckP 12 W)) := fun W t => ⟨popped_no (h.touch t (by simp)) hn io hf⟩
  clear hh hpl h hf
  go_enter Try.func24, Try.ntmps24
  go_wp2_with fail
  refine HH.out.mono ?_
  rintro e w1 ⟨rfl, t1⟩
  clear HH
  have HT : Hid (Touch w (w1.alloc (.cells #[.int .u8 io, .int .i64 ia, .int .u64 iv] 48)) []) := t1.alloc _
  obtain ⟨x0, x1, x2⟩ := (BoxI.new w1 io ia iv).cells
  go_wp2_with fail
  refine (HG.out _).out.mono ?_
  rintro e _ ⟨rfl, rfl⟩
  go_wp2_with fail
  refine (sneed_ok 3 _).mono ?_
  rintro e _ ⟨rfl, rfl⟩
  go_wp2_with fail
  refine (HP.out _ HT.out).out.mono ?_
  rintro e w2 ⟨rfl, t2⟩
  exact ⟨rfl, rfl, HT.out.trans t2 (by simp)⟩

end Go.Proofs.Ytlndbligbpfdpaa
/-
  package spec: pushed BY ITS CONTRACT.
-/
namespace Go.Proofs.Ytlndbligbpfdpaa
set_option linter.unusedVariables false
set_option linter.unusedSimpArgs false
open Go.RowKit
attribute [local go_sem] Oper.semAt_some

/-- A local. -/
def WD.loc (D : WD) (k : Int) : Int := if k = 0 then D.l0 else if k = 1 then D.l1 else if k = 2 then D.l2 else D.l3
/-- The values that an instruction pushes for those that it pops. -/
def pushW (D : WD) (i : InsD) (pp : List Int) : List Int :=
  if i.op = 1 then [i.val] else if i.op = 2 then [D.loc i.arg] else if i.op = 16 then [pp.getD 0 0, pp.getD 0 0] else if i.op = 18 then [pp.getD 1 0, pp.getD 0 0] else if i.op = 12 then [(negV (ofB (pp.getD 0 0).toNat) : Int)] else if i.op = 15 then [oneV (!truthB (classB (ofB (pp.getD 0 0).toNat)))] else if i.op = 8 ∨ i.op = 9 ∨ i.op = 10 ∨ i.op = 11 ∨ i.op = 13 ∨ i.op = 14 then [reckV i.op (pp.getD 0 0) (pp.getD 1 0)] else []
/-- New values. -/
def PushP (w : World) (l : List Int) (e : Ending) (w' : World) : Prop := ∃ v, e = .returned v ∧ valOwn w' w.heap.size v l ∧ Touch w w' []

theorem own_one (w : World) (B : Nat) (hB : B ≤ w.heap.size) (x : Int) : valOwn (w.alloc (.cells #[.int .u64 x] 25)) B (.slice (some ⟨w.heap.size, 0, none⟩) 1 1) [x] :=
  ⟨by simp, .inr ⟨w.heap.size, 1, #[.int .u64 x], rfl, hB, heap_alloc_new w _, by simp, by decide, rfl, rfl⟩⟩
theorem own_two (w : World) (B : Nat) (hB : B ≤ w.heap.size) (x y : Int) : valOwn (w.alloc (.cells #[.int .u64 x, .int .u64 y] 25)) B (.slice (some ⟨w.heap.size, 0, none⟩) 2 2) [x, y] :=
  ⟨by simp, .inr ⟨w.heap.size, 2, #[.int .u64 x, .int .u64 y], rfl, hB, heap_alloc_new w _, by simp, by decide, rfl, rfl⟩⟩

set_option maxRecDepth 100000 in
set_option maxHeartbeats 1000000 in
theorem pushed_push {w : World} {b : Nat} (a v : Int) (vpp : Value) : Calls Try.prog 47 #[.pointer (some ⟨b, 0, none⟩), .agg #[.int .u8 1, .int .i64 a, .int .u64 v], vpp] w (PushP w [v]) := by
  have HB : Hid _ := (BoxI.new w 1 a v)
  have bx := HB.out.cells
  obtain ⟨b0, b1, b2⟩ := bx
  have HT : Hid (Touch w (w.alloc (.cells #[.int .u8 1, .int .i64 a, .int .u64 v] 48)) []) := (Touch.refl w []).alloc _
  have ho := own_one (w.alloc (.cells #[.int .u8 1, .int .i64 a, .int .u64 v] 48)) w.heap.size (by simp) v
  rw [World.size_alloc] at ho
  have HO : Hid _ := ho
  clear ho
  have HT2 : Hid _ := HT.out.alloc (.cells #[.int .u64 v] 25)
  go_enter Try.func47, Try.ntmps47
  go_wp2
  go_ret
  exact ⟨_, rfl, HO.out, HT2.out⟩

set_option maxRecDepth 100000 in
set_option maxHeartbeats 1000000 in
theorem pushed_none {w : World} {b : Nat} (o a v : Int) (vpp : Value) (h : o ≠ 1 ∧ o ≠ 2 ∧ o ≠ 16 ∧ o ≠ 18 ∧ o ≠ 12 ∧ o ≠ 15 ∧ o ≠ 8 ∧ o ≠ 9 ∧ o ≠ 10 ∧ o ≠ 11 ∧ o ≠ 13 ∧ o ≠ 14) : Calls Try.prog 47 #[.pointer (some ⟨b, 0, none⟩), .agg #[.int .u8 o, .int .i64 a, .int .u64 v], vpp] w (PushP w []) := by
  obtain ⟨h1, h2, h16, h18, h12, h15, h8, h9, h10, h11, h13, h14⟩ := h
  have HB : Hid _ := (BoxI.new w o a v)
  have bx := HB.out.cells
  obtain ⟨b0, b1, b2⟩ := bx
  have HT : Hid (Touch w (w.alloc (.cells #[.int .u8 o, .int .i64 a, .int .u64 v] 48)) []) := (Touch.refl w []).alloc _
  go_enter Try.func47, Try.ntmps47
  go_wp2
  go_ret
  exact ⟨_, rfl, World.ownsRow_nil _ _ _ _, HT.out⟩

set_option maxRecDepth 100000 in
set_option maxHeartbeats 1000000 in
theorem pushed_dup {w : World} {b : Nat} (a v : Int) {g off c : Nat} (x : Int) (hx : w.cell? ⟨g, off, none⟩ = some (.int .u64 x)) : Calls Try.prog 47 #[.pointer (some ⟨b, 0, none⟩), .agg #[.int .u8 16, .int .i64 a, .int .u64 v], .slice (some ⟨g, off, none⟩) 1 c] w (PushP w [x, x]) := by
  have HB : Hid _ := (BoxI.new w 16 a v)
  have bx := HB.out.cells
  obtain ⟨b0, b1, b2⟩ := bx
  have hg := World.block_lt_of_cell? w _ hx
  have HT : Hid (Touch w (w.alloc (.cells #[.int .u8 16, .int .i64 a, .int .u64 v] 48)) []) := (Touch.refl w []).alloc _
  have hx1 := (HT.out.cell (p := ⟨g, off, none⟩) hg (by simp)).trans hx
  have HO : Hid _ := fun W (hW : Touch w W []) => own_two W w.heap.size hW.size x x
  generalize hQ : w.alloc (.cells #[.int .u8 16, .int .i64 a, .int .u64 v] 48) = Q at *
  have HQ : Hid _ := hQ
  clear hQ
  go_enter Try.func47, Try.ntmps47
  go_wp2_with fail
  rw [HQ.out]
  have HC : Hid (∀ W, Touch w W [] → W.cell? ⟨g, off, none⟩ = some (.int .u64 x)) := fun W t => (t.cell (p := ⟨g, off, none⟩) hg (by simp)).trans hx
  have hd : Touch w Q.drew [] := HT.out.drew
  have HOD : Hid _ := HO.out _ hd
  have HTD : Hid _ := hd.alloc (.cells #[.int .u64 x, .int .u64 x] 25)
  clear hx hx1
  go_region_held3 (fun w' => w'.cell? ⟨g, off, none⟩ = some (.int .u64 x)) ((first | exact HC.out _ hd | exact HC.out _ (hd.alloc _))) (fail)
  go_wp2
  go_ret
  exact ⟨_, rfl, HOD.out, HTD.out⟩

set_option maxRecDepth 100000 in
set_option maxHeartbeats 1000000 in
theorem pushed_swap {w : World} {b : Nat} (a v : Int) {g off c : Nat} (x y : Int) (hx : w.cell? ⟨g, off, none⟩ = some (.int .u64 x)) (hy : w.cell? ⟨g, off + 1, none⟩ = some (.int .u64 y)) : Calls Try.prog 47 #[.pointer (some ⟨b, 0, none⟩), .agg #[.int .u8 18, .int .i64 a, .int .u64 v], .slice (some ⟨g, off, none⟩) 2 c] w (PushP w [y, x]) := by
  have HB : Hid _ := (BoxI.new w 18 a v)
  have bx := HB.out.cells
  obtain ⟨b0, b1, b2⟩ := bx
  have hg := World.block_lt_of_cell? w _ hx
  have HT : Hid (Touch w (w.alloc (.cells #[.int .u8 18, .int .i64 a, .int .u64 v] 48)) []) := (Touch.refl w []).alloc _
  have hx1 := (HT.out.cell (p := ⟨g, off, none⟩) hg (by simp)).trans hx
  have HO : Hid _ := fun W (hW : Touch w W []) => own_two W w.heap.size hW.size y x
  generalize hQ : w.alloc (.cells #[.int .u8 18, .int .i64 a, .int .u64 v] 48) = Q at *
  have HQ : Hid _ := hQ
  clear hQ
  go_enter Try.func47, Try.ntmps47
  go_wp2_with fail
  rw [HQ.out]
  have HC : Hid (∀ W, Touch w W [] → W.cell? ⟨g, off, none⟩ = some (.int .u64 x) ∧ W.cell? ⟨g, off + 1, none⟩ = some (.int .u64 y)) := fun W t => ⟨(t.cell (p := ⟨g, off, none⟩) hg (by simp)).trans hx, (t.cell (p := ⟨g, off + 1, none⟩) hg (by simp)).trans hy⟩
  have hd : Touch w Q.drew [] := HT.out.drew
  have HOD : Hid _ := HO.out _ hd
  have HTD : Hid _ := hd.alloc (.cells #[.int .u64 y, .int .u64 x] 25)
  clear hx hx1 hy
  go_region_held3 (fun w' => w'.cell? ⟨g, off, none⟩ = some (.int .u64 x) ∧ w'.cell? ⟨g, off + 1, none⟩ = some (.int .u64 y)) ((first | exact HC.out _ hd | exact HC.out _ (hd.alloc _))) (fail)
  go_wp2
  go_ret
  exact ⟨_, rfl, HOD.out, HTD.out⟩

set_option maxRecDepth 100000 in
set_option maxHeartbeats 1000000 in
theorem pushed_neg {w : World} {b : Nat} (a v : Int) {g off c : Nat} (x : Int) (hxw : Wf64 x) (hx : w.cell? ⟨g, off, none⟩ = some (.int .u64 x)) : Calls Try.prog 47 #[.pointer (some ⟨b, 0, none⟩), .agg #[.int .u8 12, .int .i64 a, .int .u64 v], .slice (some ⟨g, off, none⟩) 1 c] w (PushP w [(negV (ofB x.toNat) : Int)]) := by
  have HB : Hid _ := (BoxI.new w 12 a v)
  have bx := HB.out.cells
  obtain ⟨b0, b1, b2⟩ := bx
  have hg := World.block_lt_of_cell? w _ hx
  have HT : Hid (Touch w (w.alloc (.cells #[.int .u8 12, .int .i64 a, .int .u64 v] 48)) []) := (Touch.refl w []).alloc _
  have hx1 := (HT.out.cell (p := ⟨g, off, none⟩) hg (by simp)).trans hx
  have hng : HidC _ _ _ _ _ := ⟨neg_any x hxw (w.alloc (.cells #[.int .u8 12, .int .i64 a, .int .u64 v] 48))⟩
  have ho := own_one (w.alloc (.cells #[.int .u8 12, .int .i64 a, .int .u64 v] 48)) w.heap.size (by simp) (negV (ofB x.toNat) : Int)
  rw [World.size_alloc] at ho
  have HO : Hid _ := ho
  have HT2 : Hid _ := HT.out.alloc (.cells #[.int .u64 (negV (ofB x.toNat) : Int)] 25)
  generalize (negV (ofB x.toNat)) = y at *
  clear ho hx
  go_enter Try.func47, Try.ntmps47
  go_wp2_with fail
  refine hng.out.mono ?_
  rintro e _ ⟨rfl, rfl⟩
  clear hng
  go_wp2
  go_ret
  exact ⟨_, rfl, HO.out, HT2.out⟩

set_option maxRecDepth 100000 in
set_option maxHeartbeats 1000000 in
theorem pushed_not {w : World} {b : Nat} (a v : Int) {g off c : Nat} (x : Int) (hx : w.cell? ⟨g, off, none⟩ = some (.int .u64 x)) : Calls Try.prog 47 #[.pointer (some ⟨b, 0, none⟩), .agg #[.int .u8 15, .int .i64 a, .int .u64 v], .slice (some ⟨g, off, none⟩) 1 c] w (PushP w [oneV (!truthB (classB (ofB x.toNat)))]) := by
  have HB : Hid _ := (BoxI.new w 15 a v)
  have bx := HB.out.cells
  obtain ⟨b0, b1, b2⟩ := bx
  have hg := World.block_lt_of_cell? w _ hx
  have HT : Hid (Touch w (w.alloc (.cells #[.int .u8 15, .int .i64 a, .int .u64 v] 48)) []) := (Touch.refl w []).alloc _
  have hx1 := (HT.out.cell (p := ⟨g, off, none⟩) hg (by simp)).trans hx
  have htr : HidC _ _ _ _ _ := ⟨truth_any x (w.alloc (.cells #[.int .u8 15, .int .i64 a, .int .u64 v] 48))⟩
  generalize truthB (classB (ofB x.toNat)) = y at *
  have hon : HidC _ _ _ _ _ := ⟨struth_any (!y) (w.alloc (.cells #[.int .u8 15, .int .i64 a, .int .u64 v] 48))⟩
  have ho := own_one (w.alloc (.cells #[.int .u8 15, .int .i64 a, .int .u64 v] 48)) w.heap.size (by simp) (oneV (!y))
  rw [World.size_alloc] at ho
  have HO : Hid _ := ho
  have HT2 : Hid _ := HT.out.alloc (.cells #[.int .u64 (oneV (!y))] 25)
  generalize hz : oneV (!y) = z at *
  clear ho hx hz
  go_enter Try.func47, Try.ntmps47
  go_wp2_with fail
  refine htr.out.mono ?_
  rintro e _ ⟨rfl, rfl⟩
  clear htr
  go_wp2_with fail
  refine hon.out.mono ?_
  rintro e _ ⟨rfl, rfl⟩
  clear hon
  go_wp2
  go_ret
  exact ⟨_, rfl, HO.out, HT2.out⟩

set_option maxRecDepth 100000 in
set_option maxHeartbeats 1000000 in
theorem pushed_local {w : World} {b : Nat} (k : Nat) (hk : k < 4) (v x : Int) (vpp : Value) (hx : w.cell? ⟨b, 2 + k, none⟩ = some (.int .u64 x)) : Calls Try.prog 47 #[.pointer (some ⟨b, 0, none⟩), .agg #[.int .u8 2, .int .i64 (k : Int), .int .u64 v], vpp] w (PushP w [x]) := by
  have HB : Hid (∀ W, Touch (w.alloc (.cells #[.int .u8 2, .int .i64 (k : Int), .int .u64 v] 48)) W [] → BoxI W w.heap.size 2 k v) := fun W t => (BoxI.new w 2 k v).touch t (by simp)
  have hb := World.block_lt_of_cell? w _ hx
  have HT : Hid (Touch w (w.alloc (.cells #[.int .u8 2, .int .i64 (k : Int), .int .u64 v] 48)) []) := (Touch.refl w []).alloc _
  have HO : Hid _ := fun W (hW : Touch w W []) => own_one W w.heap.size hW.size x
  have bx := (HB.out _ (Touch.refl _ _)).cells
  obtain ⟨b0, b1, b2⟩ := bx
  generalize hQ : w.alloc (.cells #[.int .u8 2, .int .i64 (k : Int), .int .u64 v] 48) = Q at *
  have HQ : Hid _ := hQ
  clear hQ
  have hk4 : (k : Int) < 4 := by omega
  have hk0 : (0 : Int) ≤ k := by omega
  go_enter Try.func47, Try.ntmps47
  go_wp2_with fail
  rw [HQ.out]
  have HC : Hid (∀ W, Touch Q W [] → W.cell? ⟨b, 2 + k, none⟩ = some (.int .u64 x) ∧ W.cell? ⟨w.heap.size, 1, none⟩ = some (.int .i64 (k : Int))) := fun W t => ⟨((HT.out.trans t (by simp)).cell (p := ⟨b, 2 + k, none⟩) hb (by simp)).trans hx, (HB.out W t).cells.2.1⟩
  have hd : Touch Q Q.drew [] := (Touch.refl Q []).drew
  have hdw : Touch w Q.drew [] := HT.out.drew
  have HOD : Hid _ := HO.out _ hdw
  have HTD : Hid _ := hdw.alloc (.cells #[.int .u64 x] 25)
  clear hx b0 b1 b2
  go_region_held3 (fun w' => w'.cell? ⟨b, 2 + k, none⟩ = some (.int .u64 x) ∧ w'.cell? ⟨w.heap.size, 1, none⟩ = some (.int .i64 (k : Int))) ((first | exact HC.out _ hd | exact HC.out _ (hd.alloc _))) (fail)
  go_wp2
  go_ret
  exact ⟨_, rfl, HOD.out, HTD.out⟩

set_option maxRecDepth 100000 in
set_option maxHeartbeats 2000000 in
theorem pushed_reck {w : World} {b : Nat} (o a v : Int) (ho : o = 8 ∨ o = 9 ∨ o = 10 ∨ o = 11 ∨ o = 13 ∨ o = 14) {g off c : Nat} (x y : Int) (hx : w.cell? ⟨g, off, none⟩ = some (.int .u64 x)) (hy : w.cell? ⟨g, off + 1, none⟩ = some (.int .u64 y)) : Calls Try.prog 47 #[.pointer (some ⟨b, 0, none⟩), .agg #[.int .u8 o, .int .i64 a, .int .u64 v], .slice (some ⟨g, off, none⟩) 2 c] w (PushP w [reckV o x y]) := by
  have HB : Hid (∀ W, Touch (w.alloc (.cells #[.int .u8 o, .int .i64 a, .int .u64 v] 48)) W [] → BoxI W w.heap.size o a v) := fun W t => (BoxI.new w o a v).touch t (by simp)
  have hg := World.block_lt_of_cell? w _ hx
  have HT : Hid (Touch w (w.alloc (.cells #[.int .u8 o, .int .i64 a, .int .u64 v] 48)) []) := (Touch.refl w []).alloc _
  have HO : Hid _ := fun W (hW : Touch w W []) => own_one W w.heap.size hW.size (reckV o x y)
  have HRE : Hid (∀ W, HidC Try.prog 71 #[.int .u8 o, .int .u64 x, .int .u64 y] W fun e w' => e = .returned (.int .u64 (reckV o x y)) ∧ Touch W w' []) := fun W => ⟨reckoned_any o x y W⟩
  have HC : Hid (∀ W, Touch (w.alloc (.cells #[.int .u8 o, .int .i64 a, .int .u64 v] 48)) W [] → (W.cell? ⟨g, off, none⟩ = some (.int .u64 x) ∧ W.cell? ⟨g, off + 1, none⟩ = some (.int .u64 y)) ∧ W.cell? ⟨w.heap.size, 0, none⟩ = some (.int .u8 o)) := fun W t => ⟨⟨((HT.out.trans t (by simp)).cell (p := ⟨g, off, none⟩) hg (by simp)).trans hx, ((HT.out.trans t (by simp)).cell (p := ⟨g, off + 1, none⟩) hg (by simp)).trans hy⟩, (HB.out W t).cells.1⟩
  have bx := (HB.out _ (Touch.refl _ _)).cells
  obtain ⟨b0, b1, b2⟩ := bx
  generalize hQ : w.alloc (.cells #[.int .u8 o, .int .i64 a, .int .u64 v] 48) = Q at *
  have HQ : Hid _ := hQ
  generalize reckV o x y = z at *
  clear hQ hx hy
  have hd : Touch Q Q.drew [] := (Touch.refl Q []).drew
  rcases ho with rfl | rfl | rfl | rfl | rfl | rfl
  · go_enter Try.func47, Try.ntmps47
    go_wp2_with fail
    rw [HQ.out]
    clear b0 b1 b2
    go_region_held3 (fun w' => (w'.cell? ⟨g, off, none⟩ = some (.int .u64 x) ∧ w'.cell? ⟨g, off + 1, none⟩ = some (.int .u64 y)) ∧ w'.cell? ⟨w.heap.size, 0, none⟩ = some (.int .u8 8)) ((first | exact HC.out _ hd | exact HC.out _ t3 | exact HC.out _ (t3.alloc _))) ((first | (go_at_call 71; refine (HRE.out _).out.mono ?_; rintro e w3 ⟨rfl, t3'⟩; have t3 : Touch Q w3 [] := hd.trans t3' (by simp))))
    have HOD : Hid _ := HO.out _ (HT.out.trans t3 (by simp))
    have HTD : Hid _ := (HT.out.trans t3 (by simp)).alloc (.cells #[.int .u64 z] 25)
    go_wp2
    go_ret
    exact ⟨_, rfl, HOD.out, HTD.out⟩
  · go_enter Try.func47, Try.ntmps47
    go_wp2_with fail
    rw [HQ.out]
    clear b0 b1 b2
    go_region_held3 (fun w' => (w'.cell? ⟨g, off, none⟩ = some (.int .u64 x) ∧ w'.cell? ⟨g, off + 1, none⟩ = some (.int .u64 y)) ∧ w'.cell? ⟨w.heap.size, 0, none⟩ = some (.int .u8 9)) ((first | exact HC.out _ hd | exact HC.out _ t3 | exact HC.out _ (t3.alloc _))) ((first | (go_at_call 71; refine (HRE.out _).out.mono ?_; rintro e w3 ⟨rfl, t3'⟩; have t3 : Touch Q w3 [] := hd.trans t3' (by simp))))
    have HOD : Hid _ := HO.out _ (HT.out.trans t3 (by simp))
    have HTD : Hid _ := (HT.out.trans t3 (by simp)).alloc (.cells #[.int .u64 z] 25)
    go_wp2
    go_ret
    exact ⟨_, rfl, HOD.out, HTD.out⟩
  · go_enter Try.func47, Try.ntmps47
    go_wp2_with fail
    rw [HQ.out]
    clear b0 b1 b2
    go_region_held3 (fun w' => (w'.cell? ⟨g, off, none⟩ = some (.int .u64 x) ∧ w'.cell? ⟨g, off + 1, none⟩ = some (.int .u64 y)) ∧ w'.cell? ⟨w.heap.size, 0, none⟩ = some (.int .u8 10)) ((first | exact HC.out _ hd | exact HC.out _ t3 | exact HC.out _ (t3.alloc _))) ((first | (go_at_call 71; refine (HRE.out _).out.mono ?_; rintro e w3 ⟨rfl, t3'⟩; have t3 : Touch Q w3 [] := hd.trans t3' (by simp))))
    have HOD : Hid _ := HO.out _ (HT.out.trans t3 (by simp))
    have HTD : Hid _ := (HT.out.trans t3 (by simp)).alloc (.cells #[.int .u64 z] 25)
    go_wp2
    go_ret
    exact ⟨_, rfl, HOD.out, HTD.out⟩
  · go_enter Try.func47, Try.ntmps47
    go_wp2_with fail
    rw [HQ.out]
    clear b0 b1 b2
    go_region_held3 (fun w' => (w'.cell? ⟨g, off, none⟩ = some (.int .u64 x) ∧ w'.cell? ⟨g, off + 1, none⟩ = some (.int .u64 y)) ∧ w'.cell? ⟨w.heap.size, 0, none⟩ = some (.int .u8 11)) ((first | exact HC.out _ hd | exact HC.out _ t3 | exact HC.out _ (t3.alloc _))) ((first | (go_at_call 71; refine (HRE.out _).out.mono ?_; rintro e w3 ⟨rfl, t3'⟩; have t3 : Touch Q w3 [] := hd.trans t3' (by simp))))
    have HOD : Hid _ := HO.out _ (HT.out.trans t3 (by simp))
    have HTD : Hid _ := (HT.out.trans t3 (by simp)).alloc (.cells #[.int .u64 z] 25)
    go_wp2
    go_ret
    exact ⟨_, rfl, HOD.out, HTD.out⟩
  · go_enter Try.func47, Try.ntmps47
    go_wp2_with fail
    rw [HQ.out]
    clear b0 b1 b2
    go_region_held3 (fun w' => (w'.cell? ⟨g, off, none⟩ = some (.int .u64 x) ∧ w'.cell? ⟨g, off + 1, none⟩ = some (.int .u64 y)) ∧ w'.cell? ⟨w.heap.size, 0, none⟩ = some (.int .u8 13)) ((first | exact HC.out _ hd | exact HC.out _ t3 | exact HC.out _ (t3.alloc _))) ((first | (go_at_call 71; refine (HRE.out _).out.mono ?_; rintro e w3 ⟨rfl, t3'⟩; have t3 : Touch Q w3 [] := hd.trans t3' (by simp))))
    have HOD : Hid _ := HO.out _ (HT.out.trans t3 (by simp))
    have HTD : Hid _ := (HT.out.trans t3 (by simp)).alloc (.cells #[.int .u64 z] 25)
    go_wp2
    go_ret
    exact ⟨_, rfl, HOD.out, HTD.out⟩
  · go_enter Try.func47, Try.ntmps47
    go_wp2_with fail
    rw [HQ.out]
    clear b0 b1 b2
    go_region_held3 (fun w' => (w'.cell? ⟨g, off, none⟩ = some (.int .u64 x) ∧ w'.cell? ⟨g, off + 1, none⟩ = some (.int .u64 y)) ∧ w'.cell? ⟨w.heap.size, 0, none⟩ = some (.int .u8 14)) ((first | exact HC.out _ hd | exact HC.out _ t3 | exact HC.out _ (t3.alloc _))) ((first | (go_at_call 71; refine (HRE.out _).out.mono ?_; rintro e w3 ⟨rfl, t3'⟩; have t3 : Touch Q w3 [] := hd.trans t3' (by simp))))
    have HOD : Hid _ := HO.out _ (HT.out.trans t3 (by simp))
    have HTD : Hid _ := (HT.out.trans t3 (by simp)).alloc (.cells #[.int .u64 z] 25)
    go_wp2
    go_ret
    exact ⟨_, rfl, HOD.out, HTD.out⟩

end Go.Proofs.Ytlndbligbpfdpaa
/-
  package spec: pushed BY ITS CONTRACT, any way.
-/
namespace Go.Proofs.Ytlndbligbpfdpaa
set_option linter.unusedVariables false
set_option linter.unusedSimpArgs false
open Go.RowKit

theorem vrow_at {w : World} {a : Option Addr} {n c : Nat} {l : List Int} (h : VRow w (.slice a n c) l) (hl : l.length = n) (hn : 0 < n) : ∃ g off, a = some ⟨g, off, none⟩ ∧ ∀ k, k < n → w.cell? ⟨g, off + k, none⟩ = some (.int .u64 (l.getD k 0)) := by
  subst hl
  obtain ⟨g, off, e, _, _⟩ := h.at 0 hn
  refine ⟨g, off, e, fun k hk => ?_⟩
  obtain ⟨g2, off2, e2, _, hc⟩ := h.at k hk
  rw [e] at e2
  simp only [Option.some.injEq, Addr.mk.injEq] at e2
  obtain ⟨rfl, rfl, _⟩ := e2
  have := hc 0 (by simp)
  simp only [Nat.mul_one, Nat.add_zero, List.getElem_cons_zero] at this
  rw [List.getD_eq_getElem?_getD, List.getElem?_eq_getElem hk]
  simpa using this

theorem pushed_any {w : World} {b : Nat} {T : TypeId} {tl : List Value} {vs vo vp : Value} {D : WD} (h : WObj w b T tl vs vo vp D) (i : InsD) (hi : i.op = 2 → 0 ≤ i.arg ∧ i.arg < 4) {a : Option Addr} {n c : Nat} {pp : List Int} (hn : n = (popV i.op).toNat) (hl : pp.length = n) (hw : ∀ x ∈ pp, Wf64 x) (hp : VRow w (.slice a n c) pp) :
    Calls Try.prog 47 #[.pointer (some ⟨b, 0, none⟩), i.v, .slice a n c] w (PushP w (pushW D i pp)) := by
  obtain ⟨o, ar, v⟩ := i
  simp only at hi hn
  unfold pushW
  simp only
  by_cases h1 : o = 1
  · subst h1; simp only [if_true]; exact pushed_push ar v _
  rw [if_neg h1]
  by_cases h2 : o = 2
  · subst h2
    obtain ⟨k0, k4⟩ := hi rfl
    obtain ⟨k, rfl⟩ := Int.eq_ofNat_of_zero_le k0
    rw [if_pos rfl]
    have hc := h.cells
    refine pushed_local k (by omega) v _ _ ?_
    have hk : k = 0 ∨ k = 1 ∨ k = 2 ∨ k = 3 := by omega
    unfold WD.loc
    rcases hk with rfl | rfl | rfl | rfl
    · exact hc.c2
    · exact hc.c3
    · exact hc.c4
    · exact hc.c5
  rw [if_neg h2]
  by_cases h16 : o = 16
  · subst h16
    have hn1 : n = 1 := hn
    subst hn1
    obtain ⟨g, off, rfl, hc⟩ := vrow_at hp hl (by omega)
    rw [if_pos rfl]
    exact pushed_dup ar v _ (hc 0 (by omega))
  rw [if_neg h16]
  by_cases h18 : o = 18
  · subst h18
    have hn1 : n = 2 := hn
    subst hn1
    obtain ⟨g, off, rfl, hc⟩ := vrow_at hp hl (by omega)
    rw [if_pos rfl]
    exact pushed_swap ar v _ _ (hc 0 (by omega)) (hc 1 (by omega))
  rw [if_neg h18]
  by_cases h12 : o = 12
  · subst h12
    have hn1 : n = 1 := hn
    subst hn1
    obtain ⟨g, off, rfl, hc⟩ := vrow_at hp hl (by omega)
    rw [if_pos rfl]
    refine pushed_neg ar v _ ?_ (hc 0 (by omega))
    rw [List.getD_eq_getElem?_getD, List.getElem?_eq_getElem (by omega)]
    exact hw _ (List.getElem_mem _)
  rw [if_neg h12]
  by_cases h15 : o = 15
  · subst h15
    have hn1 : n = 1 := hn
    subst hn1
    obtain ⟨g, off, rfl, hc⟩ := vrow_at hp hl (by omega)
    rw [if_pos rfl]
    exact pushed_not ar v _ (hc 0 (by omega))
  rw [if_neg h15]
  by_cases hr : o = 8 ∨ o = 9 ∨ o = 10 ∨ o = 11 ∨ o = 13 ∨ o = 14
  · have hn1 : n = 2 := by rw [hn]; unfold popV; rcases hr with rfl | rfl | rfl | rfl | rfl | rfl <;> rfl
    subst hn1
    obtain ⟨g, off, rfl, hc⟩ := vrow_at hp hl (by omega)
    rw [if_pos hr]
    exact pushed_reck o ar v hr _ _ (hc 0 (by omega)) (hc 1 (by omega))
  rw [if_neg hr]
  simp only [not_or] at hr
  exact pushed_none o ar v _ ⟨h1, h2, h16, h18, h12, h15, hr.1, hr.2.1, hr.2.2.1, hr.2.2.2.1, hr.2.2.2.2.1, hr.2.2.2.2.2⟩
end Go.Proofs.Ytlndbligbpfdpaa
