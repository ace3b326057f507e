/-
  ManagerNone, WALKED.
-/
import Derived.Test.YtgnfonimnlejbaaMgrLive
namespace Go.Proofs.Ytgnfonimnlejbaa
set_option linter.unusedVariables false
set_option linter.unusedSimpArgs false
open Go.RowKit

set_option maxRecDepth 100000 in
set_option maxHeartbeats 1600000 in
theorem mnone_any (d0 d1 d2 : Int) (d3 : Bool) (k : Int) (h0 : 0 ≤ k) (h1 : k ≤ 255) (w : World) : Calls Try.prog 6 #[.agg #[.int .i64 d0, .int .i64 d1, .int .i64 d2, .bool d3], .int .u8 k] w (TrueIn w) := by
  have hst : (w.alloc (.cells #[.int .i64 d0, .int .i64 d1, .int .i64 d2, .bool d3] 46)).heap[w.heap.size]? = some (.cells #[.int .i64 d0, .int .i64 d1, .int .i64 d2, .bool d3] 46 (0, 0)) := heap_alloc_new w _
  have T0 := (Touch.refl w []).alloc (.cells #[.int .i64 d0, .int .i64 d1, .int .i64 d2, .bool d3] 46)
  have hc : ∀ W : World, W.heap[w.heap.size]? = some (.cells #[.int .i64 d0, .int .i64 d1, .int .i64 d2, .bool d3] 46 (0, 0)) → W.cell? ⟨w.heap.size, 1, none⟩ = some (.int .i64 d1) ∧ W.cell? ⟨w.heap.size, 2, none⟩ = some (.int .i64 d2) ∧ W.cell? ⟨w.heap.size, 3, none⟩ = some (.bool d3) := fun W hW => by simp [World.cell?, hW]
  have HC : Hid (∀ W : World, W.heap[w.heap.size]? = some (.cells #[.int .i64 d0, .int .i64 d1, .int .i64 d2, .bool d3] 46 (0, 0)) → W.cell? ⟨w.heap.size, 1, none⟩ = some (.int .i64 d1) ∧ W.cell? ⟨w.heap.size, 2, none⟩ = some (.int .i64 d2) ∧ W.cell? ⟨w.heap.size, 3, none⟩ = some (.bool d3)) := hc
  clear hc
  go_enter Try.func6, Try.ntmps6
  go_wp2_with fail
  refine (mchoose_nil d1 d2 _).mono ?_
  rintro e w1 ⟨rfl, rfl⟩
  go_wp2_with fail
  refine (moldest_nil _).mono ?_
  rintro e w1 ⟨rfl, rfl⟩
  go_wp2_with fail
  refine (mlive_any _).mono ?_
  rintro e w1 ⟨rfl, t1⟩
  have T1 : Touch w w1 [] := T0.trans t1 (by simp)
  have S1 := (t1.block _ (lt_of_heap hst) (by simp)).trans hst
  obtain ⟨c1, c2, c3⟩ := HC.out w1 S1
  clear t1 T0 hst
  go_wp2_with fail
  refine (mbegan_nil d1 d3 _).mono ?_
  rintro e w2 ⟨rfl, rfl⟩
  go_wp2_with fail
  refine (mopened_nil d1 _).mono ?_
  rintro e w2 ⟨rfl, rfl⟩
  go_wp2_with fail
  refine (mpassed_nil d1 _).mono ?_
  rintro e w2 ⟨rfl, rfl⟩
  go_wp2_with fail
  refine (mended_nil d1 _).mono ?_
  rintro e w2 ⟨rfl, rfl⟩
  go_wp2_with fail
  refine (mtries_nil d1 _).mono ?_
  rintro e w3 ⟨rfl, t2⟩
  have T3 : Touch w w3 [] := T1.trans t2 (by simp)
  have S3 := (t2.block _ (lt_of_heap S1) (by simp)).trans S1
  clear T1 S1 c1 c2 c3 t2
  obtain ⟨c1, c2, c3⟩ := HC.out w3 S3
  go_wp2_with fail
  refine (mmerit_nil d1 _).mono ?_
  rintro e w4 ⟨rfl, t2⟩
  have T4 : Touch w w4 [] := T3.trans t2 (by simp)
  have S4 := (t2.block _ (lt_of_heap S3) (by simp)).trans S3
  clear T3 S3 c1 c2 c3 t2
  obtain ⟨c1, c2, c3⟩ := HC.out w4 S4
  go_wp2_with fail
  refine (mstamp_nil d1 _).mono ?_
  rintro e w5 ⟨rfl, t2⟩
  have T5 : Touch w w5 [] := T4.trans t2 (by simp)
  have S5 := (t2.block _ (lt_of_heap S4) (by simp)).trans S4
  clear T4 S4 c1 c2 c3 t2
  obtain ⟨c1, c2, c3⟩ := HC.out w5 S5
  go_wp2_with fail
  refine (mwaits_nil d1 _).mono ?_
  rintro e w6 ⟨rfl, t2⟩
  have T6 : Touch w w6 [] := T5.trans t2 (by simp)
  have S6 := (t2.block _ (lt_of_heap S5) (by simp)).trans S5
  clear T5 S5 c1 c2 c3 t2
  obtain ⟨c1, c2, c3⟩ := HC.out w6 S6
  go_wp2_with fail
  refine (mkind_nil _).mono ?_
  rintro e w2 ⟨rfl, rfl⟩
  go_wp2_with fail
  refine (mfork_nil _).mono ?_
  rintro e w2 ⟨rfl, rfl⟩
  go_wp2_with fail
  by_cases hk : k = 1 ∨ k = 2 ∨ k = 3
  · refine (mnew_ok k hk _).mono ?_
    rintro e w2 ⟨rfl, l2, t2⟩
    have HT : Hid (Touch w w2 []) := T6.trans t2 (by simp)
    clear T6 t2 l2 S6 HC c1 c2 c3
    have a1 : ¬ k < 1 := by omega
    have a2 : ¬ 3 < k := by omega
    go_wp2
    go_ret
    exact ⟨by simp <;> omega, HT.out⟩
  · refine (mnew_no k (fun q => hk (.inl q)) (fun q => hk (.inr (.inl q))) (fun q => hk (.inr (.inr q))) _).mono ?_
    rintro e w2 ⟨rfl, rfl⟩
    have HT : Hid (Touch w w6 []) := T6
    clear T6 S6 HC c1 c2 c3
    by_cases a1 : k < 1
    · go_wp2
      go_ret
      exact ⟨by simp <;> omega, HT.out⟩
    · have a2 : 3 < k := by omega
      go_wp2
      go_ret
      exact ⟨by simp <;> omega, HT.out⟩

end Go.Proofs.Ytgnfonimnlejbaa
