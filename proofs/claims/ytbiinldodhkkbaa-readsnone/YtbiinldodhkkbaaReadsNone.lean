/-
  ReadsNone, WALKED.
-/
import Derived.Test.YtbiinldodhkkbaaReadsLists
namespace Go.Proofs.Ytbiinldodhkkbaa
set_option linter.unusedVariables false
set_option linter.unusedSimpArgs false
open Go.RowKit Go.Maps

/-- A law's answer. -/
def TrueN (w : World) (e : Ending) (w' : World) : Prop := e = .returned (.bool true) ∧ Touch w w' []

theorem clear_nil (w : World) : Calls Try.prog 17 #[.pointer none] w fun x w' => x = .returned (.tuple #[]) ∧ Touch w w' [] := by
  go_enter Try.func17, Try.ntmps17
  go_wp2
  refine bodyPost_ret (v := .tuple #[]) ?_ rfl ⟨rfl, Touch.refl _ _⟩
  simp [results, Try.results17]

theorem broken_nil (v : Value) (w : World) : Calls Try.prog 21 #[.pointer none, v] w fun x w' => x = .returned (.tuple #[.int .i64 0, .bool false]) ∧ Touch w w' [] := by
  go_enter Try.func21, Try.ntmps21
  go_wp2
  go_ret2
  exact ⟨rfl, Touch.refl _ _⟩

theorem list_nil (w : World) : Calls Try.prog 23 #[.pointer none] w fun x w' => x = .returned (.slice none 0 0) ∧ Touch w w' [] := by
  go_enter Try.func23, Try.ntmps23
  go_wp2
  go_ret
  exact ⟨rfl, Touch.refl _ _⟩

theorem tvars_nil (w : World) : Calls Try.prog 24 #[.pointer none] w fun x w' => x = .returned (.slice none 0 0) ∧ Touch w w' [] := by
  go_enter Try.func24, Try.ntmps24
  go_wp2
  go_ret
  exact ⟨rfl, Touch.refl _ _⟩

theorem newest_nil (w : World) : Calls Try.prog 25 #[.pointer none] w fun x w' => x = .returned (.int .u64 0) ∧ Touch w w' [] := by
  go_enter Try.func25, Try.ntmps25
  go_wp2
  go_ret
  exact ⟨rfl, Touch.refl _ _⟩

theorem len_nil (w : World) : Calls Try.prog 10 #[.pointer none] w fun x w' => x = .returned (.int .i64 0) ∧ Touch w w' [] := by
  go_enter Try.func10, Try.ntmps10
  go_wp2
  go_ret
  exact ⟨rfl, Touch.refl _ _⟩

theorem fork_nil (w : World) : Calls Try.prog 13 #[.pointer none] w fun x w' => x = .returned (.pointer none) ∧ Touch w w' [] := by
  go_enter Try.func13, Try.ntmps13
  go_wp2
  go_ret
  exact ⟨rfl, Touch.refl _ _⟩

theorem merge_nil (v : Value) (w : World) : Calls Try.prog 11 #[.pointer none, v] w fun x w' => x = .returned (.int .i64 1) ∧ Touch w w' [] := by
  go_enter Try.func11, Try.ntmps11
  go_wp2
  go_ret
  exact ⟨rfl, Touch.refl _ _⟩

theorem add_nil (e : EntD) (w : World) : Calls Try.prog 15 #[.pointer none, e.v] w fun x w' => x = .returned (.int .i64 1) ∧ Touch w w' [] := by
  go_enter Try.func15, Try.ntmps15
  go_wp2
  go_ret
  exact ⟨rfl, (Touch.refl _ _).alloc _⟩

set_option maxRecDepth 100000 in
theorem get_nil (t : Int) (w : World) : Calls Try.prog 20 #[.pointer none, .int .i64 t] w fun x w' => x = .returned (.tuple #[.agg #[.int .i64 0, .int .u64 0, .int .u64 0], .bool false]) ∧ Touch w w' [] := by
  go_enter Try.func20, Try.ntmps20
  go_wp2
  have k0 : (w.alloc (.cells #[.int .i64 0, .int .u64 0, .int .u64 0] 41)).cell? ⟨w.heap.size, 0, none⟩ = some (.int .i64 0) := by simp [go_sem]
  have k1 : (w.alloc (.cells #[.int .i64 0, .int .u64 0, .int .u64 0] 41)).cell? ⟨w.heap.size, 1, none⟩ = some (.int .u64 0) := by simp [go_sem]
  have k2 : (w.alloc (.cells #[.int .i64 0, .int .u64 0, .int .u64 0] 41)).cell? ⟨w.heap.size, 2, none⟩ = some (.int .u64 0) := by simp [go_sem]
  refine bodyPost_ret (v := .tuple #[.agg #[.int .i64 0, .int .u64 0, .int .u64 0], .bool false]) ?_ rfl ⟨rfl, (Touch.refl w []).alloc _⟩
  rw [results_cell_tmp rfl]
  go_simp

theorem valid_nil (v : Value) (w : World) : Calls Try.prog 19 #[.pointer none, v] w fun x w' => x = .returned (.bool false) ∧ Touch w w' [] := by
  go_enter Try.func19, Try.ntmps19
  go_wp2_with fail
  refine (broken_nil v w).mono ?_
  rintro x w1 ⟨rfl, t1⟩
  go_wp2
  go_ret
  exact ⟨rfl, t1⟩

set_option maxRecDepth 100000 in
set_option maxHeartbeats 1600000 in
theorem enone_any (e : EntD) (bo : Option Addr) (cap2 : Nat) (hp' : List Int) (w : World) (hew : e.Wf) : Calls Try.prog 6 #[e.v, .slice bo hp'.length cap2] w (TrueN w) := by
  have T0 : Touch w (w.alloc (.cells #[.int .i64 e.tvar, .int .u64 e.val, .int .u64 e.ver] 41)) [] := (Touch.refl w []).alloc _
  have e0 : (w.alloc (.cells #[.int .i64 e.tvar, .int .u64 e.val, .int .u64 e.ver] 41)).heap[w.heap.size]? = some (.cells #[.int .i64 e.tvar, .int .u64 e.val, .int .u64 e.ver] 41 (0, 0)) := heap_alloc_new w _
  have next : ∀ {X Y : World}, X.heap[w.heap.size]? = some (.cells #[.int .i64 e.tvar, .int .u64 e.val, .int .u64 e.ver] 41 (0, 0)) → Touch w X [] → Touch X Y [] → Y.heap[w.heap.size]? = some (.cells #[.int .i64 e.tvar, .int .u64 e.val, .int .u64 e.ver] 41 (0, 0)) ∧ Touch w Y [] :=
    fun he ht t => ⟨(t.block _ (lt_of_heap he) (by simp)).trans he, ht.trans t (by simp)⟩
  have HE0 : Hid _ := e0
  have HT0 : Hid _ := T0
  clear e0 T0
  generalize hp'.length = M
  go_enter Try.func6, Try.ntmps6
  go_wp2_with fail
  refine (clear_nil _).mono ?_
  rintro x w1 ⟨rfl, t1⟩
  obtain ⟨e1, T1⟩ := next HE0.out HT0.out t1
  obtain ⟨q0, q1, q2⟩ := cells_three e1
  clear HE0 HT0 t1
  go_wp2_with fail
  refine (get_nil e.tvar _).mono ?_
  rintro x w2 ⟨rfl, t2⟩
  have z2 := heap_alloc_new w2 (.cells #[.int .i64 0, .int .u64 0, .int .u64 0] 41 (0, 0))
  obtain ⟨e2, T2⟩ := next e1 T1 (t2.alloc (.cells #[.int .i64 0, .int .u64 0, .int .u64 0] 41))
  clear e1 T1 t2 q0 q1 q2
  go_wp2_with fail
  refine (broken_nil _ _).mono ?_
  rintro x w3 ⟨rfl, t3⟩
  obtain ⟨e3, T3⟩ := next e2 T2 t3
  have z3 := (t3.block _ (lt_of_heap z2) (by simp)).trans z2
  clear e2 T2 z2 t3
  go_wp2_with fail
  refine (elive_any _).mono ?_
  rintro x w4 ⟨rfl, t4⟩
  obtain ⟨e4, T4⟩ := next e3 T3 t4
  have z4 := (t4.block _ (lt_of_heap z3) (by simp)).trans z3
  clear e3 T3 z3 t4
  obtain ⟨q0, q1, q2⟩ := cells_three e4
  go_wp2_with fail
  refine (add_nil e _).mono ?_
  rintro x w5 ⟨rfl, t5⟩
  obtain ⟨e5, T5⟩ := next e4 T4 t5
  have z5 := (t5.block _ (lt_of_heap z4) (by simp)).trans z4
  clear e4 T4 z4 t5 q0 q1 q2
  go_wp2_with fail
  refine (rdnew_any _).mono ?_
  rintro x w6 ⟨b, m, rfl, s6, t6⟩
  obtain ⟨e6, T6⟩ := next e5 T5 t6
  have z6 := (t6.block _ (lt_of_heap z5) (by simp)).trans z5
  clear e5 T5 z5 t6 s6
  go_wp2_with fail
  refine (merge_nil _ _).mono ?_
  rintro x w7 ⟨rfl, t7⟩
  obtain ⟨e7, T7⟩ := next e6 T6 t7
  have z7 := (t7.block _ (lt_of_heap z6) (by simp)).trans z6
  clear e6 T6 z6 t7
  obtain ⟨y0, y1, y2⟩ := cells_three z7
  go_wp2_with fail
  refine (list_nil _).mono ?_
  rintro x w8 ⟨rfl, t8⟩
  have T8 := T7.trans t8 (by simp)
  clear e7 T7 z7 t8 y0 y1 y2
  go_wp2_with fail
  refine (tvars_nil _).mono ?_
  rintro x w9 ⟨rfl, t9⟩
  have T9 := T8.trans t9 (by simp)
  clear T8 t9
  go_wp2_with fail
  refine (newest_nil _).mono ?_
  rintro x wa ⟨rfl, ta⟩
  have Ta := T9.trans ta (by simp)
  clear T9 ta
  go_wp2_with fail
  refine (valid_nil _ _).mono ?_
  rintro x wb ⟨rfl, tb⟩
  have Tb := Ta.trans tb (by simp)
  clear Ta tb
  go_wp2_with fail
  refine (len_nil _).mono ?_
  rintro x wc ⟨rfl, tc⟩
  have Tc := Tb.trans tc (by simp)
  clear Tb tc
  go_wp2_with fail
  refine (fork_nil _).mono ?_
  rintro x wd ⟨rfl, td⟩
  go_wp2
  go_ret
  exact ⟨rfl, Tc.trans td (by simp)⟩

end Go.Proofs.Ytbiinldodhkkbaa
