/-
  WritesNone, WALKED.
-/
import Derived.Test.YtdpmkdomgnkplaaWritesLive
namespace Go.Proofs.Ytdpmkdomgnkplaa
set_option linter.unusedVariables false
set_option linter.unusedSimpArgs false
open Go.RowKit Go.Maps Go.Shelf

theorem put_nil (v0 : Value) (v1 : Value) (w : World) : Calls Try.prog 18 #[.pointer none, v0, v1] w fun e w' => e = .returned (.int .i64 1) ∧ Touch w w' [] := by
  go_enter Try.func18, Try.ntmps18
  go_wp2
  go_ret
  exact ⟨rfl, Touch.refl _ _⟩

theorem push_nil (w : World) : Calls Try.prog 19 #[.pointer none] w fun e w' => e = .returned (.int .i64 1) ∧ Touch w w' [] := by
  go_enter Try.func19, Try.ntmps19
  go_wp2
  go_ret
  exact ⟨rfl, Touch.refl _ _⟩

theorem pop_nil (w : World) : Calls Try.prog 32 #[.pointer none] w fun e w' => e = .returned (.tuple #[.map none, .int .i64 1]) ∧ Touch w w' [] := by
  go_enter Try.func32, Try.ntmps32
  go_wp2
  go_ret2
  exact ⟨rfl, Touch.refl _ _⟩

theorem drop_nil (w : World) : Calls Try.prog 20 #[.pointer none] w fun e w' => e = .returned (.int .i64 1) ∧ Touch w w' [] := by
  go_enter Try.func20, Try.ntmps20
  go_wp2_with fail
  refine (pop_nil w).mono ?_
  rintro e w1 ⟨rfl, t1⟩
  go_wp2
  go_ret
  exact ⟨rfl, t1⟩

theorem merge_nil (w : World) : Calls Try.prog 12 #[.pointer none] w fun e w' => e = .returned (.int .i64 1) ∧ Touch w w' [] := by
  go_enter Try.func12, Try.ntmps12
  go_wp2_with fail
  refine (pop_nil w).mono ?_
  rintro e w1 ⟨rfl, t1⟩
  go_wp2
  go_ret
  exact ⟨rfl, t1⟩

theorem depth_nil (w : World) : Calls Try.prog 11 #[.pointer none] w fun e w' => e = .returned (.int .i64 0) ∧ Touch w w' [] := by
  go_enter Try.func11, Try.ntmps11
  go_wp2
  go_ret
  exact ⟨rfl, Touch.refl _ _⟩

theorem len_nil (w : World) : Calls Try.prog 21 #[.pointer none] w fun e w' => e = .returned (.int .i64 0) ∧ Touch w w' [] := by
  go_enter Try.func21, Try.ntmps21
  go_wp2
  go_ret
  exact ⟨rfl, Touch.refl _ _⟩

theorem over_nil (v0 : Value) (w : World) : Calls Try.prog 22 #[.pointer none, v0] w fun e w' => e = .returned (.slice none 0 0) ∧ Touch w w' [] := by
  go_enter Try.func22, Try.ntmps22
  go_wp2
  go_ret
  exact ⟨rfl, Touch.refl _ _⟩

theorem fork_nil (w : World) : Calls Try.prog 14 #[.pointer none] w fun e w' => e = .returned (.pointer none) ∧ Touch w w' [] := by
  go_enter Try.func14, Try.ntmps14
  go_wp2
  go_ret
  exact ⟨rfl, Touch.refl _ _⟩

set_option maxRecDepth 100000 in
theorem get_nil (t : Int) (w : World) : Calls Try.prog 17 #[.pointer none, .int .i64 t] w fun e w' => e = .returned (.tuple #[.int .u64 0, .bool false]) ∧ Touch w w' [] := by
  go_enter Try.func17, Try.ntmps17
  go_wp2
  have k1 : (((w.alloc (.cells #[.int .i64 t] 3)).alloc (.cells #[.int .u64 0] 40)).alloc (.cells #[.bool false] 4)).cell? ⟨w.heap.size + 1, 0, none⟩ = some (.int .u64 0) := by
    have := one_new (w.alloc (.cells #[.int .i64 t] 3)) (.int .u64 0) 40
    rw [World.size_alloc] at this
    exact One.cell (this.alloc _)
  have k2 : (((w.alloc (.cells #[.int .i64 t] 3)).alloc (.cells #[.int .u64 0] 40)).alloc (.cells #[.bool false] 4)).cell? ⟨w.heap.size + 1 + 1, 0, none⟩ = some (.bool false) := by
    have := one_new ((w.alloc (.cells #[.int .i64 t] 3)).alloc (.cells #[.int .u64 0] 40)) (.bool false) 4
    rw [World.size_alloc, World.size_alloc] at this
    exact One.cell this
  have T : Touch w (((w.alloc (.cells #[.int .i64 t] 3)).alloc (.cells #[.int .u64 0] 40)).alloc (.cells #[.bool false] 4)) [] := (((Touch.refl w []).alloc _).alloc _).alloc _
  revert k1 k2 T
  generalize (((w.alloc (.cells #[.int .i64 t] 3)).alloc (.cells #[.int .u64 0] 40)).alloc (.cells #[.bool false] 4)) = Wf
  intro k1 k2 T
  refine bodyPost_ret (v := .tuple #[.int .u64 0, .bool false]) ?_ rfl ⟨rfl, T⟩
  rw [results_cell2 rfl]
  go_simp

theorem all_nil (w : World) : Calls Try.prog 10 #[.pointer none] w fun e w' => ∃ ao cap, e = .returned (.slice ao 0 cap) ∧ Touch w w' [] := by
  refine (all_of (p := none) (G := fun _ => none) (fun W t => fun t _ _ => (get_nil t W).mono fun e w' h => h)).mono ?_
  rintro e w' ⟨v, B, rfl, hr, _, t⟩
  have e0 : allK (fun _ => none) 12 = [] := by decide
  rw [e0] at hr
  rcases hr.2 with ⟨rfl, _⟩ | ⟨g, cap, cur, rfl, _⟩
  · exact ⟨_, _, rfl, t⟩
  · exact ⟨_, _, rfl, t⟩

set_option maxRecDepth 100000 in
set_option maxHeartbeats 1600000 in
theorem none_any (k t v : Int) (bo : Option Addr) (cap : Nat) (l : List Int) (w : World) : Calls Try.prog 6 #[.agg #[.int .i64 k, .int .i64 t, .int .u64 v], .slice bo l.length cap] w (TrueN w) := by
  have T0 : Touch w (w.alloc (.cells #[.int .i64 k, .int .i64 t, .int .u64 v] 42)) [] := (Touch.refl w []).alloc _
  have e0 : (w.alloc (.cells #[.int .i64 k, .int .i64 t, .int .u64 v] 42)).heap[w.heap.size]? = some (.cells #[.int .i64 k, .int .i64 t, .int .u64 v] 42 (0, 0)) := heap_alloc_new w _
  have HE0 : Hid _ := e0
  have HT0 : Hid _ := T0
  clear e0 T0
  generalize l.length = M
  go_enter Try.func6, Try.ntmps6
  go_wp2_with fail
  refine (get_nil t _).mono ?_
  rintro e w1 ⟨rfl, t1⟩
  have e1 := (t1.block _ (lt_of_heap HE0.out) (by simp)).trans HE0.out
  have T1 := HT0.out.trans t1 (by simp)
  clear t1 HE0 HT0
  go_wp2_with fail
  refine (live_any _).mono ?_
  rintro e w2 ⟨rfl, t2⟩
  have e2 := (t2.block _ (lt_of_heap e1) (by simp)).trans e1
  have T2 := T1.trans t2 (by simp)
  clear t2 e1 T1
  have q1 : w2.cell? ⟨w.heap.size, 1, none⟩ = some (.int .i64 t) := by simp [World.cell?, e2]
  have q2 : w2.cell? ⟨w.heap.size, 2, none⟩ = some (.int .u64 v) := by simp [World.cell?, e2]
  clear e2
  go_wp2_with fail
  refine (put_nil _ _ _).mono ?_
  rintro e w3 ⟨rfl, t3⟩
  have T3 := T2.trans t3 (by simp)
  clear t3 T2 q1 q2
  go_wp2_with fail
  refine (push_nil _).mono ?_
  rintro e w4 ⟨rfl, s⟩
  have T := T3.trans s (by simp)
  clear s T3
  rename Touch w w4 [] => T4
  go_wp2_with fail
  refine (drop_nil _).mono ?_
  rintro e w5 ⟨rfl, s⟩
  have T := T4.trans s (by simp)
  clear s T4
  rename Touch w w5 [] => T5
  go_wp2_with fail
  refine (merge_nil _).mono ?_
  rintro e w6 ⟨rfl, s⟩
  have T := T5.trans s (by simp)
  clear s T5
  rename Touch w w6 [] => T6
  go_wp2_with fail
  refine (all_nil _).mono ?_
  rintro e w7 ⟨ao, ca, rfl, s⟩
  have T := T6.trans s (by simp)
  clear s T6
  rename Touch w w7 [] => T7
  go_wp2_with fail
  refine (depth_nil _).mono ?_
  rintro e w8 ⟨rfl, s⟩
  have T := T7.trans s (by simp)
  clear s T7
  rename Touch w w8 [] => T8
  go_wp2_with fail
  refine (len_nil _).mono ?_
  rintro e w9 ⟨rfl, s⟩
  have T := T8.trans s (by simp)
  clear s T8
  rename Touch w w9 [] => T9
  go_wp2_with fail
  refine (over_nil _ _).mono ?_
  rintro e wa ⟨rfl, s⟩
  have T := T9.trans s (by simp)
  clear s T9
  rename Touch w wa [] => Ta
  go_wp2_with fail
  refine (fork_nil _).mono ?_
  rintro e wb ⟨rfl, s⟩
  have T := Ta.trans s (by simp)
  clear s Ta
  rename Touch w wb [] => Tb
  go_wp2
  go_ret
  exact ⟨by simp, Tb⟩

end Go.Proofs.Ytdpmkdomgnkplaa
