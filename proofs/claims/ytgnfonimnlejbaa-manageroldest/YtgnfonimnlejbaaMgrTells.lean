/-
  package manager: told and its readers, Kind, Fork, Oldest, BY THEIR CONTRACTS.
-/
import Derived.Test.YtgnfonimnlejbaaMgrCalls
import Derived.Recover
import Derived.Defers
namespace Go.Proofs.Ytgnfonimnlejbaa
set_option linter.unusedVariables false
set_option linter.unusedSimpArgs false
open Go.RowKit

theorem results_cell {fn : Func} {p : Tmp} {ty : TypeId} (h : fn.results = #[.cell p ty]) (tmps : Array Value) (P : Program) (w : World) :
    (results fn tmps).run P w = ((asAddr (tmps.getD p undef)).run P w).andThen fun a w₁ => (loadVar ty a).run P w₁ := by
  simp only [results, h]
  simp [Sem.run_bind, Result.andThen]

theorem tfield (x0 x1 x2 x3 x4 : Value) (w : World) :
    (Instr.field 56 (.agg #[x0, x1, x2, x3, x4]) 1).run Try.prog w = .ok x1 w ∧ (Instr.field 56 (.agg #[x0, x1, x2, x3, x4]) 2).run Try.prog w = .ok x2 w ∧ (Instr.field 56 (.agg #[x0, x1, x2, x3, x4]) 3).run Try.prog w = .ok x3 w ∧ (Instr.field 56 (.agg #[x0, x1, x2, x3, x4]) 4).run Try.prog w = .ok x4 w := by
  refine ⟨?_, ?_, ?_, ?_⟩
  all_goals
    simp only [Instr.field, Sem.run_bind, run_underlying Try.underlying56, Result.andThen_ok]
    go_simp
    rfl

/-- What told comes to. -/
def toldM (M : MD) (th : Int) : TD := if 0 ≤ th ∧ th < 4 then M.t th.toNat else zeroT

set_option maxRecDepth 100000 in
theorem told_ok (b i : Nat) (hi : i < 4) (M : MD) (w : World) (h : MObj w b M) : Calls Try.prog 27 #[.pointer (some ⟨b, 0, none⟩), .int .i64 i] w fun x w' => x = .returned (M.t i).val ∧ Touch w w' [] := by
  have h' := h.touch ((Touch.refl w []).alloc (.cells #[.bool false, .bool false, .int .i64 0, .int .i64 0, .int .i64 0] 56)) (by simp)
  obtain ⟨c0, c1, c2, c3, c4, _⟩ := h.at i hi
  have hlt := lt_of_heap h.st
  obtain ⟨d0, d1, d2, d3, d4, _⟩ := h'.at i hi
  have A := HidC.mk (mthread_ok b i hi (w.alloc (.cells #[.bool false, .bool false, .int .i64 0, .int .i64 0, .int .i64 0] 56)))
  clear h h'
  generalize M.t i = x at *
  obtain ⟨x0, x1, x2, x3, x4⟩ := x
  simp only [TD.val] at *
  go_enter Try.func27, Try.ntmps27
  go_wp2_with fail
  refine A.out.mono ?_
  rintro e w1 ⟨rfl, rfl⟩
  clear A
  go_wp2
  refine bodyPost_ret (v := .agg #[.bool x0, .bool x1, .int .i64 x2, .int .i64 x3, .int .i64 x4]) ?_ rfl ⟨rfl, ?_⟩
  · rw [results_cell rfl]
    go_simp
  · exact (Touch.refl w []).alloc _

set_option maxRecDepth 100000 in
theorem told_no (b : Nat) (th : Int) (hth : ¬ (0 ≤ th ∧ th < 4)) (w : World) : Calls Try.prog 27 #[.pointer (some ⟨b, 0, none⟩), .int .i64 th] w fun x w' => x = .returned zeroT.val ∧ Touch w w' [] := by
  have A := HidC.mk (mthread_no b th hth (w.alloc (.cells #[.bool false, .bool false, .int .i64 0, .int .i64 0, .int .i64 0] 56)))
  go_enter Try.func27, Try.ntmps27
  go_wp2_with fail
  refine A.out.mono ?_
  rintro e w1 ⟨rfl, rfl⟩
  clear A
  go_wp2
  refine bodyPost_ret (v := zeroT.val) ?_ rfl ⟨rfl, ?_⟩
  · rw [results_cell rfl]
    go_simp
  · exact (Touch.refl w []).alloc _

set_option maxRecDepth 100000 in
theorem told_nil (th : Int) (w : World) : Calls Try.prog 27 #[.pointer none, .int .i64 th] w fun x w' => x = .returned zeroT.val ∧ Touch w w' [] := by
  have A := HidC.mk (mthread_nil th (w.alloc (.cells #[.bool false, .bool false, .int .i64 0, .int .i64 0, .int .i64 0] 56)))
  go_enter Try.func27, Try.ntmps27
  go_wp2_with fail
  refine A.out.mono ?_
  rintro e w1 ⟨rfl, rfl⟩
  clear A
  go_wp2
  refine bodyPost_ret (v := zeroT.val) ?_ rfl ⟨rfl, ?_⟩
  · rw [results_cell rfl]
    go_simp
  · exact (Touch.refl w []).alloc _

theorem told_any (b : Nat) (th : Int) (M : MD) (w : World) (h : MObj w b M) : Calls Try.prog 27 #[.pointer (some ⟨b, 0, none⟩), .int .i64 th] w fun x w' => x = .returned (toldM M th).val ∧ Touch w w' [] := by
  by_cases hth : 0 ≤ th ∧ th < 4
  · have e : toldM M th = M.t th.toNat := if_pos hth
    rw [e]
    have := told_ok b th.toNat (by omega) M w h
    rwa [show ((th.toNat : Nat) : Int) = th by omega] at this
  · have e : toldM M th = zeroT := if_neg hth
    rw [e]
    exact told_no b th hth w

theorem mtries_any (b : Nat) (th : Int) (M : MD) (w : World) (h : MObj w b M) : Calls Try.prog 18 #[.pointer (some ⟨b, 0, none⟩), .int .i64 th] w fun x w' => x = .returned (.int .i64 (toldM M th).tries) ∧ Touch w w' [] := by
  have A := HidC.mk (told_any b th M w h)
  clear h
  generalize toldM M th = x at *
  obtain ⟨x0, x1, x2, x3, x4⟩ := x
  simp only [TD.val] at *
  go_enter Try.func18, Try.ntmps18
  go_wp2_with fail
  refine A.out.mono ?_
  rintro e w1 ⟨rfl, t1⟩
  clear A
  have F := fun a0 a1 a2 a3 a4 => tfield a0 a1 a2 a3 a4 w1
  go_wp2
  go_ret
  exact ⟨rfl, t1⟩

theorem mtries_nil (th : Int) (w : World) : Calls Try.prog 18 #[.pointer none, .int .i64 th] w fun x w' => x = .returned (.int .i64 0) ∧ Touch w w' [] := by
  have A := HidC.mk (told_nil th w)
  go_enter Try.func18, Try.ntmps18
  go_wp2_with fail
  refine A.out.mono ?_
  rintro e w1 ⟨rfl, t1⟩
  clear A
  have F := fun a0 a1 a2 a3 a4 => tfield a0 a1 a2 a3 a4 w1
  go_wp2
  go_ret
  exact ⟨rfl, t1⟩
theorem mmerit_any (b : Nat) (th : Int) (M : MD) (w : World) (h : MObj w b M) : Calls Try.prog 20 #[.pointer (some ⟨b, 0, none⟩), .int .i64 th] w fun x w' => x = .returned (.int .i64 (toldM M th).merit) ∧ Touch w w' [] := by
  have A := HidC.mk (told_any b th M w h)
  clear h
  generalize toldM M th = x at *
  obtain ⟨x0, x1, x2, x3, x4⟩ := x
  simp only [TD.val] at *
  go_enter Try.func20, Try.ntmps20
  go_wp2_with fail
  refine A.out.mono ?_
  rintro e w1 ⟨rfl, t1⟩
  clear A
  have F := fun a0 a1 a2 a3 a4 => tfield a0 a1 a2 a3 a4 w1
  go_wp2
  go_ret
  exact ⟨rfl, t1⟩

theorem mmerit_nil (th : Int) (w : World) : Calls Try.prog 20 #[.pointer none, .int .i64 th] w fun x w' => x = .returned (.int .i64 0) ∧ Touch w w' [] := by
  have A := HidC.mk (told_nil th w)
  go_enter Try.func20, Try.ntmps20
  go_wp2_with fail
  refine A.out.mono ?_
  rintro e w1 ⟨rfl, t1⟩
  clear A
  have F := fun a0 a1 a2 a3 a4 => tfield a0 a1 a2 a3 a4 w1
  go_wp2
  go_ret
  exact ⟨rfl, t1⟩
theorem mstamp_any (b : Nat) (th : Int) (M : MD) (w : World) (h : MObj w b M) : Calls Try.prog 19 #[.pointer (some ⟨b, 0, none⟩), .int .i64 th] w fun x w' => x = .returned (.int .i64 (toldM M th).stamp) ∧ Touch w w' [] := by
  have A := HidC.mk (told_any b th M w h)
  clear h
  generalize toldM M th = x at *
  obtain ⟨x0, x1, x2, x3, x4⟩ := x
  simp only [TD.val] at *
  go_enter Try.func19, Try.ntmps19
  go_wp2_with fail
  refine A.out.mono ?_
  rintro e w1 ⟨rfl, t1⟩
  clear A
  have F := fun a0 a1 a2 a3 a4 => tfield a0 a1 a2 a3 a4 w1
  go_wp2
  go_ret
  exact ⟨rfl, t1⟩

theorem mstamp_nil (th : Int) (w : World) : Calls Try.prog 19 #[.pointer none, .int .i64 th] w fun x w' => x = .returned (.int .i64 0) ∧ Touch w w' [] := by
  have A := HidC.mk (told_nil th w)
  go_enter Try.func19, Try.ntmps19
  go_wp2_with fail
  refine A.out.mono ?_
  rintro e w1 ⟨rfl, t1⟩
  clear A
  have F := fun a0 a1 a2 a3 a4 => tfield a0 a1 a2 a3 a4 w1
  go_wp2
  go_ret
  exact ⟨rfl, t1⟩
theorem mwaits_any (b : Nat) (th : Int) (M : MD) (w : World) (h : MObj w b M) : Calls Try.prog 13 #[.pointer (some ⟨b, 0, none⟩), .int .i64 th] w fun x w' => x = .returned (.bool (toldM M th).waits) ∧ Touch w w' [] := by
  have A := HidC.mk (told_any b th M w h)
  clear h
  generalize toldM M th = x at *
  obtain ⟨x0, x1, x2, x3, x4⟩ := x
  simp only [TD.val] at *
  go_enter Try.func13, Try.ntmps13
  go_wp2_with fail
  refine A.out.mono ?_
  rintro e w1 ⟨rfl, t1⟩
  clear A
  have F := fun a0 a1 a2 a3 a4 => tfield a0 a1 a2 a3 a4 w1
  go_wp2
  go_ret
  exact ⟨rfl, t1⟩

theorem mwaits_nil (th : Int) (w : World) : Calls Try.prog 13 #[.pointer none, .int .i64 th] w fun x w' => x = .returned (.bool false) ∧ Touch w w' [] := by
  have A := HidC.mk (told_nil th w)
  go_enter Try.func13, Try.ntmps13
  go_wp2_with fail
  refine A.out.mono ?_
  rintro e w1 ⟨rfl, t1⟩
  clear A
  have F := fun a0 a1 a2 a3 a4 => tfield a0 a1 a2 a3 a4 w1
  go_wp2
  go_ret
  exact ⟨rfl, t1⟩

theorem mkind_nil (w : World) : Calls Try.prog 22 #[.pointer none] w fun x w' => x = .returned (.int .u8 0) ∧ w = w' := by
  go_enter Try.func22, Try.ntmps22
  go_wp2
  go_ret
  exact ⟨rfl, rfl⟩

theorem mfork_nil (w : World) : Calls Try.prog 11 #[.pointer none] w fun x w' => x = .returned (.pointer none) ∧ w = w' := by
  go_enter Try.func11, Try.ntmps11
  go_wp2
  go_ret
  exact ⟨rfl, rfl⟩

theorem moldest_nil (w : World) : Calls Try.prog 10 #[.pointer none] w fun x w' => x = .returned (.tuple #[.int .i64 0, .bool false]) ∧ w = w' := by
  go_enter Try.func10, Try.ntmps10
  go_wp2
  go_ret2
  exact ⟨rfl, rfl⟩

end Go.Proofs.Ytgnfonimnlejbaa
