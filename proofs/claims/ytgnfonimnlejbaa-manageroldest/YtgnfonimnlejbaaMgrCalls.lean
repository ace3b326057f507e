/-
  package manager: running, stop, Began, Opened, Passed, Ended, told, BY THEIR CONTRACTS.
-/
import Derived.Test.YtgnfonimnlejbaaMgrBase
namespace Go.Proofs.Ytgnfonimnlejbaa
set_option linter.unusedVariables false
set_option linter.unusedSimpArgs false
open Go.RowKit

theorem mrunning_ok (b i : Nat) (hi : i < 4) (M : MD) (w : World) (h : MObj w b M) (hr : (M.t i).runs = true) : Calls Try.prog 30 #[.pointer (some ⟨b, 0, none⟩), .int .i64 i] w fun x w' => x = .returned (.tuple #[.pointer (some ⟨b, 1 + i * 5, none⟩), .int .i64 0]) ∧ w = w' := by
  have c0 := (h.at i hi).c0
  rw [hr] at c0
  go_enter Try.func30, Try.ntmps30
  go_wp2_with fail
  refine (mthread_ok b i hi w).mono ?_
  rintro e w1 ⟨rfl, rfl⟩
  go_wp2
  go_ret2
  exact ⟨rfl, rfl⟩

theorem mrunning_off (b i : Nat) (hi : i < 4) (M : MD) (w : World) (h : MObj w b M) (hr : (M.t i).runs = false) : Calls Try.prog 30 #[.pointer (some ⟨b, 0, none⟩), .int .i64 i] w fun x w' => x = .returned (.tuple #[.pointer none, .int .i64 8]) ∧ w = w' := by
  have c0 := (h.at i hi).c0
  rw [hr] at c0
  go_enter Try.func30, Try.ntmps30
  go_wp2_with fail
  refine (mthread_ok b i hi w).mono ?_
  rintro e w1 ⟨rfl, rfl⟩
  go_wp2
  go_ret2
  exact ⟨rfl, rfl⟩

theorem mrunning_no (b : Nat) (th : Int) (h : ¬ (0 ≤ th ∧ th < 4)) (w : World) : Calls Try.prog 30 #[.pointer (some ⟨b, 0, none⟩), .int .i64 th] w fun x w' => x = .returned (.tuple #[.pointer none, .int .i64 2]) ∧ w = w' := by
  go_enter Try.func30, Try.ntmps30
  go_wp2_with fail
  refine (mthread_no b th h w).mono ?_
  rintro e w1 ⟨rfl, rfl⟩
  go_wp2
  go_ret2
  exact ⟨rfl, rfl⟩

theorem mrunning_nil (th : Int) (w : World) : Calls Try.prog 30 #[.pointer none, .int .i64 th] w fun x w' => x = .returned (.tuple #[.pointer none, .int .i64 1]) ∧ w = w' := by
  go_enter Try.func30, Try.ntmps30
  go_wp2_with fail
  refine (mthread_nil th w).mono ?_
  rintro e w1 ⟨rfl, rfl⟩
  go_wp2
  go_ret2
  exact ⟨rfl, rfl⟩

/-- stop, as it writes. -/
theorem mstop_any (b i : Nat) (hi : i < 4) (M : MD) (w : World) (h : MObj w b M) : Calls Try.prog 29 #[.pointer (some ⟨b, 1 + i * 5, none⟩)] w fun x w' => x = .returned (.tuple #[]) ∧ MObj w' b (M.put i { M.t i with tries := 0, waits := false }) ∧ Touch w w' [b] := by
  obtain ⟨c0, c1, c2, c3, c4, f⟩ := h.at i hi
  have f2 := f (1 + i * 5 + 2)
  have f1 := f (1 + i * 5 + 1)
  have h1 := h.set2 i hi 0
  obtain ⟨d0, d1, d2, d3, d4, g⟩ := h1.at i hi
  have g1 := g (1 + i * 5 + 1)
  have h2 := h1.set1 i hi false
  have HO : Hid _ := h2.same (M' := M.put i { M.t i with tries := 0, waits := false }) (fun j => by simp only [MD.put_t]; split <;> simp_all) rfl
  have HT : Hid _ := ((Touch.refl w [b]).setCell (p := ⟨b, 1 + i * 5 + 2, none⟩) (.inl (by simp)) (.int .i64 0)).setCell (p := ⟨b, 1 + i * 5 + 1, none⟩) (.inl (by simp)) (.bool false)
  clear h h1 h2 f g d0 d2 d3 d4 c0 c3 c4
  go_enter Try.func29, Try.ntmps29
  go_wp2
  go_end0
  exact ⟨rfl, HO.out, HT.out⟩

end Go.Proofs.Ytgnfonimnlejbaa
