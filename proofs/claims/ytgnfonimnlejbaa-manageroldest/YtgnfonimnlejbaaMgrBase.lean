/-
  package manager: THE OBJECT, thread, running, stop, judgeOf, New, BY THEIR CONTRACTS.
-/
import Derived.Test.YtgnfonimnlejbaaTouchBase
import Derived.Handy
namespace Go.Proofs.Ytgnfonimnlejbaa
set_option linter.unusedVariables false
set_option linter.unusedSimpArgs false
open Go.RowKit

/-- A contract, hidden. -/
structure HidC (P : Program) (f : Nat) (a : Array Value) (w : World) (Q : Ending → World → Prop) : Prop where
  out : Calls P f a w Q

/-- What is known of one thread. -/
structure TD where
  runs : Bool
  waits : Bool
  tries : Int
  merit : Int
  stamp : Int

abbrev TD.val (t : TD) : Value := .agg #[.bool t.runs, .bool t.waits, .int .i64 t.tries, .int .i64 t.merit, .int .i64 t.stamp]
abbrev zeroT : TD := ⟨false, false, 0, 0, 0⟩

/-- A manager: its kind, its threads, how many stamps. -/
structure MD where
  k : Int
  t : Nat → TD
  n : Int

def MD.put (M : MD) (i : Nat) (x : TD) : MD := { M with t := fun j => if j = i then x else M.t j }
theorem MD.put_t (M : MD) (i : Nat) (x : TD) (j : Nat) : (M.put i x).t j = if j = i then x else M.t j := rfl
theorem MD.put_same (M : MD) (i : Nat) (x : TD) : (M.put i x).t i = x := by simp [MD.put]

def mcells (J : Value) (M : MD) : Array Value := #[J,
  .bool (M.t 0).runs, .bool (M.t 0).waits, .int .i64 (M.t 0).tries, .int .i64 (M.t 0).merit, .int .i64 (M.t 0).stamp,
  .bool (M.t 1).runs, .bool (M.t 1).waits, .int .i64 (M.t 1).tries, .int .i64 (M.t 1).merit, .int .i64 (M.t 1).stamp,
  .bool (M.t 2).runs, .bool (M.t 2).waits, .int .i64 (M.t 2).tries, .int .i64 (M.t 2).merit, .int .i64 (M.t 2).stamp,
  .bool (M.t 3).runs, .bool (M.t 3).waits, .int .i64 (M.t 3).tries, .int .i64 (M.t 3).merit, .int .i64 (M.t 3).stamp,
  .int .i64 M.n]

/-- A block that holds J, the threads, the stamps. -/
structure MCell (T : TypeId) (J : Value) (w : World) (b : Nat) (M : MD) : Prop where
  st : w.heap[b]? = some (.cells (mcells J M) T (0, 0))

theorem MCell.touch {T : TypeId} {J : Value} {w w' : World} {b : Nat} {M : MD} {S : List Nat} (h : MCell T J w b M) (t : Touch w w' S) (hS : b ∉ S) : MCell T J w' b M := ⟨(t.block b (lt_of_heap h.st) hS).trans h.st⟩
theorem MCell.drew {T : TypeId} {J : Value} {w : World} {b : Nat} {M : MD} (h : MCell T J w b M) : MCell T J w.drew b M := ⟨h.st⟩

/-- What a thread's cells hold. -/
structure TAt (w : World) (b o : Nat) (t : TD) : Prop where
  c0 : w.cell? ⟨b, o, none⟩ = some (.bool t.runs)
  c1 : w.cell? ⟨b, o + 1, none⟩ = some (.bool t.waits)
  c2 : w.cell? ⟨b, o + 2, none⟩ = some (.int .i64 t.tries)
  c3 : w.cell? ⟨b, o + 3, none⟩ = some (.int .i64 t.merit)
  c4 : w.cell? ⟨b, o + 4, none⟩ = some (.int .i64 t.stamp)
  f : ∀ j, w.frozen? ⟨b, j, none⟩ = false

theorem MCell.at {T : TypeId} {J : Value} {w : World} {b : Nat} {M : MD} (h : MCell T J w b M) (i : Nat) (hi : i < 4) : TAt w b (1 + i * 5) (M.t i) := by
  have hf : ∀ j, w.frozen? ⟨b, j, none⟩ = false := fun j => by simp [World.frozen?, h.st]
  match i, hi with
  | 0, _ => refine ⟨?_, ?_, ?_, ?_, ?_, hf⟩ <;> simp [World.cell?, h.st, mcells]
  | 1, _ => refine ⟨?_, ?_, ?_, ?_, ?_, hf⟩ <;> simp [World.cell?, h.st, mcells]
  | 2, _ => refine ⟨?_, ?_, ?_, ?_, ?_, hf⟩ <;> simp [World.cell?, h.st, mcells]
  | 3, _ => refine ⟨?_, ?_, ?_, ?_, ?_, hf⟩ <;> simp [World.cell?, h.st, mcells]

theorem MCell.ends {T : TypeId} {J : Value} {w : World} {b : Nat} {M : MD} (h : MCell T J w b M) : w.cell? ⟨b, 0, none⟩ = some J ∧ w.cell? ⟨b, 21, none⟩ = some (.int .i64 M.n) ∧ w.frozen? ⟨b, 21, none⟩ = false := by
  simp [World.cell?, World.frozen?, h.st, mcells]

theorem MCell.set0 {T : TypeId} {J : Value} {w : World} {b : Nat} {M : MD} (h : MCell T J w b M) (i : Nat) (hi : i < 4) (v : Bool) : MCell T J (w.setCell ⟨b, 1 + i * 5, none⟩ (.bool v)) b (M.put i { M.t i with runs := v }) := by
  refine ⟨?_⟩
  match i, hi with
  | 0, _ => simp [World.setCell, Array.getElem?_modify, h.st, mcells, MD.put]
  | 1, _ => simp [World.setCell, Array.getElem?_modify, h.st, mcells, MD.put]
  | 2, _ => simp [World.setCell, Array.getElem?_modify, h.st, mcells, MD.put]
  | 3, _ => simp [World.setCell, Array.getElem?_modify, h.st, mcells, MD.put]
theorem MCell.set1 {T : TypeId} {J : Value} {w : World} {b : Nat} {M : MD} (h : MCell T J w b M) (i : Nat) (hi : i < 4) (v : Bool) : MCell T J (w.setCell ⟨b, 1 + i * 5 + 1, none⟩ (.bool v)) b (M.put i { M.t i with waits := v }) := by
  refine ⟨?_⟩
  match i, hi with
  | 0, _ => simp [World.setCell, Array.getElem?_modify, h.st, mcells, MD.put]
  | 1, _ => simp [World.setCell, Array.getElem?_modify, h.st, mcells, MD.put]
  | 2, _ => simp [World.setCell, Array.getElem?_modify, h.st, mcells, MD.put]
  | 3, _ => simp [World.setCell, Array.getElem?_modify, h.st, mcells, MD.put]
theorem MCell.set2 {T : TypeId} {J : Value} {w : World} {b : Nat} {M : MD} (h : MCell T J w b M) (i : Nat) (hi : i < 4) (v : Int) : MCell T J (w.setCell ⟨b, 1 + i * 5 + 2, none⟩ (.int .i64 v)) b (M.put i { M.t i with tries := v }) := by
  refine ⟨?_⟩
  match i, hi with
  | 0, _ => simp [World.setCell, Array.getElem?_modify, h.st, mcells, MD.put]
  | 1, _ => simp [World.setCell, Array.getElem?_modify, h.st, mcells, MD.put]
  | 2, _ => simp [World.setCell, Array.getElem?_modify, h.st, mcells, MD.put]
  | 3, _ => simp [World.setCell, Array.getElem?_modify, h.st, mcells, MD.put]
theorem MCell.set3 {T : TypeId} {J : Value} {w : World} {b : Nat} {M : MD} (h : MCell T J w b M) (i : Nat) (hi : i < 4) (v : Int) : MCell T J (w.setCell ⟨b, 1 + i * 5 + 3, none⟩ (.int .i64 v)) b (M.put i { M.t i with merit := v }) := by
  refine ⟨?_⟩
  match i, hi with
  | 0, _ => simp [World.setCell, Array.getElem?_modify, h.st, mcells, MD.put]
  | 1, _ => simp [World.setCell, Array.getElem?_modify, h.st, mcells, MD.put]
  | 2, _ => simp [World.setCell, Array.getElem?_modify, h.st, mcells, MD.put]
  | 3, _ => simp [World.setCell, Array.getElem?_modify, h.st, mcells, MD.put]
theorem MCell.set4 {T : TypeId} {J : Value} {w : World} {b : Nat} {M : MD} (h : MCell T J w b M) (i : Nat) (hi : i < 4) (v : Int) : MCell T J (w.setCell ⟨b, 1 + i * 5 + 4, none⟩ (.int .i64 v)) b (M.put i { M.t i with stamp := v }) := by
  refine ⟨?_⟩
  match i, hi with
  | 0, _ => simp [World.setCell, Array.getElem?_modify, h.st, mcells, MD.put]
  | 1, _ => simp [World.setCell, Array.getElem?_modify, h.st, mcells, MD.put]
  | 2, _ => simp [World.setCell, Array.getElem?_modify, h.st, mcells, MD.put]
  | 3, _ => simp [World.setCell, Array.getElem?_modify, h.st, mcells, MD.put]
theorem MCell.setN {T : TypeId} {J : Value} {w : World} {b : Nat} {M : MD} (h : MCell T J w b M) (v : Int) : MCell T J (w.setCell ⟨b, 21, none⟩ (.int .i64 v)) b { M with n := v } := by
  refine ⟨?_⟩
  simp [World.setCell, Array.getElem?_modify, h.st, mcells]

/-- Two managers with the same threads are the same for a block. -/
theorem MCell.same {T : TypeId} {J : Value} {w : World} {b : Nat} {M M' : MD} (h : MCell T J w b M) (ht : ∀ j, M.t j = M'.t j) (hn : M.n = M'.n) : MCell T J w b M' := by
  refine ⟨?_⟩
  rw [h.st]
  simp [mcells, ht, hn]

/-! ### The judges -/
def judgeV (k : Int) : Value := if k = 1 then .iface 74 (.agg #[]) else if k = 2 then .iface 75 (.agg #[]) else .iface 76 (.agg #[])

abbrev MObj (w : World) (b : Nat) (M : MD) : Prop := MCell 59 (judgeV M.k) w b M

theorem judgeOf_no (k : Int) (h1 : ¬ k = 1) (h2 : ¬ k = 2) (h3 : ¬ k = 3) (w : World) : Calls Try.prog 28 #[.int .u8 k] w fun x w' => x = .returned .nilIface ∧ w = w' := by
  have h1' : (k == 1) = false := by simpa using h1
  have h2' : (k == 2) = false := by simpa using h2
  have h3' : (k == 3) = false := by simpa using h3
  go_enter Try.func28, Try.ntmps28
  go_wp2
  go_ret
  exact ⟨rfl, rfl⟩

theorem judgeOf_ok (k : Int) (h : k = 1 ∨ k = 2 ∨ k = 3) (w : World) : Calls Try.prog 28 #[.int .u8 k] w fun x w' => x = .returned (judgeV k) ∧ w = w' := by
  rcases h with rfl | rfl | rfl
  · go_enter Try.func28, Try.ntmps28
    go_wp2
    go_ret
    exact ⟨rfl, rfl⟩
  · go_enter Try.func28, Try.ntmps28
    go_wp2
    go_ret
    exact ⟨rfl, rfl⟩
  · go_enter Try.func28, Try.ntmps28
    go_wp2
    go_ret
    exact ⟨rfl, rfl⟩

/-- A new one. -/
def newM (k : Int) : MD := ⟨k, fun _ => zeroT, 0⟩

theorem mnew_no (k : Int) (h1 : ¬ k = 1) (h2 : ¬ k = 2) (h3 : ¬ k = 3) (w : World) : Calls Try.prog 14 #[.int .u8 k] w fun x w' => x = .returned (.pointer none) ∧ w = w' := by
  go_enter Try.func14, Try.ntmps14
  go_wp2_with fail
  refine (judgeOf_no k h1 h2 h3 w).mono ?_
  rintro e w1 ⟨rfl, rfl⟩
  go_wp2
  go_ret
  exact ⟨rfl, rfl⟩

theorem mnew_ok (k : Int) (h : k = 1 ∨ k = 2 ∨ k = 3) (w : World) : Calls Try.prog 14 #[.int .u8 k] w fun x w' => x = .returned (.pointer (some ⟨w.heap.size, 0, none⟩)) ∧ MObj w' w.heap.size (newM k) ∧ Touch w w' [] := by
  go_enter Try.func14, Try.ntmps14
  go_wp2_with fail
  refine (judgeOf_ok k h w).mono ?_
  rintro e w1 ⟨rfl, rfl⟩
  have HJ : ∃ T, judgeV k = .iface T (.agg #[]) := by
    unfold judgeV
    split
    · exact ⟨_, rfl⟩
    · split <;> exact ⟨_, rfl⟩
  obtain ⟨T, hT⟩ := HJ
  have HH : Hid (judgeV k = .iface T (.agg #[])) := hT
  rw [hT]
  clear hT h
  go_wp2
  go_ret
  have e : judgeV (newM k).k = .iface T (.agg #[]) := HH.out
  refine ⟨rfl, ?_, (Touch.refl _ _).alloc _⟩
  unfold MObj
  rw [e]
  exact ⟨heap_alloc_new _ _⟩

/-! ### thread, running, stop -/
theorem mthread_ok (b i : Nat) (hi : i < 4) (w : World) : Calls Try.prog 26 #[.pointer (some ⟨b, 0, none⟩), .int .i64 i] w fun x w' => x = .returned (.tuple #[.pointer (some ⟨b, 1 + i * 5, none⟩), .int .i64 0]) ∧ w = w' := by
  have h0 : ¬ ((i : Int) < 0) := by omega
  have h1 : (i : Int) < 4 := by omega
  have h1' : decide ((4 : Int) ≤ (i : Int)) = false := decide_eq_false (by omega)
  go_enter Try.func26, Try.ntmps26
  go_wp2
  go_ret2
  exact ⟨rfl, rfl⟩

theorem mthread_no (b : Nat) (th : Int) (h : ¬ (0 ≤ th ∧ th < 4)) (w : World) : Calls Try.prog 26 #[.pointer (some ⟨b, 0, none⟩), .int .i64 th] w fun x w' => x = .returned (.tuple #[.pointer none, .int .i64 2]) ∧ w = w' := by
  by_cases h0 : th < 0
  · go_enter Try.func26, Try.ntmps26
    go_wp2
    go_ret2
    exact ⟨rfl, rfl⟩
  · have h1 : (4 : Int) ≤ th := by omega
    go_enter Try.func26, Try.ntmps26
    go_wp2
    go_ret2
    exact ⟨rfl, rfl⟩

theorem mthread_nil (th : Int) (w : World) : Calls Try.prog 26 #[.pointer none, .int .i64 th] w fun x w' => x = .returned (.tuple #[.pointer none, .int .i64 1]) ∧ w = w' := by
  go_enter Try.func26, Try.ntmps26
  go_wp2
  go_ret2
  exact ⟨rfl, rfl⟩

end Go.Proofs.Ytgnfonimnlejbaa
