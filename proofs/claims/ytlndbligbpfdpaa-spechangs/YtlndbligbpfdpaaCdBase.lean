/-
  package code: AN INSTRUCTION; Uses, highest, width, Right BY THEIR CONTRACTS.
-/
import Derived.Test.YtlndbligbpfdpaaReadsVal
namespace Go.Proofs.Ytlndbligbpfdpaa
set_option linter.unusedVariables false
set_option linter.unusedSimpArgs false
open Go.RowKit
attribute [local go_sem] Oper.semAt_some

/-- A contract, hidden. -/
structure HidC (P : Program) (f : Nat) (a : Array Value) (w : World) (Q : Ending → World → Prop) : Prop where
  out : Calls P f a w Q

/-- An instruction: its operation, its Arg, its Val. -/
structure InsD where
  op : Int
  arg : Int
  val : Int
abbrev InsD.v (i : InsD) : Value := .agg #[.int .u8 i.op, .int .i64 i.arg, .int .u64 i.val]
def InsD.cells (i : InsD) : List Value := [.int .u8 i.op, .int .i64 i.arg, .int .u64 i.val]
structure InsD.Wf (i : InsD) : Prop where
  op : 0 ≤ i.op ∧ i.op ≤ 255
  arg : -9223372036854775808 ≤ i.arg ∧ i.arg ≤ 9223372036854775807
  val : Wf64 i.val

/-- Which have an Arg; which a Val. -/
def argP (o : Int) : Bool := decide (o = 2 ∨ o = 3 ∨ o = 4 ∨ o = 5 ∨ o = 6 ∨ o = 7 ∨ o = 19 ∨ o = 20 ∨ o = 21 ∨ o = 23 ∨ o = 24)
def valP (o : Int) : Bool := decide (o = 1)
theorem op_cases (o : Int) : o = 1 ∨ o = 2 ∨ o = 3 ∨ o = 4 ∨ o = 5 ∨ o = 6 ∨ o = 7 ∨ o = 19 ∨ o = 20 ∨ o = 21 ∨ o = 23 ∨ o = 24 ∨ (o ≠ 1 ∧ o ≠ 2 ∧ o ≠ 3 ∧ o ≠ 4 ∧ o ≠ 5 ∧ o ≠ 6 ∧ o ≠ 7 ∧ o ≠ 19 ∧ o ≠ 20 ∧ o ≠ 21 ∧ o ≠ 23 ∧ o ≠ 24) := by omega

set_option maxRecDepth 100000 in
set_option maxHeartbeats 2000000 in
theorem uses_any (o : Int) (w : World) : Calls Try.prog 82 #[.int .u8 o] w fun e w' => e = .returned (.tuple #[.bool (argP o), .bool (valP o)]) ∧ w = w' := by
  rcases op_cases o with rfl | rfl | rfl | rfl | rfl | rfl | rfl | rfl | rfl | rfl | rfl | rfl | ⟨h1, h2, h3, h4, h5, h6, h7, h19, h20, h21, h23, h24⟩
  · show Calls _ _ _ _ fun e w' => e = .returned (.tuple #[.bool false, .bool true]) ∧ w = w'
    go_enter Try.func82, Try.ntmps82
    go_wp2
    refine bodyPost_ret (v := .tuple #[.bool false, .bool true]) (by simp [results, Try.results82, go_sem]) rfl ?_
    exact ⟨rfl, rfl⟩
  · show Calls _ _ _ _ fun e w' => e = .returned (.tuple #[.bool true, .bool false]) ∧ w = w'
    go_enter Try.func82, Try.ntmps82
    go_wp2
    refine bodyPost_ret (v := .tuple #[.bool true, .bool false]) (by simp [results, Try.results82, go_sem]) rfl ?_
    exact ⟨rfl, rfl⟩
  · show Calls _ _ _ _ fun e w' => e = .returned (.tuple #[.bool true, .bool false]) ∧ w = w'
    go_enter Try.func82, Try.ntmps82
    go_wp2
    refine bodyPost_ret (v := .tuple #[.bool true, .bool false]) (by simp [results, Try.results82, go_sem]) rfl ?_
    exact ⟨rfl, rfl⟩
  · show Calls _ _ _ _ fun e w' => e = .returned (.tuple #[.bool true, .bool false]) ∧ w = w'
    go_enter Try.func82, Try.ntmps82
    go_wp2
    refine bodyPost_ret (v := .tuple #[.bool true, .bool false]) (by simp [results, Try.results82, go_sem]) rfl ?_
    exact ⟨rfl, rfl⟩
  · show Calls _ _ _ _ fun e w' => e = .returned (.tuple #[.bool true, .bool false]) ∧ w = w'
    go_enter Try.func82, Try.ntmps82
    go_wp2
    refine bodyPost_ret (v := .tuple #[.bool true, .bool false]) (by simp [results, Try.results82, go_sem]) rfl ?_
    exact ⟨rfl, rfl⟩
  · show Calls _ _ _ _ fun e w' => e = .returned (.tuple #[.bool true, .bool false]) ∧ w = w'
    go_enter Try.func82, Try.ntmps82
    go_wp2
    refine bodyPost_ret (v := .tuple #[.bool true, .bool false]) (by simp [results, Try.results82, go_sem]) rfl ?_
    exact ⟨rfl, rfl⟩
  · show Calls _ _ _ _ fun e w' => e = .returned (.tuple #[.bool true, .bool false]) ∧ w = w'
    go_enter Try.func82, Try.ntmps82
    go_wp2
    refine bodyPost_ret (v := .tuple #[.bool true, .bool false]) (by simp [results, Try.results82, go_sem]) rfl ?_
    exact ⟨rfl, rfl⟩
  · show Calls _ _ _ _ fun e w' => e = .returned (.tuple #[.bool true, .bool false]) ∧ w = w'
    go_enter Try.func82, Try.ntmps82
    go_wp2
    refine bodyPost_ret (v := .tuple #[.bool true, .bool false]) (by simp [results, Try.results82, go_sem]) rfl ?_
    exact ⟨rfl, rfl⟩
  · show Calls _ _ _ _ fun e w' => e = .returned (.tuple #[.bool true, .bool false]) ∧ w = w'
    go_enter Try.func82, Try.ntmps82
    go_wp2
    refine bodyPost_ret (v := .tuple #[.bool true, .bool false]) (by simp [results, Try.results82, go_sem]) rfl ?_
    exact ⟨rfl, rfl⟩
  · show Calls _ _ _ _ fun e w' => e = .returned (.tuple #[.bool true, .bool false]) ∧ w = w'
    go_enter Try.func82, Try.ntmps82
    go_wp2
    refine bodyPost_ret (v := .tuple #[.bool true, .bool false]) (by simp [results, Try.results82, go_sem]) rfl ?_
    exact ⟨rfl, rfl⟩
  · show Calls _ _ _ _ fun e w' => e = .returned (.tuple #[.bool true, .bool false]) ∧ w = w'
    go_enter Try.func82, Try.ntmps82
    go_wp2
    refine bodyPost_ret (v := .tuple #[.bool true, .bool false]) (by simp [results, Try.results82, go_sem]) rfl ?_
    exact ⟨rfl, rfl⟩
  · show Calls _ _ _ _ fun e w' => e = .returned (.tuple #[.bool true, .bool false]) ∧ w = w'
    go_enter Try.func82, Try.ntmps82
    go_wp2
    refine bodyPost_ret (v := .tuple #[.bool true, .bool false]) (by simp [results, Try.results82, go_sem]) rfl ?_
    exact ⟨rfl, rfl⟩
  have ea : argP o = false := by simp [argP, *]
  have ev : valP o = false := by simp [valP, *]
  rw [ea, ev]
  go_enter Try.func82, Try.ntmps82
  go_wp2
  refine bodyPost_ret (v := .tuple #[.bool false, .bool false]) (by simp [results, Try.results82, go_sem]) rfl ?_
  exact ⟨rfl, rfl⟩

def highP (o : Int) : Int := if o = 2 ∨ o = 3 then 3 else if o = 4 ∨ o = 5 ∨ o = 6 ∨ o = 7 then 11 else 63
set_option maxRecDepth 100000 in
theorem highest_any (o : Int) (w : World) : Calls Try.prog 83 #[.int .u8 o] w fun e w' => e = .returned (.int .i64 (highP o)) ∧ w = w' := by
  rcases (show o = 2 ∨ o = 3 ∨ o = 4 ∨ o = 5 ∨ o = 6 ∨ o = 7 ∨ (o ≠ 2 ∧ o ≠ 3 ∧ o ≠ 4 ∧ o ≠ 5 ∧ o ≠ 6 ∧ o ≠ 7) by omega) with rfl | rfl | rfl | rfl | rfl | rfl | ⟨h2, h3, h4, h5, h6, h7⟩
  all_goals try (
    go_enter Try.func83, Try.ntmps83
    go_wp2
    go_ret
    exact ⟨rfl, rfl⟩)
  have e : highP o = 63 := by simp [highP, *]
  rw [e]
  go_enter Try.func83, Try.ntmps83
  go_wp2
  go_ret
  exact ⟨rfl, rfl⟩

def widthP (o : Int) : Nat := 1 + (if argP o then 1 else 0) + (if valP o then 8 else 0)

/-- Is an instruction right? -/
def rightI (i : InsD) : Bool := decide (i.op ≤ 28) && (argP i.op || i.arg == 0) && (valP i.op || i.val == 0) && decide (0 ≤ i.arg) && decide (i.arg ≤ highP i.op) && rightB i.val

end Go.Proofs.Ytlndbligbpfdpaa
