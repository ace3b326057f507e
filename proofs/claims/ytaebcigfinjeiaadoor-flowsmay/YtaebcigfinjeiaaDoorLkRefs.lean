/-
  THE DOCUMENT's Lock, Unlock, Down, Up BY THEIR CONTRACTS. Written by mklk2.py.
-/
import Derived.Test.YtaebcigfinjeiaaDoorLkCalls
namespace Go.Proofs.YtaebcigfinjeiaaDoor
set_option linter.unusedVariables false
set_option linter.unusedSimpArgs false
open Go.RowKit
attribute [local go_sem] Oper.semAt_some

theorem lock_body (t u : Int) : bodyL (lockB t u) = [insO 21 6, insO 4 t, insO 20 4, insO 26 0, insP (1 + u), insO 5 t, insO 22 0] := by simp [bodyL, lockB]
theorem unlock_body (t u : Int) : bodyL (unlockB t u) = [insO 21 10, insO 4 t, insP (1 + u), insO 14 0, insO 20 9, insP (0), insO 5 t, insP (1), insO 19 10, insP (0), insO 22 0] := by simp [bodyL, unlockB]
theorem down_body (t : Int) : bodyL (downB t) = [insO 21 9, insO 4 t, insO 16 0, insO 20 8, insP (1), insO 9 0, insO 5 t, insO 19 9, insO 26 0, insO 22 0] := by simp [bodyL, downB]
theorem up_body (t : Int) : bodyL (upB t) = [insO 21 5, insO 4 t, insP (1), insO 8 0, insO 5 t, insO 22 0] := by simp [bodyL, upB]
end Go.Proofs.YtaebcigfinjeiaaDoor
