/-
  package calls: WHAT A PROGRAM OF CALLS IS, as plain data.
-/
import Derived.Test.YtcbkafbchpjnoaaGreatDoorLkRefs
import Derived.Test.YtcbkafbchpjnoaaGreatDoorFlRefs
namespace Go.Proofs.YtcbkafbchpjnoaaGreatDoor
set_option linter.unusedVariables false
set_option linter.unusedSimpArgs false
open Go.RowKit

/-- A call: its kind, its thread, its value. -/
structure CaD where
  k : Int
  u : Int
  v : Int
def CaD.cells (c : CaD) : List Value := [.int .u8 c.k, .int .i64 c.u, .int .u64 c.v]
def CaD.val (c : CaD) : Value := .agg #[.int .u8 c.k, .int .i64 c.u, .int .u64 c.v]
structure CaD.Wf (c : CaD) : Prop where
  k : 0 ≤ c.k ∧ c.k ≤ 255
  u : -9223372036854775808 ≤ c.u ∧ c.u ≤ 9223372036854775807
  v : Wf64 c.v

def okO (k n : Int) : Bool := (decide (k = 1) && decide (n = 0)) || ((decide (k = 2) && (decide (0 ≤ n) && decide (n ≤ 9))) || ((decide (k = 3) && (decide (1 ≤ n) && decide (n ≤ 4))) || (decide (k = 4) && (decide (1 ≤ n) && decide (n ≤ 4)))))
def tksP (k c : Int) : Bool := if k = 1 then decide (c = 1) || decide (c = 2) else if k = 2 then decide (c = 3) || decide (c = 4) else if k = 3 then decide (c = 5) || decide (c = 6) else decide (c = 7) || decide (c = 8)
def tvN (k n : Int) : Int := if okO k n then (if k = 3 then n + 2 else if k = 4 then 2 else 1) else 0
def fitC (c : CaD) : Bool := if c.k = 5 ∨ c.k = 8 then rightB c.v else decide (c.v = 0)
def areC (k u : Int) (c : CaD) : Bool := tksP k c.k && (decide (c.u = u) && fitC c)

def lenC (k : Int) : Nat := if k = 1 then 7 else if k = 2 then 11 else if k = 3 then 10 else if k = 4 then 6 else if k = 5 then 23 else if k = 6 then 24 else if k = 7 then 19 else 8
def blkC (n t a : Int) (c : CaD) : List InsD :=
  if c.k = 1 then blkL a (lockB t c.u) else if c.k = 2 then blkL a (unlockB t c.u) else if c.k = 3 then blkL a (downB t) else if c.k = 4 then blkL a (upB t) else if c.k = 5 then enterI a t n 0 c.v else if c.k = 6 then takeI a t n 0 0 else if c.k = 7 then arriveI a t n 0 0 else leaveI a t 0 0 0
theorem blkC_len (n t a : Int) (c : CaD) : (blkC n t a c).length = lenC c.k := by
  unfold blkC lenC
  repeat' split
  all_goals first | rfl | (exfalso; omega)
def ahdC (c : CaD) : List InsD := if c.k = 8 then [⟨1, 0, c.v⟩, insO 3 0] else []
def ansC (k : Int) : List InsD := if k = 2 ∨ k = 6 ∨ k = 7 then [insO 27 0] else [insP 1, insO 27 0]
/-- A call's part behind what is there. -/
def stepC (n t : Int) (acc : List InsD) (c : CaD) : List InsD := acc ++ ahdC c ++ blkC n t ((acc ++ ahdC c).length : Nat) c ++ ansC c.k
theorem stepC_len (n t : Int) (acc : List InsD) (c : CaD) : (stepC n t acc c).length = acc.length + (ahdC c).length + lenC c.k + (ansC c.k).length := by
  unfold stepC; simp only [List.length_append, blkC_len]
/-- The program behind what is there; none: no room. -/
def runC (n t : Int) : List CaD → List InsD → Option (List InsD)
  | [], acc => if acc.length + 1 > 64 then none else some (acc ++ [insO 28 0])
  | c :: l, acc => if (stepC n t acc c).length > 64 then none else runC n t l (stepC n t acc c)
theorem runC_full (n t : Int) : ∀ (l : List CaD) (acc : List InsD), 64 ≤ acc.length → runC n t l acc = none
  | [], acc, h => by unfold runC; rw [if_pos (by omega)]
  | c :: l, acc, h => by
    have := stepC_len n t acc c
    have h0 : 0 < lenC c.k := by unfold lenC; repeat' split
                                 all_goals omega
    unfold runC
    rw [if_pos (by omega)]
theorem runC_len (n t : Int) : ∀ (l : List CaD) (acc P : List InsD), runC n t l acc = some P → P.length ≤ 64
  | [], acc, P, h => by
    unfold runC at h
    split at h
    · cases h
    · cases h; rw [List.length_append, List.length_singleton]; omega
  | c :: l, acc, P, h => by
    unfold runC at h
    split at h
    · cases h
    · exact runC_len n t l _ P h
/-- What Program comes to. -/
def proE (k n t u : Int) (l : List CaD) : Int :=
  if okO k n && l.all (areC k u) then (if (decide (0 ≤ t) && decide (t ≤ 12 - tvN k n)) && (decide (0 ≤ u) && decide (u ≤ 3)) then (if (runC n t l []).isSome then 0 else 4) else 2) else 3
def proL (n t : Int) (l : List CaD) : List InsD := (runC n t l []).getD []

end Go.Proofs.YtcbkafbchpjnoaaGreatDoor
