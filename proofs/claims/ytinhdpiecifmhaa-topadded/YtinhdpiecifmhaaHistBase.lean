/-
  package history: EVENTS AS PLAIN DATA; need, reached, needNamed, note BY THEIR CONTRACTS.
-/
import Derived.Test.YtinhdpiecifmhaaWritesOps
import Derived.Test.YtinhdpiecifmhaaIntMap
namespace Go.Proofs.Ytinhdpiecifmhaa
set_option linter.unusedVariables false
set_option linter.unusedSimpArgs false
open Go.RowKit Go.Maps
attribute [local go_sem] Oper.semAt_some

/-- An event: its kind, its attempt, its variable, its value. -/
structure EvD where
  k : Int
  a : Int
  t : Int
  v : Int
def EvD.cells (e : EvD) : List Value := [.int .u8 e.k, .int .i64 e.a, .int .i64 e.t, .int .u64 e.v]
abbrev EvD.val (e : EvD) : Value := .agg #[.int .u8 e.k, .int .i64 e.a, .int .i64 e.t, .int .u64 e.v]
abbrev EvD.obj (e : EvD) : Obj := .cells #[.int .u8 e.k, .int .i64 e.a, .int .i64 e.t, .int .u64 e.v] 107 (0, 0)
structure EvD.Wf (e : EvD) : Prop where
  k : 0 ≤ e.k ∧ e.k ≤ 255
  a : W64 e.a
  t : W64 e.t
  v : Wf64 e.v

/-- How far one is behind an event. -/
def reachS (k was : Int) : Int := if k = 7 then 2 else if k = 8 then 3 else if k = 9 then 4 else was
/-- What an event does to a log. -/
def noteS (Fs : List Fr) (e : EvD) : Int × List Fr := if e.k = 3 then putS Fs e.t e.v else if e.k = 4 then pushS Fs else if e.k = 5 then dropS Fs else if e.k = 6 then mergeS Fs else (0, Fs)

/-- Whether the variable and the value can be those of its kind. -/
def namedS (e : EvD) : Bool := (decide (e.k = 2) || decide (e.k = 3) || (decide (e.t = 0) && decide (e.v = 0))) && (decide (0 ≤ e.t) && decide (e.t < 12) && rightB e.v)


end Go.Proofs.Ytinhdpiecifmhaa
