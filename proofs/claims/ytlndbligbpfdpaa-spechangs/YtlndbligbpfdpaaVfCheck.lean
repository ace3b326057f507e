/-
  package verify: Check BY ITS CONTRACT.
-/
import Derived.Test.YtlndbligbpfdpaaVfRch
import Derived.Test.YtlndbligbpfdpaaCdRight
namespace Go.Proofs.Ytlndbligbpfdpaa
set_option linter.unusedVariables false
set_option linter.unusedSimpArgs false
open Go.RowKit
attribute [local go_sem] Oper.semAt_some

def fbad (p : Nat → Bool) (N : Nat) : Option Nat := (List.range N).find? fun k => !p k
theorem fbad_some {p : Nat → Bool} {N k : Nat} (hk : k < N) (h : ∀ j < k, p j = true) (hp : p k = false) : fbad p N = some k := by
  unfold fbad
  rw [List.find?_eq_some_iff_getElem]
  exact ⟨by simp [hp], k, by simpa using hk, by simp, fun j hj => by simp [h j hj]⟩
theorem fbad_none {p : Nat → Bool} {N : Nat} (h : ∀ j < N, p j = true) : fbad p N = none := by
  unfold fbad
  rw [List.find?_eq_none]
  intro j hj
  simp [h j (by simpa using hj)]
def okRight (l : List InsD) (k : Nat) : Bool := match l[k]? with | some i => rightI i | none => true
def okBel (l : List InsD) (k : Nat) : Bool := belV (opAt l k) ((insV l l.length).getD k 0 != -1)
/-- What Check answers: the place, the error. -/
def chkV (l : List InsD) (tvars : Int) : Nat × Int :=
  if l.length = 0 ∨ 64 < l.length then (0, 3) else match fbad (okRight l) l.length with
  | some k => (k, 3)
  | none => match regV l with
    | some k => (k, 8)
    | none => match fbad (okBel l) l.length with
      | some k => (k, 8)
      | none => match fbad (rchV l (insV l l.length) tvars) l.length with
        | some k => (k, 2)
        | none => ((depV l).2.1, (depV l).1)
/-- What Check leaves. -/
def ChkPost (w : World) (l : List InsD) (tvars : Int) (e : Ending) (w' : World) : Prop := e = .returned (.tuple #[.int .i64 (chkV l tvars).1, .int .i64 (chkV l tvars).2]) ∧ Touch w w' []

end Go.Proofs.Ytlndbligbpfdpaa
