/-
  NARROWER THAN 'FOR EVERY INPUT', by the rows' own cells (each row's printed sentence says how): LockwordForms: laid · LockwordTurns: laid · LockwordBack: laid · LockwordRestores: laid · LockwordUnlike: laid.
  DERIVED. THE GIVEN ROWS OF THIS SEAT. 5 by the template 'for every input the law returns true; each argument reads behind the call as it read before'; 0 by the template 'total and deterministic' (their statements: YtlfopememcdccaaDoorTotals.lean).
  GIVEN WITH THE SEED: the statements are not yours to turn. If you find one false, say at which input.
  Laid BY PROGRAM, IN A SANDBOX (cutbox-rows.mjs): the forced cells as the released guide's own fill.sh prints them over the translation 604e79e596bd5d49… (all of the seat's roots in one cut). By AI agents, Wed Nov 11 2026. No macro, syntax, notation, axiom, sorry.
-/
import Derived.Test.YtlfopememcdccaaDoorChecked
import GoSem.Claim
import GoSem.ClaimJoined
import GoSem.ClaimMapViews
import Derived.JoinedTies
import Derived.KernelRfl
namespace Go.Proofs.YtlfopememcdccaaDoor
/- THE CELL 'sum', in the pinned program and in every row, IS THE sha256 OF THE DUMP (.gsa) THAT YtlfopememcdccaaDoorProg.lean LOADS. Nothing in Lean hashes anything: it is a label: what it is worth is what the hold of that sum in a sandbox is worth. -/
noncomputable def Tryd.pinned : Pinned := { name := "ytlfopememcdccaadoor", sum := "604e79e596bd5d49848a4d64b48740bcd261e905e6929b38a17741aa3efd7ad2", checked := Tryd.checked }
namespace Rows
def none {H : Type} : Left H := { results := [], args := [] }

/- WHAT THE LISTED PACKAGE-LEVEL VARIABLES READ AS WHEN THE CALL BEGINS. Each datum BY PROGRAM (the guide's laid-datum.mjs) off the statement by which the dump's own 'gosem.cut.vars' lays the variable. In a bare row this is a premise. The card (YtlfopememcdccaaDoorCards.lean) ties it to the program's text. -/
def laid_rowlock_lockword_shifts {H : Type} : DataW H := .agg [.lit (.int .u64 0), .lit (.int .u64 1), .lit (.int .u64 5)]

/-- 'rowlocklaw03.LockwordForms': WHATEVER THE INPUT: true; the input reads as it did. -/
def lockwordFormsSpec : ChangeSpec := { name := "lockwordForms", fn := fun _ => fun
  | [d1, d2, d3] => { results := [.lit (.bool true)], args := [d1, d2, d3] }
  | _ => none }
def lockwordFormsRow : OpenClaim := { program := "ytlfopememcdccaadoor", sum := "604e79e596bd5d49848a4d64b48740bcd261e905e6929b38a17741aa3efd7ad2", func := "rowlock/rowlocklaw03.LockwordForms", spec := "lockwordForms", named := ["rowlock/lockword.shifts"], apart := false, laid := [("rowlock/lockword.shifts", laid_rowlock_lockword_shifts)] }
def LockwordFormsSaid : Prop := lockwordFormsRow.holds Tryd.pinned (OpenSpec.ofChange lockwordFormsSpec)

/-- ITS FALSE NEIGHBOUR: 'it returns false'. Refute it at one input. -/
def lockwordFormsWrong : ChangeSpec := { name := "lockwordForms", fn := fun _ => fun
  | [d1, d2, d3] => { results := [.lit (.bool false)], args := [d1, d2, d3] }
  | _ => none }
def LockwordFormsWrongFalsely : Prop := lockwordFormsRow.holds Tryd.pinned (OpenSpec.ofChange lockwordFormsWrong)

/-- 'rowlocklaw03.LockwordTurns': WHATEVER THE INPUT: true; the input reads as it did. -/
def lockwordTurnsSpec : ChangeSpec := { name := "lockwordTurns", fn := fun _ => fun
  | [d1, d2, d3] => { results := [.lit (.bool true)], args := [d1, d2, d3] }
  | _ => none }
def lockwordTurnsRow : OpenClaim := { program := "ytlfopememcdccaadoor", sum := "604e79e596bd5d49848a4d64b48740bcd261e905e6929b38a17741aa3efd7ad2", func := "rowlock/rowlocklaw03.LockwordTurns", spec := "lockwordTurns", named := ["rowlock/lockword.shifts"], apart := false, laid := [("rowlock/lockword.shifts", laid_rowlock_lockword_shifts)] }
def LockwordTurnsSaid : Prop := lockwordTurnsRow.holds Tryd.pinned (OpenSpec.ofChange lockwordTurnsSpec)

/-- ITS FALSE NEIGHBOUR: 'it returns false'. Refute it at one input. -/
def lockwordTurnsWrong : ChangeSpec := { name := "lockwordTurns", fn := fun _ => fun
  | [d1, d2, d3] => { results := [.lit (.bool false)], args := [d1, d2, d3] }
  | _ => none }
def LockwordTurnsWrongFalsely : Prop := lockwordTurnsRow.holds Tryd.pinned (OpenSpec.ofChange lockwordTurnsWrong)

/-- 'rowlocklaw03.LockwordBack': WHATEVER THE INPUT: true; the input reads as it did. -/
def lockwordBackSpec : ChangeSpec := { name := "lockwordBack", fn := fun _ => fun
  | [d1, d2, d3] => { results := [.lit (.bool true)], args := [d1, d2, d3] }
  | _ => none }
def lockwordBackRow : OpenClaim := { program := "ytlfopememcdccaadoor", sum := "604e79e596bd5d49848a4d64b48740bcd261e905e6929b38a17741aa3efd7ad2", func := "rowlock/rowlocklaw03.LockwordBack", spec := "lockwordBack", named := ["rowlock/lockword.shifts"], apart := false, laid := [("rowlock/lockword.shifts", laid_rowlock_lockword_shifts)] }
def LockwordBackSaid : Prop := lockwordBackRow.holds Tryd.pinned (OpenSpec.ofChange lockwordBackSpec)

/-- ITS FALSE NEIGHBOUR: 'it returns false'. Refute it at one input. -/
def lockwordBackWrong : ChangeSpec := { name := "lockwordBack", fn := fun _ => fun
  | [d1, d2, d3] => { results := [.lit (.bool false)], args := [d1, d2, d3] }
  | _ => none }
def LockwordBackWrongFalsely : Prop := lockwordBackRow.holds Tryd.pinned (OpenSpec.ofChange lockwordBackWrong)

/-- 'rowlocklaw03.LockwordRestores': WHATEVER THE INPUT: true; the input reads as it did. -/
def lockwordRestoresSpec : ChangeSpec := { name := "lockwordRestores", fn := fun _ => fun
  | [d1, d2, d3] => { results := [.lit (.bool true)], args := [d1, d2, d3] }
  | _ => none }
def lockwordRestoresRow : OpenClaim := { program := "ytlfopememcdccaadoor", sum := "604e79e596bd5d49848a4d64b48740bcd261e905e6929b38a17741aa3efd7ad2", func := "rowlock/rowlocklaw03.LockwordRestores", spec := "lockwordRestores", named := ["rowlock/lockword.shifts"], apart := false, laid := [("rowlock/lockword.shifts", laid_rowlock_lockword_shifts)] }
def LockwordRestoresSaid : Prop := lockwordRestoresRow.holds Tryd.pinned (OpenSpec.ofChange lockwordRestoresSpec)

/-- ITS FALSE NEIGHBOUR: 'it returns false'. Refute it at one input. -/
def lockwordRestoresWrong : ChangeSpec := { name := "lockwordRestores", fn := fun _ => fun
  | [d1, d2, d3] => { results := [.lit (.bool false)], args := [d1, d2, d3] }
  | _ => none }
def LockwordRestoresWrongFalsely : Prop := lockwordRestoresRow.holds Tryd.pinned (OpenSpec.ofChange lockwordRestoresWrong)

/-- 'rowlocklaw03.LockwordUnlike': WHATEVER THE INPUT: true; the input reads as it did. -/
def lockwordUnlikeSpec : ChangeSpec := { name := "lockwordUnlike", fn := fun _ => fun
  | [d1, d2] => { results := [.lit (.bool true)], args := [d1, d2] }
  | _ => none }
def lockwordUnlikeRow : OpenClaim := { program := "ytlfopememcdccaadoor", sum := "604e79e596bd5d49848a4d64b48740bcd261e905e6929b38a17741aa3efd7ad2", func := "rowlock/rowlocklaw03.LockwordUnlike", spec := "lockwordUnlike", named := ["rowlock/lockword.shifts"], apart := false, laid := [("rowlock/lockword.shifts", laid_rowlock_lockword_shifts)] }
def LockwordUnlikeSaid : Prop := lockwordUnlikeRow.holds Tryd.pinned (OpenSpec.ofChange lockwordUnlikeSpec)

/-- ITS FALSE NEIGHBOUR: 'it returns false'. Refute it at one input. -/
def lockwordUnlikeWrong : ChangeSpec := { name := "lockwordUnlike", fn := fun _ => fun
  | [d1, d2] => { results := [.lit (.bool false)], args := [d1, d2] }
  | _ => none }
def LockwordUnlikeWrongFalsely : Prop := lockwordUnlikeRow.holds Tryd.pinned (OpenSpec.ofChange lockwordUnlikeWrong)

/- THE SECOND FORM. 'bulk': how many values and letters a reading holds, each counted each time it is reached (what is shared counts as often as it is met; a slice's spare places count too). A statement '..UptoSaid' is the law's where the arguments, and the package variables that the reading takes, are together of bulk at most 1048576: NARROWER than '..Said'. Prove '..Said' where nothing that the law and all that it calls make is longer than what came in: it says more and counts as full. Else prove '..UptoSaid'. A law counts once. -/
mutual
def uptoBulk {H : Type} : DataW H → Nat
  | .lit (.string bytes) => bytes.length + 1
  | .lit _ => 1
  | .nil => 1
  | .ptr d => uptoBulk d + 1
  | .slice elems spare => uptoBulkAll elems + uptoBulkAll spare + 1
  | .agg parts => uptoBulkAll parts + 1
  | .iface _ d => uptoBulk d + 1
  | .map entries => uptoBulkEntries entries + 1
  | .held _ => 1
def uptoBulkAll {H : Type} : List (DataW H) → Nat
  | [] => 0
  | d :: r => uptoBulk d + uptoBulkAll r
def uptoBulkEntries {H : Type} : List (Lit × DataW H) → Nat
  | [] => 0
  | x :: r => uptoBulkEntry x + uptoBulkEntries r
def uptoBulkEntry {H : Type} : Lit × DataW H → Nat
  | (.string bytes, d) => bytes.length + uptoBulk d + 1
  | (_, d) => uptoBulk d + 1
 end
def uptoSmall : (H : Type) → List (DataW H) → Bool := fun _ ds => decide (uptoBulkAll ds ≤ 1048576)
def OpenSpec.upto (s : _root_.Go.ChangeSpec) : _root_.Go.OpenSpec := { _root_.Go.OpenSpec.ofChange s with cond := some uptoSmall }

/-- 'rowlocklaw03.LockwordForms', WHERE WHAT IT READS IS OF BULK AT MOST 1048576: true; the input reads as it did. -/
def lockwordFormsUptoRow : OpenClaim := { program := "ytlfopememcdccaadoor", sum := "604e79e596bd5d49848a4d64b48740bcd261e905e6929b38a17741aa3efd7ad2", func := "rowlock/rowlocklaw03.LockwordForms", spec := "lockwordForms", named := ["rowlock/lockword.shifts"], apart := false, laid := [("rowlock/lockword.shifts", laid_rowlock_lockword_shifts)], narrowed := true }
def LockwordFormsUptoSaid : Prop := lockwordFormsUptoRow.holds Tryd.pinned (OpenSpec.upto lockwordFormsSpec)

/-- 'rowlocklaw03.LockwordTurns', WHERE WHAT IT READS IS OF BULK AT MOST 1048576: true; the input reads as it did. -/
def lockwordTurnsUptoRow : OpenClaim := { program := "ytlfopememcdccaadoor", sum := "604e79e596bd5d49848a4d64b48740bcd261e905e6929b38a17741aa3efd7ad2", func := "rowlock/rowlocklaw03.LockwordTurns", spec := "lockwordTurns", named := ["rowlock/lockword.shifts"], apart := false, laid := [("rowlock/lockword.shifts", laid_rowlock_lockword_shifts)], narrowed := true }
def LockwordTurnsUptoSaid : Prop := lockwordTurnsUptoRow.holds Tryd.pinned (OpenSpec.upto lockwordTurnsSpec)

/-- 'rowlocklaw03.LockwordBack', WHERE WHAT IT READS IS OF BULK AT MOST 1048576: true; the input reads as it did. -/
def lockwordBackUptoRow : OpenClaim := { program := "ytlfopememcdccaadoor", sum := "604e79e596bd5d49848a4d64b48740bcd261e905e6929b38a17741aa3efd7ad2", func := "rowlock/rowlocklaw03.LockwordBack", spec := "lockwordBack", named := ["rowlock/lockword.shifts"], apart := false, laid := [("rowlock/lockword.shifts", laid_rowlock_lockword_shifts)], narrowed := true }
def LockwordBackUptoSaid : Prop := lockwordBackUptoRow.holds Tryd.pinned (OpenSpec.upto lockwordBackSpec)

/-- 'rowlocklaw03.LockwordRestores', WHERE WHAT IT READS IS OF BULK AT MOST 1048576: true; the input reads as it did. -/
def lockwordRestoresUptoRow : OpenClaim := { program := "ytlfopememcdccaadoor", sum := "604e79e596bd5d49848a4d64b48740bcd261e905e6929b38a17741aa3efd7ad2", func := "rowlock/rowlocklaw03.LockwordRestores", spec := "lockwordRestores", named := ["rowlock/lockword.shifts"], apart := false, laid := [("rowlock/lockword.shifts", laid_rowlock_lockword_shifts)], narrowed := true }
def LockwordRestoresUptoSaid : Prop := lockwordRestoresUptoRow.holds Tryd.pinned (OpenSpec.upto lockwordRestoresSpec)

/-- 'rowlocklaw03.LockwordUnlike', WHERE WHAT IT READS IS OF BULK AT MOST 1048576: true; the input reads as it did. -/
def lockwordUnlikeUptoRow : OpenClaim := { program := "ytlfopememcdccaadoor", sum := "604e79e596bd5d49848a4d64b48740bcd261e905e6929b38a17741aa3efd7ad2", func := "rowlock/rowlocklaw03.LockwordUnlike", spec := "lockwordUnlike", named := ["rowlock/lockword.shifts"], apart := false, laid := [("rowlock/lockword.shifts", laid_rowlock_lockword_shifts)], narrowed := true }
def LockwordUnlikeUptoSaid : Prop := lockwordUnlikeUptoRow.holds Tryd.pinned (OpenSpec.upto lockwordUnlikeSpec)

end Rows
end Go.Proofs.YtlfopememcdccaaDoor
