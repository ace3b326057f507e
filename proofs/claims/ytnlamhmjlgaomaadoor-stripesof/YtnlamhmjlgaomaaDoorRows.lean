/-
  NARROWER THAN 'FOR EVERY INPUT', by the rows' own cells (each row's printed sentence says how): StripesOf: laid · TopGuarded: laid.
  DERIVED. THE GIVEN ROWS OF THIS SEAT. 2 by the template 'for every input the law returns true; each argument reads behind the call as it read before'; 0 by the template 'total and deterministic' (their statements: YtnlamhmjlgaomaaDoorTotals.lean).
  GIVEN WITH THE SEED: the statements are not yours to turn. If you find one false, say at which input.
  Laid BY PROGRAM, IN A SANDBOX (cutbox-rows.mjs): the forced cells as the released guide's own fill.sh prints them over the translation 744b0201c35e19dc… (all of the seat's roots in one cut). By AI agents, Wed Nov 11 2026. No macro, syntax, notation, axiom, sorry.
-/
import Derived.Test.YtnlamhmjlgaomaaDoorChecked
import GoSem.Claim
import GoSem.ClaimJoined
import GoSem.ClaimMapViews
import Derived.JoinedTies
import Derived.KernelRfl
namespace Go.Proofs.YtnlamhmjlgaomaaDoor
/- THE CELL 'sum', in the pinned program and in every row, IS THE sha256 OF THE DUMP (.gsa) THAT YtnlamhmjlgaomaaDoorProg.lean LOADS. Nothing in Lean hashes anything: it is a label: what it is worth is what the hold of that sum in a sandbox is worth. -/
noncomputable def Tryd.pinned : Pinned := { name := "ytnlamhmjlgaomaadoor", sum := "744b0201c35e19dc8fffacd5a4701fea0e1470ce72e41245d4ee5b0c2344fbc9", checked := Tryd.checked }
namespace Rows
def none {H : Type} : Left H := { results := [], args := [] }

/- WHAT THE LISTED PACKAGE-LEVEL VARIABLES READ AS WHEN THE CALL BEGINS. Each datum BY PROGRAM (the guide's laid-datum.mjs) off the statement by which the dump's own 'gosem.cut.vars' lays the variable. In a bare row this is a premise. The card (YtnlamhmjlgaomaaDoorCards.lean) ties it to the program's text. -/
def laid_rowlock_lockword_shifts {H : Type} : DataW H := .agg [.lit (.int .u64 0), .lit (.int .u64 1), .lit (.int .u64 5)]

/-- 'rowlocklaw04.StripesOf': WHATEVER THE INPUT: true; the input reads as it did. -/
def stripesOfSpec : ChangeSpec := { name := "stripesOf", fn := fun _ => fun
  | [d1, d2, d3] => { results := [.lit (.bool true)], args := [d1, d2, d3] }
  | _ => none }
def stripesOfRow : OpenClaim := { program := "ytnlamhmjlgaomaadoor", sum := "744b0201c35e19dc8fffacd5a4701fea0e1470ce72e41245d4ee5b0c2344fbc9", func := "rowlock/rowlocklaw04.StripesOf", spec := "stripesOf", unfollowed := true, recurses := true, named := ["rowlock/lockword.shifts"], apart := false, laid := [("rowlock/lockword.shifts", laid_rowlock_lockword_shifts)] }
def StripesOfSaid : Prop := stripesOfRow.holds Tryd.pinned (OpenSpec.ofChange stripesOfSpec)

/-- ITS FALSE NEIGHBOUR: 'it returns false'. Refute it at one input. -/
def stripesOfWrong : ChangeSpec := { name := "stripesOf", fn := fun _ => fun
  | [d1, d2, d3] => { results := [.lit (.bool false)], args := [d1, d2, d3] }
  | _ => none }
def StripesOfWrongFalsely : Prop := stripesOfRow.holds Tryd.pinned (OpenSpec.ofChange stripesOfWrong)

/-- 'rowlocktop.TopGuarded': WHATEVER THE INPUT: true; the input reads as it did. -/
def topGuardedSpec : ChangeSpec := { name := "topGuarded", fn := fun _ => fun
  | [d1, d2] => { results := [.lit (.bool true)], args := [d1, d2] }
  | _ => none }
def topGuardedRow : OpenClaim := { program := "ytnlamhmjlgaomaadoor", sum := "744b0201c35e19dc8fffacd5a4701fea0e1470ce72e41245d4ee5b0c2344fbc9", func := "rowlock/rowlocktop.TopGuarded", spec := "topGuarded", unfollowed := true, recurses := true, named := ["rowlock/lockword.shifts"], apart := false, laid := [("rowlock/lockword.shifts", laid_rowlock_lockword_shifts)] }
def TopGuardedSaid : Prop := topGuardedRow.holds Tryd.pinned (OpenSpec.ofChange topGuardedSpec)

/-- ITS FALSE NEIGHBOUR: 'it returns false'. Refute it at one input. -/
def topGuardedWrong : ChangeSpec := { name := "topGuarded", fn := fun _ => fun
  | [d1, d2] => { results := [.lit (.bool false)], args := [d1, d2] }
  | _ => none }
def TopGuardedWrongFalsely : Prop := topGuardedRow.holds Tryd.pinned (OpenSpec.ofChange topGuardedWrong)

/- THE SECOND FORM. 'bulk': how many values and letters a reading holds, each counted each time it is reached (what is shared counts as often as it is met; a slice's spare places count too). A statement '..UptoSaid' is the law's where the arguments, and the package variables that the reading takes, are together of bulk at most 1048576: NARROWER than '..Said'. Prove '..Said' where nothing that the law and all that it calls make is longer than what came in: it says more and counts as full. Else prove '..UptoSaid'. A law counts once. -/
mutual
def uptoBulk {H : Type} : DataW H → Nat
  | .lit (.string bytes) => bytes.length + 1
  | .lit _ => 1
  | .nil => 1
  | .ptr d => uptoBulk d + 1
  | .slice elems spare => uptoBulkAll elems + uptoBulkAll spare + 1
  | .agg parts => uptoBulkAll parts + 1
  | .iface _ d => uptoBulk d + 1
  | .map entries => uptoBulkEntries entries + 1
  | .held _ => 1
def uptoBulkAll {H : Type} : List (DataW H) → Nat
  | [] => 0
  | d :: r => uptoBulk d + uptoBulkAll r
def uptoBulkEntries {H : Type} : List (Lit × DataW H) → Nat
  | [] => 0
  | x :: r => uptoBulkEntry x + uptoBulkEntries r
def uptoBulkEntry {H : Type} : Lit × DataW H → Nat
  | (.string bytes, d) => bytes.length + uptoBulk d + 1
  | (_, d) => uptoBulk d + 1
 end
def uptoSmall : (H : Type) → List (DataW H) → Bool := fun _ ds => decide (uptoBulkAll ds ≤ 1048576)
def OpenSpec.upto (s : _root_.Go.ChangeSpec) : _root_.Go.OpenSpec := { _root_.Go.OpenSpec.ofChange s with cond := some uptoSmall }

/-- 'rowlocklaw04.StripesOf', WHERE WHAT IT READS IS OF BULK AT MOST 1048576: true; the input reads as it did. -/
def stripesOfUptoRow : OpenClaim := { program := "ytnlamhmjlgaomaadoor", sum := "744b0201c35e19dc8fffacd5a4701fea0e1470ce72e41245d4ee5b0c2344fbc9", func := "rowlock/rowlocklaw04.StripesOf", spec := "stripesOf", unfollowed := true, recurses := true, named := ["rowlock/lockword.shifts"], apart := false, laid := [("rowlock/lockword.shifts", laid_rowlock_lockword_shifts)], narrowed := true }
def StripesOfUptoSaid : Prop := stripesOfUptoRow.holds Tryd.pinned (OpenSpec.upto stripesOfSpec)

/-- 'rowlocktop.TopGuarded', WHERE WHAT IT READS IS OF BULK AT MOST 1048576: true; the input reads as it did. -/
def topGuardedUptoRow : OpenClaim := { program := "ytnlamhmjlgaomaadoor", sum := "744b0201c35e19dc8fffacd5a4701fea0e1470ce72e41245d4ee5b0c2344fbc9", func := "rowlock/rowlocktop.TopGuarded", spec := "topGuarded", unfollowed := true, recurses := true, named := ["rowlock/lockword.shifts"], apart := false, laid := [("rowlock/lockword.shifts", laid_rowlock_lockword_shifts)], narrowed := true }
def TopGuardedUptoSaid : Prop := topGuardedUptoRow.holds Tryd.pinned (OpenSpec.upto topGuardedSpec)

end Rows
end Go.Proofs.YtnlamhmjlgaomaaDoor
