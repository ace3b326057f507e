/-
  NARROWER THAN 'FOR EVERY INPUT', by the rows' own cells (each row's printed sentence says how): StripesPlays: laid · StripesRise: laid · StripesOne: laid · StripesForks: laid.
  DERIVED. THE GIVEN ROWS OF THIS SEAT. 4 by the template 'for every input the law returns true; each argument reads behind the call as it read before'; 0 by the template 'total and deterministic' (their statements: YthkphhjhgkclfaaDoorTotals.lean).
  GIVEN WITH THE SEED: the statements are not yours to turn. If you find one false, say at which input.
  Laid BY PROGRAM, IN A SANDBOX (cutbox-rows.mjs): the forced cells as the released guide's own fill.sh prints them over the translation 7869aeab6382257f… (all of the seat's roots in one cut). By AI agents, Wed Nov 11 2026. No macro, syntax, notation, axiom, sorry.
-/
import Derived.Test.YthkphhjhgkclfaaDoorChecked
import GoSem.Claim
import GoSem.ClaimJoined
import GoSem.ClaimMapViews
import Derived.JoinedTies
import Derived.KernelRfl
namespace Go.Proofs.YthkphhjhgkclfaaDoor
/- THE CELL 'sum', in the pinned program and in every row, IS THE sha256 OF THE DUMP (.gsa) THAT YthkphhjhgkclfaaDoorProg.lean LOADS. Nothing in Lean hashes anything: it is a label: what it is worth is what the hold of that sum in a sandbox is worth. -/
noncomputable def Tryd.pinned : Pinned := { name := "ythkphhjhgkclfaadoor", sum := "7869aeab6382257f60afbb421bc0a989acb1f8b2647ff3aa0a6211e3d7a250da", checked := Tryd.checked }
namespace Rows
def none {H : Type} : Left H := { results := [], args := [] }

/- WHAT THE LISTED PACKAGE-LEVEL VARIABLES READ AS WHEN THE CALL BEGINS. Each datum BY PROGRAM (the guide's laid-datum.mjs) off the statement by which the dump's own 'gosem.cut.vars' lays the variable. In a bare row this is a premise. The card (YthkphhjhgkclfaaDoorCards.lean) ties it to the program's text. -/
def laid_rowlock_lockword_shifts {H : Type} : DataW H := .agg [.lit (.int .u64 0), .lit (.int .u64 1), .lit (.int .u64 5)]

/-- 'rowlocklaw04.StripesPlays': WHATEVER THE INPUT: true; the input reads as it did. -/
def stripesPlaysSpec : ChangeSpec := { name := "stripesPlays", fn := fun _ => fun
  | [d1, d2] => { results := [.lit (.bool true)], args := [d1, d2] }
  | _ => none }
def stripesPlaysRow : OpenClaim := { program := "ythkphhjhgkclfaadoor", sum := "7869aeab6382257f60afbb421bc0a989acb1f8b2647ff3aa0a6211e3d7a250da", func := "rowlock/rowlocklaw04.StripesPlays", spec := "stripesPlays", unfollowed := true, recurses := true, named := ["rowlock/lockword.shifts"], apart := false, laid := [("rowlock/lockword.shifts", laid_rowlock_lockword_shifts)] }
def StripesPlaysSaid : Prop := stripesPlaysRow.holds Tryd.pinned (OpenSpec.ofChange stripesPlaysSpec)

/-- ITS FALSE NEIGHBOUR: 'it returns false'. Refute it at one input. -/
def stripesPlaysWrong : ChangeSpec := { name := "stripesPlays", fn := fun _ => fun
  | [d1, d2] => { results := [.lit (.bool false)], args := [d1, d2] }
  | _ => none }
def StripesPlaysWrongFalsely : Prop := stripesPlaysRow.holds Tryd.pinned (OpenSpec.ofChange stripesPlaysWrong)

/-- 'rowlocklaw04.StripesRise': WHATEVER THE INPUT: true; the input reads as it did. -/
def stripesRiseSpec : ChangeSpec := { name := "stripesRise", fn := fun _ => fun
  | [d1, d2] => { results := [.lit (.bool true)], args := [d1, d2] }
  | _ => none }
def stripesRiseRow : OpenClaim := { program := "ythkphhjhgkclfaadoor", sum := "7869aeab6382257f60afbb421bc0a989acb1f8b2647ff3aa0a6211e3d7a250da", func := "rowlock/rowlocklaw04.StripesRise", spec := "stripesRise", unfollowed := true, recurses := true, named := ["rowlock/lockword.shifts"], apart := false, laid := [("rowlock/lockword.shifts", laid_rowlock_lockword_shifts)] }
def StripesRiseSaid : Prop := stripesRiseRow.holds Tryd.pinned (OpenSpec.ofChange stripesRiseSpec)

/-- ITS FALSE NEIGHBOUR: 'it returns false'. Refute it at one input. -/
def stripesRiseWrong : ChangeSpec := { name := "stripesRise", fn := fun _ => fun
  | [d1, d2] => { results := [.lit (.bool false)], args := [d1, d2] }
  | _ => none }
def StripesRiseWrongFalsely : Prop := stripesRiseRow.holds Tryd.pinned (OpenSpec.ofChange stripesRiseWrong)

/-- 'rowlocklaw04.StripesOne': WHATEVER THE INPUT: true; the input reads as it did. -/
def stripesOneSpec : ChangeSpec := { name := "stripesOne", fn := fun _ => fun
  | [d1, d2, d3] => { results := [.lit (.bool true)], args := [d1, d2, d3] }
  | _ => none }
def stripesOneRow : OpenClaim := { program := "ythkphhjhgkclfaadoor", sum := "7869aeab6382257f60afbb421bc0a989acb1f8b2647ff3aa0a6211e3d7a250da", func := "rowlock/rowlocklaw04.StripesOne", spec := "stripesOne", unfollowed := true, recurses := true, named := ["rowlock/lockword.shifts"], apart := false, laid := [("rowlock/lockword.shifts", laid_rowlock_lockword_shifts)] }
def StripesOneSaid : Prop := stripesOneRow.holds Tryd.pinned (OpenSpec.ofChange stripesOneSpec)

/-- ITS FALSE NEIGHBOUR: 'it returns false'. Refute it at one input. -/
def stripesOneWrong : ChangeSpec := { name := "stripesOne", fn := fun _ => fun
  | [d1, d2, d3] => { results := [.lit (.bool false)], args := [d1, d2, d3] }
  | _ => none }
def StripesOneWrongFalsely : Prop := stripesOneRow.holds Tryd.pinned (OpenSpec.ofChange stripesOneWrong)

/-- 'rowlocklaw04.StripesForks': WHATEVER THE INPUT: true; the input reads as it did. -/
def stripesForksSpec : ChangeSpec := { name := "stripesForks", fn := fun _ => fun
  | [d1, d2, d3] => { results := [.lit (.bool true)], args := [d1, d2, d3] }
  | _ => none }
def stripesForksRow : OpenClaim := { program := "ythkphhjhgkclfaadoor", sum := "7869aeab6382257f60afbb421bc0a989acb1f8b2647ff3aa0a6211e3d7a250da", func := "rowlock/rowlocklaw04.StripesForks", spec := "stripesForks", unfollowed := true, recurses := true, named := ["rowlock/lockword.shifts"], apart := false, laid := [("rowlock/lockword.shifts", laid_rowlock_lockword_shifts)] }
def StripesForksSaid : Prop := stripesForksRow.holds Tryd.pinned (OpenSpec.ofChange stripesForksSpec)

/-- ITS FALSE NEIGHBOUR: 'it returns false'. Refute it at one input. -/
def stripesForksWrong : ChangeSpec := { name := "stripesForks", fn := fun _ => fun
  | [d1, d2, d3] => { results := [.lit (.bool false)], args := [d1, d2, d3] }
  | _ => none }
def StripesForksWrongFalsely : Prop := stripesForksRow.holds Tryd.pinned (OpenSpec.ofChange stripesForksWrong)

/- THE SECOND FORM. 'bulk': how many values and letters a reading holds, each counted each time it is reached (what is shared counts as often as it is met; a slice's spare places count too). A statement '..UptoSaid' is the law's where the arguments, and the package variables that the reading takes, are together of bulk at most 1048576: NARROWER than '..Said'. Prove '..Said' where nothing that the law and all that it calls make is longer than what came in: it says more and counts as full. Else prove '..UptoSaid'. A law counts once. -/
mutual
def uptoBulk {H : Type} : DataW H → Nat
  | .lit (.string bytes) => bytes.length + 1
  | .lit _ => 1
  | .nil => 1
  | .ptr d => uptoBulk d + 1
  | .slice elems spare => uptoBulkAll elems + uptoBulkAll spare + 1
  | .agg parts => uptoBulkAll parts + 1
  | .iface _ d => uptoBulk d + 1
  | .map entries => uptoBulkEntries entries + 1
  | .held _ => 1
def uptoBulkAll {H : Type} : List (DataW H) → Nat
  | [] => 0
  | d :: r => uptoBulk d + uptoBulkAll r
def uptoBulkEntries {H : Type} : List (Lit × DataW H) → Nat
  | [] => 0
  | x :: r => uptoBulkEntry x + uptoBulkEntries r
def uptoBulkEntry {H : Type} : Lit × DataW H → Nat
  | (.string bytes, d) => bytes.length + uptoBulk d + 1
  | (_, d) => uptoBulk d + 1
 end
def uptoSmall : (H : Type) → List (DataW H) → Bool := fun _ ds => decide (uptoBulkAll ds ≤ 1048576)
def OpenSpec.upto (s : _root_.Go.ChangeSpec) : _root_.Go.OpenSpec := { _root_.Go.OpenSpec.ofChange s with cond := some uptoSmall }

/-- 'rowlocklaw04.StripesPlays', WHERE WHAT IT READS IS OF BULK AT MOST 1048576: true; the input reads as it did. -/
def stripesPlaysUptoRow : OpenClaim := { program := "ythkphhjhgkclfaadoor", sum := "7869aeab6382257f60afbb421bc0a989acb1f8b2647ff3aa0a6211e3d7a250da", func := "rowlock/rowlocklaw04.StripesPlays", spec := "stripesPlays", unfollowed := true, recurses := true, named := ["rowlock/lockword.shifts"], apart := false, laid := [("rowlock/lockword.shifts", laid_rowlock_lockword_shifts)], narrowed := true }
def StripesPlaysUptoSaid : Prop := stripesPlaysUptoRow.holds Tryd.pinned (OpenSpec.upto stripesPlaysSpec)

/-- 'rowlocklaw04.StripesRise', WHERE WHAT IT READS IS OF BULK AT MOST 1048576: true; the input reads as it did. -/
def stripesRiseUptoRow : OpenClaim := { program := "ythkphhjhgkclfaadoor", sum := "7869aeab6382257f60afbb421bc0a989acb1f8b2647ff3aa0a6211e3d7a250da", func := "rowlock/rowlocklaw04.StripesRise", spec := "stripesRise", unfollowed := true, recurses := true, named := ["rowlock/lockword.shifts"], apart := false, laid := [("rowlock/lockword.shifts", laid_rowlock_lockword_shifts)], narrowed := true }
def StripesRiseUptoSaid : Prop := stripesRiseUptoRow.holds Tryd.pinned (OpenSpec.upto stripesRiseSpec)

/-- 'rowlocklaw04.StripesOne', WHERE WHAT IT READS IS OF BULK AT MOST 1048576: true; the input reads as it did. -/
def stripesOneUptoRow : OpenClaim := { program := "ythkphhjhgkclfaadoor", sum := "7869aeab6382257f60afbb421bc0a989acb1f8b2647ff3aa0a6211e3d7a250da", func := "rowlock/rowlocklaw04.StripesOne", spec := "stripesOne", unfollowed := true, recurses := true, named := ["rowlock/lockword.shifts"], apart := false, laid := [("rowlock/lockword.shifts", laid_rowlock_lockword_shifts)], narrowed := true }
def StripesOneUptoSaid : Prop := stripesOneUptoRow.holds Tryd.pinned (OpenSpec.upto stripesOneSpec)

/-- 'rowlocklaw04.StripesForks', WHERE WHAT IT READS IS OF BULK AT MOST 1048576: true; the input reads as it did. -/
def stripesForksUptoRow : OpenClaim := { program := "ythkphhjhgkclfaadoor", sum := "7869aeab6382257f60afbb421bc0a989acb1f8b2647ff3aa0a6211e3d7a250da", func := "rowlock/rowlocklaw04.StripesForks", spec := "stripesForks", unfollowed := true, recurses := true, named := ["rowlock/lockword.shifts"], apart := false, laid := [("rowlock/lockword.shifts", laid_rowlock_lockword_shifts)], narrowed := true }
def StripesForksUptoSaid : Prop := stripesForksUptoRow.holds Tryd.pinned (OpenSpec.upto stripesForksSpec)

end Rows
end Go.Proofs.YthkphhjhgkclfaaDoor
