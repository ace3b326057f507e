/-
  No cell of these rows narrows 'for every input' (looked for: loops, veiled, ifaces, maps, wideKeys, modest, calm, conditions, laid).
  DERIVED. THE GIVEN ROWS OF THIS SEAT. 2 by the template 'for every input the law returns true; each argument reads behind the call as it read before'; 0 by the template 'total and deterministic' (their statements: YtlfnmnchhhlhiabGreatTotals.lean).
  GIVEN WITH THE SEED: the statements are not yours to turn. If you find one false, say at which input.
  Laid BY PROGRAM, IN A SANDBOX (cutbox-rows.mjs): the forced cells as the released guide's own fill.sh prints them over the translation e30a5ca588017a92… (all of the seat's roots in one cut). By AI agents, Wed Nov 11 2026. No macro, syntax, notation, axiom, sorry.
-/
import Derived.Test.YtlfnmnchhhlhiabGreatChecked
import GoSem.Claim
import GoSem.ClaimJoined
import GoSem.ClaimMapViews
import Derived.JoinedTies
import Derived.KernelRfl
namespace Go.Proofs.YtlfnmnchhhlhiabGreat
/- THE CELL 'sum', in the pinned program and in every row, IS THE sha256 OF THE DUMP (.gsa) THAT YtlfnmnchhhlhiabGreatProg.lean LOADS. Nothing in Lean hashes anything: it is a label: what it is worth is what the hold of that sum in a sandbox is worth. -/
noncomputable def Tryz.pinned : Pinned := { name := "ytlfnmnchhhlhiabgreat", sum := "e30a5ca588017a9299c8c0476912c76eb0baba7d17a92d1cc57821291e0720d9", checked := Tryz.checked }
namespace Rows
def none {H : Type} : Left H := { results := [], args := [] }

/-- 'rowlocklaw11.NorecForks': WHATEVER THE INPUT: true; the input reads as it did. -/
def norecForksSpec : ChangeSpec := { name := "norecForks", fn := fun _ => fun
  | [d1, d2] => { results := [.lit (.bool true)], args := [d1, d2] }
  | _ => none }
def norecForksRow : OpenClaim := { program := "ytlfnmnchhhlhiabgreat", sum := "e30a5ca588017a9299c8c0476912c76eb0baba7d17a92d1cc57821291e0720d9", func := "rowlock/rowlocklaw11.NorecForks", spec := "norecForks", inPlace := ["math.Float64frombits", "math.Float64bits", "maps.clone", "slices.overlaps[int]"], unfollowed := true, recurses := true, apart := false }
def NorecForksSaid : Prop := norecForksRow.holds Tryz.pinned (OpenSpec.ofChange norecForksSpec)

/-- ITS FALSE NEIGHBOUR: 'it returns false'. Refute it at one input. -/
def norecForksWrong : ChangeSpec := { name := "norecForks", fn := fun _ => fun
  | [d1, d2] => { results := [.lit (.bool false)], args := [d1, d2] }
  | _ => none }
def NorecForksWrongFalsely : Prop := norecForksRow.holds Tryz.pinned (OpenSpec.ofChange norecForksWrong)

/-- 'rowlocklaw11.NorecNone': WHATEVER THE INPUT: true; the input reads as it did. -/
def norecNoneSpec : ChangeSpec := { name := "norecNone", fn := fun _ => fun
  | [d1, d2, d3] => { results := [.lit (.bool true)], args := [d1, d2, d3] }
  | _ => none }
def norecNoneRow : OpenClaim := { program := "ytlfnmnchhhlhiabgreat", sum := "e30a5ca588017a9299c8c0476912c76eb0baba7d17a92d1cc57821291e0720d9", func := "rowlock/rowlocklaw11.NorecNone", spec := "norecNone", inPlace := ["math.Float64frombits", "math.Float64bits", "slices.overlaps[int]", "maps.clone"], unfollowed := true, recurses := true, apart := false }
def NorecNoneSaid : Prop := norecNoneRow.holds Tryz.pinned (OpenSpec.ofChange norecNoneSpec)

/-- ITS FALSE NEIGHBOUR: 'it returns false'. Refute it at one input. -/
def norecNoneWrong : ChangeSpec := { name := "norecNone", fn := fun _ => fun
  | [d1, d2, d3] => { results := [.lit (.bool false)], args := [d1, d2, d3] }
  | _ => none }
def NorecNoneWrongFalsely : Prop := norecNoneRow.holds Tryz.pinned (OpenSpec.ofChange norecNoneWrong)

/- THE SECOND FORM. 'bulk': how many values and letters a reading holds, each counted each time it is reached (what is shared counts as often as it is met; a slice's spare places count too). A statement '..UptoSaid' is the law's where the arguments, and the package variables that the reading takes, are together of bulk at most 1048576: NARROWER than '..Said'. Prove '..Said' where nothing that the law and all that it calls make is longer than what came in: it says more and counts as full. Else prove '..UptoSaid'. A law counts once. -/
mutual
def uptoBulk {H : Type} : DataW H → Nat
  | .lit (.string bytes) => bytes.length + 1
  | .lit _ => 1
  | .nil => 1
  | .ptr d => uptoBulk d + 1
  | .slice elems spare => uptoBulkAll elems + uptoBulkAll spare + 1
  | .agg parts => uptoBulkAll parts + 1
  | .iface _ d => uptoBulk d + 1
  | .map entries => uptoBulkEntries entries + 1
  | .held _ => 1
def uptoBulkAll {H : Type} : List (DataW H) → Nat
  | [] => 0
  | d :: r => uptoBulk d + uptoBulkAll r
def uptoBulkEntries {H : Type} : List (Lit × DataW H) → Nat
  | [] => 0
  | x :: r => uptoBulkEntry x + uptoBulkEntries r
def uptoBulkEntry {H : Type} : Lit × DataW H → Nat
  | (.string bytes, d) => bytes.length + uptoBulk d + 1
  | (_, d) => uptoBulk d + 1
 end
def uptoSmall : (H : Type) → List (DataW H) → Bool := fun _ ds => decide (uptoBulkAll ds ≤ 1048576)
def OpenSpec.upto (s : _root_.Go.ChangeSpec) : _root_.Go.OpenSpec := { _root_.Go.OpenSpec.ofChange s with cond := some uptoSmall }

/-- 'rowlocklaw11.NorecForks', WHERE WHAT IT READS IS OF BULK AT MOST 1048576: true; the input reads as it did. -/
def norecForksUptoRow : OpenClaim := { program := "ytlfnmnchhhlhiabgreat", sum := "e30a5ca588017a9299c8c0476912c76eb0baba7d17a92d1cc57821291e0720d9", func := "rowlock/rowlocklaw11.NorecForks", spec := "norecForks", inPlace := ["math.Float64frombits", "math.Float64bits", "maps.clone", "slices.overlaps[int]"], unfollowed := true, recurses := true, apart := false, narrowed := true }
def NorecForksUptoSaid : Prop := norecForksUptoRow.holds Tryz.pinned (OpenSpec.upto norecForksSpec)

/-- 'rowlocklaw11.NorecNone', WHERE WHAT IT READS IS OF BULK AT MOST 1048576: true; the input reads as it did. -/
def norecNoneUptoRow : OpenClaim := { program := "ytlfnmnchhhlhiabgreat", sum := "e30a5ca588017a9299c8c0476912c76eb0baba7d17a92d1cc57821291e0720d9", func := "rowlock/rowlocklaw11.NorecNone", spec := "norecNone", inPlace := ["math.Float64frombits", "math.Float64bits", "slices.overlaps[int]", "maps.clone"], unfollowed := true, recurses := true, apart := false, narrowed := true }
def NorecNoneUptoSaid : Prop := norecNoneUptoRow.holds Tryz.pinned (OpenSpec.upto norecNoneSpec)

end Rows
end Go.Proofs.YtlfnmnchhhlhiabGreat
