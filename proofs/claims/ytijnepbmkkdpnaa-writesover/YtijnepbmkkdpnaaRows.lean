/-
  No cell of these rows narrows 'for every input' (looked for: loops, veiled, ifaces, maps, wideKeys, modest, calm, conditions, laid).
  DERIVED. THE GIVEN ROWS OF THIS SEAT. 3 by the template 'for every input the law returns true; each argument reads behind the call as it read before'; 0 by the template 'total and deterministic' (their statements: YtijnepbmkkdpnaaTotals.lean).
  GIVEN WITH THE SEED: the statements are not yours to turn. If you find one false, say at which input.
  Laid BY PROGRAM, IN A SANDBOX (cutbox-rows.mjs): the forced cells as the released guide's own fill.sh prints them over the translation 9579f4b5bdc34631… (all of the seat's roots in one cut). By AI agents, Wed Nov 11 2026. No macro, syntax, notation, axiom, sorry.
-/
import Derived.Test.YtijnepbmkkdpnaaChecked
import GoSem.Claim
import GoSem.ClaimJoined
import GoSem.ClaimMapViews
import Derived.JoinedTies
import Derived.KernelRfl
namespace Go.Proofs.Ytijnepbmkkdpnaa
/- THE CELL 'sum', in the pinned program and in every row, IS THE sha256 OF THE DUMP (.gsa) THAT YtijnepbmkkdpnaaProg.lean LOADS. Nothing in Lean hashes anything: it is a label: what it is worth is what the hold of that sum in a sandbox is worth. -/
noncomputable def Try.pinned : Pinned := { name := "ytijnepbmkkdpnaa", sum := "9579f4b5bdc34631887873ed0d6910de65e9b5bae588fb896f266d569153150f", checked := Try.checked }
namespace Rows
def none {H : Type} : Left H := { results := [], args := [] }

/-- 'rowlocklaw07.WritesOver': WHATEVER THE INPUT: true; the input reads as it did. -/
def writesOverSpec : ChangeSpec := { name := "writesOver", fn := fun _ => fun
  | [d1, d2] => { results := [.lit (.bool true)], args := [d1, d2] }
  | _ => none }
def writesOverRow : OpenClaim := { program := "ytijnepbmkkdpnaa", sum := "9579f4b5bdc34631887873ed0d6910de65e9b5bae588fb896f266d569153150f", func := "rowlock/rowlocklaw07.WritesOver", spec := "writesOver", inPlace := ["math.Float64frombits", "math.Float64bits"], unfollowed := true, recurses := true, apart := false }
def WritesOverSaid : Prop := writesOverRow.holds Try.pinned (OpenSpec.ofChange writesOverSpec)

/-- ITS FALSE NEIGHBOUR: 'it returns false'. Refute it at one input. -/
def writesOverWrong : ChangeSpec := { name := "writesOver", fn := fun _ => fun
  | [d1, d2] => { results := [.lit (.bool false)], args := [d1, d2] }
  | _ => none }
def WritesOverWrongFalsely : Prop := writesOverRow.holds Try.pinned (OpenSpec.ofChange writesOverWrong)

/-- 'rowlocklaw07.WritesDrops': WHATEVER THE INPUT: true; the input reads as it did. -/
def writesDropsSpec : ChangeSpec := { name := "writesDrops", fn := fun _ => fun
  | [d1, d2] => { results := [.lit (.bool true)], args := [d1, d2] }
  | _ => none }
def writesDropsRow : OpenClaim := { program := "ytijnepbmkkdpnaa", sum := "9579f4b5bdc34631887873ed0d6910de65e9b5bae588fb896f266d569153150f", func := "rowlock/rowlocklaw07.WritesDrops", spec := "writesDrops", inPlace := ["math.Float64frombits", "math.Float64bits"], unfollowed := true, recurses := true, apart := false }
def WritesDropsSaid : Prop := writesDropsRow.holds Try.pinned (OpenSpec.ofChange writesDropsSpec)

/-- ITS FALSE NEIGHBOUR: 'it returns false'. Refute it at one input. -/
def writesDropsWrong : ChangeSpec := { name := "writesDrops", fn := fun _ => fun
  | [d1, d2] => { results := [.lit (.bool false)], args := [d1, d2] }
  | _ => none }
def WritesDropsWrongFalsely : Prop := writesDropsRow.holds Try.pinned (OpenSpec.ofChange writesDropsWrong)

/-- 'rowlocklaw07.WritesLast': WHATEVER THE INPUT: true; the input reads as it did. -/
def writesLastSpec : ChangeSpec := { name := "writesLast", fn := fun _ => fun
  | [d1, d2] => { results := [.lit (.bool true)], args := [d1, d2] }
  | _ => none }
def writesLastRow : OpenClaim := { program := "ytijnepbmkkdpnaa", sum := "9579f4b5bdc34631887873ed0d6910de65e9b5bae588fb896f266d569153150f", func := "rowlock/rowlocklaw07.WritesLast", spec := "writesLast", inPlace := ["math.Float64frombits", "math.Float64bits"], unfollowed := true, recurses := true, apart := false }
def WritesLastSaid : Prop := writesLastRow.holds Try.pinned (OpenSpec.ofChange writesLastSpec)

/-- ITS FALSE NEIGHBOUR: 'it returns false'. Refute it at one input. -/
def writesLastWrong : ChangeSpec := { name := "writesLast", fn := fun _ => fun
  | [d1, d2] => { results := [.lit (.bool false)], args := [d1, d2] }
  | _ => none }
def WritesLastWrongFalsely : Prop := writesLastRow.holds Try.pinned (OpenSpec.ofChange writesLastWrong)

/- THE SECOND FORM. 'bulk': how many values and letters a reading holds, each counted each time it is reached (what is shared counts as often as it is met; a slice's spare places count too). A statement '..UptoSaid' is the law's where the arguments, and the package variables that the reading takes, are together of bulk at most 1048576: NARROWER than '..Said'. Prove '..Said' where nothing that the law and all that it calls make is longer than what came in: it says more and counts as full. Else prove '..UptoSaid'. A law counts once. -/
mutual
def uptoBulk {H : Type} : DataW H → Nat
  | .lit (.string bytes) => bytes.length + 1
  | .lit _ => 1
  | .nil => 1
  | .ptr d => uptoBulk d + 1
  | .slice elems spare => uptoBulkAll elems + uptoBulkAll spare + 1
  | .agg parts => uptoBulkAll parts + 1
  | .iface _ d => uptoBulk d + 1
  | .map entries => uptoBulkEntries entries + 1
  | .held _ => 1
def uptoBulkAll {H : Type} : List (DataW H) → Nat
  | [] => 0
  | d :: r => uptoBulk d + uptoBulkAll r
def uptoBulkEntries {H : Type} : List (Lit × DataW H) → Nat
  | [] => 0
  | x :: r => uptoBulkEntry x + uptoBulkEntries r
def uptoBulkEntry {H : Type} : Lit × DataW H → Nat
  | (.string bytes, d) => bytes.length + uptoBulk d + 1
  | (_, d) => uptoBulk d + 1
 end
def uptoSmall : (H : Type) → List (DataW H) → Bool := fun _ ds => decide (uptoBulkAll ds ≤ 1048576)
def OpenSpec.upto (s : _root_.Go.ChangeSpec) : _root_.Go.OpenSpec := { _root_.Go.OpenSpec.ofChange s with cond := some uptoSmall }

/-- 'rowlocklaw07.WritesOver', WHERE WHAT IT READS IS OF BULK AT MOST 1048576: true; the input reads as it did. -/
def writesOverUptoRow : OpenClaim := { program := "ytijnepbmkkdpnaa", sum := "9579f4b5bdc34631887873ed0d6910de65e9b5bae588fb896f266d569153150f", func := "rowlock/rowlocklaw07.WritesOver", spec := "writesOver", inPlace := ["math.Float64frombits", "math.Float64bits"], unfollowed := true, recurses := true, apart := false, narrowed := true }
def WritesOverUptoSaid : Prop := writesOverUptoRow.holds Try.pinned (OpenSpec.upto writesOverSpec)

/-- 'rowlocklaw07.WritesDrops', WHERE WHAT IT READS IS OF BULK AT MOST 1048576: true; the input reads as it did. -/
def writesDropsUptoRow : OpenClaim := { program := "ytijnepbmkkdpnaa", sum := "9579f4b5bdc34631887873ed0d6910de65e9b5bae588fb896f266d569153150f", func := "rowlock/rowlocklaw07.WritesDrops", spec := "writesDrops", inPlace := ["math.Float64frombits", "math.Float64bits"], unfollowed := true, recurses := true, apart := false, narrowed := true }
def WritesDropsUptoSaid : Prop := writesDropsUptoRow.holds Try.pinned (OpenSpec.upto writesDropsSpec)

/-- 'rowlocklaw07.WritesLast', WHERE WHAT IT READS IS OF BULK AT MOST 1048576: true; the input reads as it did. -/
def writesLastUptoRow : OpenClaim := { program := "ytijnepbmkkdpnaa", sum := "9579f4b5bdc34631887873ed0d6910de65e9b5bae588fb896f266d569153150f", func := "rowlock/rowlocklaw07.WritesLast", spec := "writesLast", inPlace := ["math.Float64frombits", "math.Float64bits"], unfollowed := true, recurses := true, apart := false, narrowed := true }
def WritesLastUptoSaid : Prop := writesLastUptoRow.holds Try.pinned (OpenSpec.upto writesLastSpec)

end Rows
end Go.Proofs.Ytijnepbmkkdpnaa
