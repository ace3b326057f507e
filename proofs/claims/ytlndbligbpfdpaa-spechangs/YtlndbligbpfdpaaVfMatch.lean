/-
  package verify: closes, closerOf, blame, around, mayBegin BY THEIR CONTRACTS.
-/
import Derived.Test.YtlndbligbpfdpaaVfStack
namespace Go.Proofs.Ytlndbligbpfdpaa
set_option linter.unusedVariables false
set_option linter.unusedSimpArgs false
open Go.RowKit
attribute [local go_sem] Oper.semAt_some

/-- Instructions that can be read. -/
abbrev InsV := SRow 3 InsD.cells
theorem insv_at {w : World} {ao : Option Addr} {cap : Nat} {l : List InsD} (h : InsV w (.slice ao l.length cap) l) (k : Nat) (hk : k < l.length) :
    ∃ g off, ao = some ⟨g, off, none⟩ ∧ g < w.heap.size ∧ w.cell? ⟨g, off + k * 3, none⟩ = some (.int .u8 (opAt l k)) ∧ w.cell? ⟨g, off + k * 3 + 1, none⟩ = some (.int .i64 (argAt l k)) ∧ w.cell? ⟨g, off + k * 3 + 2, none⟩ = some (.int .u64 l[k].val) := by
  obtain ⟨g, off, e, hg, hc⟩ := SRow.at h k hk
  have h0 := hc 0 (by omega)
  have h1 := hc 1 (by omega)
  have h2 := hc 2 (by omega)
  rw [opAt_get hk, argAt_get hk]
  exact ⟨g, off, e, hg, by simpa [InsD.cells] using h0, by simpa [InsD.cells] using h1, by simpa [InsD.cells] using h2⟩

/-- The cell and the flag of the least place that is wrong. -/
def wrC (wr : Option Nat) : Value := .int .i64 (match wr with | none => 0 | some j => (j : Int))
def wrF (wr : Option Nat) : Value := .bool wr.isSome

/-- Open brackets as they lie: the outermost first. -/
def brRow (l : List InsD) (op : List Nat) : List BrD := op.reverse.map fun (t : Nat) => (⟨(t : Int), closerV (opAt l t)⟩ : BrD)
def topB (l : List InsD) : List Nat → BrD
  | [] => ⟨0, 0⟩
  | t :: _ => ⟨(t : Int), closerV (opAt l t)⟩
theorem brRow_len (l : List InsD) (op : List Nat) : (brRow l op).length = op.length := by simp [brRow]
theorem brRow_cons (l : List InsD) (t : Nat) (r : List Nat) : brRow l (t :: r) = brRow l r ++ [⟨(t : Int), closerV (opAt l t)⟩] := by simp [brRow]

theorem br_flat (xs : List BrD) : (xs.flatMap BrD.cells).length = xs.length * 2 := flat_len (cells := BrD.cells) (n := 2) (fun _ => rfl) xs
end Go.Proofs.Ytlndbligbpfdpaa
