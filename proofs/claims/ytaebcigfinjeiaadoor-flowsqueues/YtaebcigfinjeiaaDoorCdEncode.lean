/-
  package code: Encode BY ITS CONTRACT.
-/
import Derived.Test.YtaebcigfinjeiaaDoorAllA
namespace Go.Proofs.YtaebcigfinjeiaaDoor
set_option linter.unusedVariables false
set_option linter.unusedSimpArgs false
open Go.RowKit
attribute [local go_sem] Oper.semAt_some

abbrev InsRow := SRow 3 InsD.cells
theorem ins_at {w W : World} {ao : Option Addr} {cap : Nat} {l : List InsD} (h : InsRow w (.slice ao l.length cap) l) {S : List Nat} (t : Touch w W S) (hS : ∀ x ∈ S, w.heap.size ≤ x) (k : Nat) (hk : k < l.length) :
    ∃ g off, ao = some ⟨g, off, none⟩ ∧ W.cell? ⟨g, off + k * 3, none⟩ = some (.int .u8 l[k].op) ∧ W.cell? ⟨g, off + k * 3 + 1, none⟩ = some (.int .i64 l[k].arg) ∧ W.cell? ⟨g, off + k * 3 + 2, none⟩ = some (.int .u64 l[k].val) := by
  obtain ⟨g, off, e, hg, hc⟩ := h.at k hk
  have hgs : g ∉ S := fun hs => by have := hS g hs; omega
  exact ⟨g, off, e, (t.cell (p := ⟨g, off + k * 3, none⟩) hg hgs).trans (hc 0 (by omega)), (t.cell (p := ⟨g, off + k * 3 + 1, none⟩) hg hgs).trans (hc 1 (by omega)), (t.cell (p := ⟨g, off + k * 3 + 2, none⟩) hg hgs).trans (hc 2 (by omega))⟩

def encL (l : List InsD) : List Int := l.flatMap encI
theorem encL_snoc {l : List InsD} {k : Nat} (hk : k < l.length) : encL (l.take (k + 1)) = encL (l.take k) ++ encI l[k] := by
  unfold encL; rw [List.take_succ_eq_append_getElem hk, List.flatMap_append]; simp
theorem encI_len (i : InsD) : (encI i).length ≤ 10 := by
  unfold encI
  rw [List.length_cons, List.length_append]
  have h1 : (if argP i.op then [i.arg % 256] else ([] : List Int)).length ≤ 1 := by split <;> simp
  have h2 : (if valP i.op then valB i.val.toNat 8 else ([] : List Int)).length ≤ 8 := by split <;> simp [valB_len]
  omega
theorem encL_len (l : List InsD) : (encL l).length ≤ 10 * l.length := by
  unfold encL
  induction l with
  | nil => simp
  | cons x l ih => rw [List.flatMap_cons, List.length_append, List.length_cons]; have := encI_len x; omega

/-- What Encode comes to. -/
def EncPost (w : World) (l : List InsD) (e : Ending) (w' : World) : Prop :=
  (l.all rightI = true ∧ ∃ v, e = .returned (.tuple #[v, .int .i64 0]) ∧ bytOwn w' w.heap.size v (encL l) ∧ Touch w w' []) ∨ (l.all rightI = false ∧ e = .returned (.tuple #[.slice none 0 0, .int .i64 3]) ∧ Touch w w' [])

end Go.Proofs.YtaebcigfinjeiaaDoor
