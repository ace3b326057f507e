/-
  package code: appended BY ITS CONTRACT.
-/
import Derived.Test.YtphjaekcfbalkaaCdEnc
namespace Go.Proofs.Ytphjaekcfbalkaa
set_option linter.unusedVariables false
set_option linter.unusedSimpArgs false
open Go.RowKit
attribute [local go_sem] Oper.semAt_some

/-- A row that has become longer. -/
def BPost (w : World) (B : Nat) (v : Value) (l : List Int) (v' : Value) (w' : World) : Prop := bytOwn w' B v' l ∧ Touch w w' v.ownBlock.toList ∧ ∀ g, v'.ownBlock = some g → v.ownBlock = some g ∨ w.heap.size ≤ g
theorem BPost.trans {w w1 w2 : World} {B : Nat} {v v1 v2 : Value} {l1 l2 : List Int} (h1 : BPost w B v l1 v1 w1) (h2 : BPost w1 B v1 l2 v2 w2) : BPost w B v l2 v2 w2 := by
  refine ⟨h2.1, h1.2.1.trans h2.2.1 (fun x hx => ?_), fun g hg => ?_⟩
  · have := h1.2.2 x (by simpa using hx)
    rcases this with h | h
    · exact .inl (by simp [h])
    · exact .inr h
  · rcases h2.2.2 g hg with h | h
    · exact h1.2.2 g h
    · exact .inr (Nat.le_trans h1.2.1.size h)

theorem arg_val {o : Int} (h : argP o = true) : valP o = false := by
  simp [argP] at h
  simp [valP]
  omega
theorem byte_of (a : Int) : IntKind.u8.wrap a = a % 256 := by
  first
  | rfl
  | (rw [IntKind.wrap_u8])
  | (unfold IntKind.wrap; simp [IntKind.signed, IntKind.bits])

end Go.Proofs.Ytphjaekcfbalkaa
