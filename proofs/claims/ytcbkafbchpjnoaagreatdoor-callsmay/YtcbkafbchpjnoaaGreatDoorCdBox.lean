/-
  AN INSTRUCTION IN A BLOCK OF ITS OWN. No walk.
-/
import Derived.Test.YtcbkafbchpjnoaaGreatDoorAllA
namespace Go.Proofs.YtcbkafbchpjnoaaGreatDoor
set_option linter.unusedVariables false
set_option linter.unusedSimpArgs false
open Go.RowKit

/-- An instruction in a block of its own. -/
structure BoxI (W : World) (p : Nat) (o a v : Int) : Prop where
  st : W.heap[p]? = some (.cells #[.int .u8 o, .int .i64 a, .int .u64 v] 78 (0, 0))
theorem BoxI.touch {W W' : World} {p : Nat} {o a v : Int} {S : List Nat} (h : BoxI W p o a v) (t : Touch W W' S) (hS : p ∉ S) : BoxI W' p o a v := ⟨(t.block p (lt_of_heap h.st) hS).trans h.st⟩
theorem BoxI.cells {W : World} {p : Nat} {o a v : Int} (h : BoxI W p o a v) : W.cell? ⟨p, 0, none⟩ = some (.int .u8 o) ∧ W.cell? ⟨p, 1, none⟩ = some (.int .i64 a) ∧ W.cell? ⟨p, 2, none⟩ = some (.int .u64 v) :=
  ⟨by unfold World.cell?; rw [h.st]; rfl, by unfold World.cell?; rw [h.st]; rfl, by unfold World.cell?; rw [h.st]; rfl⟩
theorem BoxI.fr {W : World} {p : Nat} {o a v : Int} (h : BoxI W p o a v) (j : Nat) : W.frozen? ⟨p, j, none⟩ = false := by unfold World.frozen?; rw [h.st]; simp
theorem BoxI.set1 {W : World} {p : Nat} {o a v : Int} (h : BoxI W p o a v) (x : Int) : BoxI (W.setCell ⟨p, 1, none⟩ (.int .i64 x)) p o x v := ⟨heap_setCell_same _ _ _ _ _ _ h.st⟩
theorem BoxI.set2 {W : World} {p : Nat} {o a v : Int} (h : BoxI W p o a v) (x : Int) : BoxI (W.setCell ⟨p, 2, none⟩ (.int .u64 x)) p o a x := ⟨heap_setCell_same _ _ _ _ _ _ h.st⟩
theorem BoxI.set0 {W : World} {p : Nat} {o a v : Int} (h : BoxI W p o a v) (x : Int) : BoxI (W.setCell ⟨p, 0, none⟩ (.int .u8 x)) p x a v := ⟨heap_setCell_same _ _ _ _ _ _ h.st⟩
theorem BoxI.lt {W : World} {p : Nat} {o a v : Int} (h : BoxI W p o a v) : p < W.heap.size := lt_of_heap h.st
theorem BoxI.new (w : World) (o a v : Int) : BoxI (w.alloc (.cells #[.int .u8 o, .int .i64 a, .int .u64 v] 78)) w.heap.size o a v := ⟨heap_alloc_new w _⟩

end Go.Proofs.YtcbkafbchpjnoaaGreatDoor
