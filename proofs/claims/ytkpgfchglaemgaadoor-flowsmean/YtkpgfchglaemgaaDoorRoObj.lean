/-
  package object, the document's: New, Takes, Fits, Do, Shape BY THEIR CONTRACTS, for a mutex and a semaphore.
-/
import Derived.Test.YtkpgfchglaemgaaDoorAllB
import Derived.Deep.RegionHeld3
namespace Go.Proofs.YtkpgfchglaemgaaDoor
set_option linter.unusedVariables false
set_option linter.unusedSimpArgs false
open Go.RowKit
attribute [local go_sem] Oper.semAt_some

/-- An object without values. -/
structure RObB (w : World) (b : Nat) (k s o n g : Int) : Prop where
  st : w.heap[b]? = some (.cells #[.int .u8 k, .int .i64 s, .int .i64 o, .int .i64 n, .int .i64 g, .slice none 0 0] 64 (0, 0))
theorem RObB.touch {w w' : World} {b : Nat} {k s o n g : Int} {S : List Nat} (h : RObB w b k s o n g) (t : Touch w w' S) (hS : b ∉ S) : RObB w' b k s o n g := ⟨(t.block b (lt_of_heap h.st) hS).trans h.st⟩
theorem RObB.cells {w : World} {b : Nat} {k s o n g : Int} (h : RObB w b k s o n g) : w.cell? ⟨b, 0, none⟩ = some (.int .u8 k) ∧ w.cell? ⟨b, 1, none⟩ = some (.int .i64 s) ∧ w.cell? ⟨b, 2, none⟩ = some (.int .i64 o) ∧ w.cell? ⟨b, 3, none⟩ = some (.int .i64 n) ∧ w.cell? ⟨b, 4, none⟩ = some (.int .i64 g) ∧ w.cell? ⟨b, 5, none⟩ = some (.slice none 0 0) := by
  refine ⟨?_, ?_, ?_, ?_, ?_, ?_⟩ <;> (unfold World.cell?; rw [h.st]; rfl)
theorem RObB.fr {w : World} {b : Nat} {k s o n g : Int} (h : RObB w b k s o n g) (j : Nat) : w.frozen? ⟨b, j, none⟩ = false := by unfold World.frozen?; rw [h.st]; simp
theorem RObB.seto {w : World} {b : Nat} {k s o n g : Int} (h : RObB w b k s o n g) (x : Int) : RObB (w.setCell ⟨b, 2, none⟩ (.int .i64 x)) b k s x n g := ⟨by rw [heap_setCell_same _ _ _ _ _ _ h.st]; rfl⟩
theorem RObB.setn {w : World} {b : Nat} {k s o n g : Int} (h : RObB w b k s o n g) (x : Int) : RObB (w.setCell ⟨b, 3, none⟩ (.int .i64 x)) b k s o x g := ⟨by rw [heap_setCell_same _ _ _ _ _ _ h.st]; rfl⟩
def NewO (w : World) (k s o n : Int) (e : Ending) (w' : World) : Prop := ∃ b, e = .returned (.pointer (some ⟨b, 0, none⟩)) ∧ RObB w' b k s o n 0 ∧ w.heap.size ≤ b ∧ Touch w w' []
theorem rnew_mutex (w : World) : Calls Tryd.prog 7 #[.int .u8 1, .int .i64 0] w (NewO w 1 0 (-1) 0) := by
  have hb : RObB (w.alloc (.cells #[.int .u8 1, .int .i64 0, .int .i64 (-1), .int .i64 0, .int .i64 0, .slice none 0 0] 64)) w.heap.size 1 0 (-1) 0 0 := ⟨heap_alloc_new w _⟩
  have HB : Hid _ := hb
  have HT : Hid (Touch w (w.alloc (.cells #[.int .u8 1, .int .i64 0, .int .i64 (-1), .int .i64 0, .int .i64 0, .slice none 0 0] 64)) []) := (Touch.refl w []).alloc _
  clear hb
  go_enter Tryd.func7, Tryd.ntmps7
  go_wp2
  go_ret
  exact ⟨w.heap.size, rfl, HB.out, Nat.le_refl _, HT.out⟩
theorem rnew_sem (n : Int) (h0 : 0 ≤ n) (h1 : n ≤ 9) (w : World) : Calls Tryd.prog 7 #[.int .u8 2, .int .i64 n] w (NewO w 2 n (-1) n) := by
  have hb : RObB (w.alloc (.cells #[.int .u8 2, .int .i64 n, .int .i64 (-1), .int .i64 n, .int .i64 0, .slice none 0 0] 64)) w.heap.size 2 n (-1) n 0 := ⟨heap_alloc_new w _⟩
  have HB : Hid _ := hb
  have HT : Hid (Touch w (w.alloc (.cells #[.int .u8 2, .int .i64 n, .int .i64 (-1), .int .i64 n, .int .i64 0, .slice none 0 0] 64)) []) := (Touch.refl w []).alloc _
  obtain ⟨x0, x1, x2, x3, x4, x5⟩ := hb.cells
  have f3 := hb.fr 3
  have hd0 : decide (n ≥ 0) = true := decide_eq_true h0
  have hd1 : decide (n ≤ 9) = true := decide_eq_true h1
  clear hb
  go_enter Tryd.func7, Tryd.ntmps7
  go_wp2
  go_ret
  exact ⟨w.heap.size, rfl, HB.out, Nat.le_refl _, HT.out⟩
theorem rtakes_any {w : World} {b : Nat} {k s o n g : Int} (h : RObB w b k s o n g) (c : Int) (hk : (k = 1 ∧ (c = 1 ∨ c = 2)) ∨ (k = 2 ∧ (c = 3 ∨ c = 4))) :
    Calls Tryd.prog 17 #[.pointer (some ⟨b, 0, none⟩), .int .u8 c] w fun e w' => e = .returned (.bool true) ∧ w = w' := by
  obtain ⟨x0, x1, x2, x3, x4, x5⟩ := h.cells
  clear h
  rcases hk with ⟨rfl, rfl | rfl⟩ | ⟨rfl, rfl | rfl⟩
  all_goals
    go_enter Tryd.func17, Tryd.ntmps17
    go_wp2
    go_ret
    exact ⟨rfl, rfl⟩
theorem rofits_any (c u : Int) (hc : c = 1 ∨ c = 2 ∨ c = 3 ∨ c = 4) (w : World) :
    Calls Tryd.prog 18 #[.agg #[.int .u8 c, .int .i64 u, .int .u64 0]] w fun e w' => e = .returned (.bool true) ∧ Touch w w' [] := by
  have HB := BoxC.new w c u 0
  obtain ⟨x0, x1, x2⟩ := HB.cells
  have HT : Hid (Touch w (w.alloc (.cells #[.int .u8 c, .int .i64 u, .int .u64 0] 30)) []) := (Touch.refl w []).alloc _
  have HR : HidC _ _ _ _ _ := ⟨rright_any 0 ⟨by decide, by decide⟩ (w.alloc (.cells #[.int .u8 c, .int .i64 u, .int .u64 0] 30))⟩
  rw [show rightB 0 = true by decide +kernel] at HR
  clear HB
  rcases hc with rfl | rfl | rfl | rfl
  all_goals
    go_enter Tryd.func18, Tryd.ntmps18
    go_wp2_with fail
    refine HR.out.mono ?_
    rintro e _ ⟨rfl, rfl⟩
    go_wp2
    go_ret
    exact ⟨rfl, HT.out⟩

end Go.Proofs.YtkpgfchglaemgaaDoor
