/-
  package object, the document's: Shape BY ITS CONTRACT, for an object without values.
-/
import Derived.Test.YtkpgfchglaemgaaDoorRoDo
import Derived.Test.YtkpgfchglaemgaaDoorSsR0
namespace Go.Proofs.YtkpgfchglaemgaaDoor
set_option linter.unusedVariables false
set_option linter.unusedSimpArgs false
open Go.RowKit
attribute [local go_sem] Oper.semAt_some

theorem shp_cells {W : World} {p : Nat} {x y z u : Value} (h : W.heap[p]? = some (.cells #[x, y, z, u] 46 (0, 0))) : (W.cell? ⟨p, 0, none⟩ = some x ∧ W.cell? ⟨p, 1, none⟩ = some y ∧ W.cell? ⟨p, 2, none⟩ = some z ∧ W.cell? ⟨p, 3, none⟩ = some u) ∧ ∀ j, W.frozen? ⟨p, j, none⟩ = false := ⟨⟨by unfold World.cell?; rw [h]; rfl, by unfold World.cell?; rw [h]; rfl, by unfold World.cell?; rw [h]; rfl, by unfold World.cell?; rw [h]; rfl⟩, fun j => by unfold World.frozen?; rw [h]; simp⟩
def ShpP (w : World) (o n : Int) (e : Ending) (w' : World) : Prop := ∃ a m c, e = .returned (.agg #[.int .i64 o, .int .i64 n, .int .i64 0, .slice a m c]) ∧ Touch w w' []
set_option maxRecDepth 100000 in
set_option maxHeartbeats 1600000 in
theorem rshape_any {w : World} {b : Nat} {k s o n : Int} (h : RObB w b k s o n 0) :
    Calls Tryd.prog 9 #[.pointer (some ⟨b, 0, none⟩)] w (ShpP w o n) := by
  obtain ⟨Q, hQ⟩ : ∃ Q, Q = w.alloc (.cells #[.int .i64 0, .int .i64 0, .int .i64 0, .slice none 0 0] 46) := ⟨_, rfl⟩
  have hq := heap_alloc_new w (.cells #[.int .i64 0, .int .i64 0, .int .i64 0, .slice none 0 0] 46)
  rw [← hQ] at hq
  have tQ : Touch w Q [] := by rw [hQ]; exact (Touch.refl w []).alloc _
  have hob := h.touch tQ (by simp)
  have hblt := lt_of_heap h.st
  have tA : Touch Q (Q.alloc (.cells #[] 24)).drew [] := ((Touch.refl _ []).alloc _).drew
  have vnil : VRow (Q.alloc (.cells #[] 24)).drew (.slice none 0 0) [] := ⟨none, 0, rfl, fun h => absurd rfl h⟩
  obtain ⟨a, c, V, rA, oA, tV⟩ := app_two (V := (Q.alloc (.cells #[] 24)).drew) tA (e := Q.heap.size) (Nat.le_refl _) (ownsRow_touch (empty_row Q 24 1) ((Touch.refl _ []).drew) (by simp)) vnil rfl (by decide)
  obtain ⟨x0, x1, x2, x3, x4, x5⟩ := (hob.touch ((Touch.refl Q []).drew) (by simp)).cells
  obtain ⟨y0, y1, y2, y3, y4, y5⟩ := (hob.touch tA (by simp)).cells
  obtain ⟨z0, z1, z2, z3, z4, z5⟩ := (hob.touch tV (by simp)).cells
  have hqV := (tV.block _ (lt_of_heap hq) (by simp)).trans hq
  obtain ⟨⟨s0, s1, s2, s3⟩, sf⟩ := shp_cells hqV
  have sf0 := sf 0
  have sf1 := sf 1
  have sf2 := sf 2
  have sf3 := sf 3
  have HFIN : Hid (∀ x y z u, Touch w ((((V.setCell ⟨w.heap.size, 0, none⟩ x).setCell ⟨w.heap.size, 1, none⟩ y).setCell ⟨w.heap.size, 2, none⟩ z).setCell ⟨w.heap.size, 3, none⟩ u) [] ∧ ((((V.setCell ⟨w.heap.size, 0, none⟩ x).setCell ⟨w.heap.size, 1, none⟩ y).setCell ⟨w.heap.size, 2, none⟩ z).setCell ⟨w.heap.size, 3, none⟩ u).heap[w.heap.size]? = some (.cells #[x, y, z, u] 46 (0, 0))) := fun x y z u => by
    refine ⟨((((tQ.trans tV (by simp)).setCell (.inr (Nat.le_refl _)) _).setCell (.inr (Nat.le_refl _)) _).setCell (.inr (Nat.le_refl _)) _).setCell (.inr (Nat.le_refl _)) _, ?_⟩
    rw [heap_setCell_same _ _ _ _ _ _ (heap_setCell_same _ _ _ _ _ _ (heap_setCell_same _ _ _ _ _ _ (heap_setCell_same _ _ _ _ _ _ hqV)))]
    rfl
  have HS : Hid (∀ W, Touch Q W [w.heap.size] → W.cell? ⟨b, 2, none⟩ = some (.int .i64 o) ∧ W.cell? ⟨b, 3, none⟩ = some (.int .i64 n) ∧ W.cell? ⟨b, 4, none⟩ = some (.int .i64 0) ∧ W.cell? ⟨b, 5, none⟩ = some (.slice none 0 0)) := fun W t => by
    obtain ⟨_, _, c2, c3, c4, c5⟩ := (hob.touch t (by simp; omega)).cells
    exact ⟨c2, c3, c4, c5⟩
  have hd0 : Touch Q Q.drew [w.heap.size] := (Touch.refl Q _).drew
  have hd1 : Touch Q (Q.alloc (.cells #[] 24)).drew [w.heap.size] := tA.mono (by simp)
  have hd2 : Touch Q V [w.heap.size] := tV.mono (by simp)
  have hd3 : ∀ x y z u, Touch Q ((((V.setCell ⟨w.heap.size, 0, none⟩ x).setCell ⟨w.heap.size, 1, none⟩ y).setCell ⟨w.heap.size, 2, none⟩ z).setCell ⟨w.heap.size, 3, none⟩ u) [w.heap.size] := fun x y z u => (((hd2.setCell (.inl (by simp)) _).setCell (.inl (by simp)) _).setCell (.inl (by simp)) _).setCell (.inl (by simp)) _
  have HQ : Hid (w.alloc (.cells #[.int .i64 0, .int .i64 0, .int .i64 0, .slice none 0 0] 46) = Q) := hQ.symm
  clear hQ hq tQ hob h tA vnil oA tV hqV sf
  go_enter Tryd.func9, Tryd.ntmps9
  go_wp2_with fail
  rw [HQ.out]
  clear HQ
  go_region_held3 (fun w' => w'.cell? ⟨b, 2, none⟩ = some (.int .i64 o) ∧ w'.cell? ⟨b, 3, none⟩ = some (.int .i64 n) ∧ w'.cell? ⟨b, 4, none⟩ = some (.int .i64 0) ∧ w'.cell? ⟨b, 5, none⟩ = some (.slice none 0 0)) ((first | exact HS.out _ hd0 | exact HS.out _ hd1 | exact HS.out _ hd2 | exact HS.out _ (hd3 _ _ _ _))) ((first | (refine step_append_run (by rfl) (.tmp 18) (.tmp 22) 35 35 (by rfl) (by rfl) (.slice (some ⟨Q.heap.size, 0, none⟩) 0 0) (.slice none 0 0) (.slice a 0 c) V (by rfl) (by rfl) rA ?_)))
  all_goals
    go_wp2_with fail
    obtain ⟨h8, h9⟩ := HFIN.out (.int .i64 o) (.int .i64 n) (.int .i64 0) (.slice a 0 c)
    refine bodyPost_ret (v := .agg #[.int .i64 o, .int .i64 n, .int .i64 0, .slice a 0 c]) ?_ rfl ⟨a, 0, c, rfl, h8⟩
    rw [res_cellC rfl]
    obtain ⟨⟨p0, p1, p2, p3⟩, _⟩ := shp_cells h9
    simp [go_sem, p0, p1, p2, p3]

end Go.Proofs.YtkpgfchglaemgaaDoor
