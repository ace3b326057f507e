/-
  package object, the document's: Shape BY ITS CONTRACT, with values.
-/
import Derived.Test.YtkpgfchglaemgaaDoorRvDo
namespace Go.Proofs.YtkpgfchglaemgaaDoor
set_option linter.unusedVariables false
set_option linter.unusedSimpArgs false
open Go.RowKit
attribute [local go_sem] Oper.semAt_some

/-- What Shape answers. -/
def ShvP (w : World) (o n g : Int) (l : List Int) (e : Ending) (w' : World) : Prop := ∃ a c, e = .returned (.agg #[.int .i64 o, .int .i64 n, .int .i64 g, .slice a l.length c]) ∧ VRow w' (.slice a l.length c) l ∧ (∀ x, (Value.slice a l.length c).ownBlock = some x → w.heap.size ≤ x) ∧ Touch w w' []
set_option maxRecDepth 100000 in
set_option maxHeartbeats 1600000 in
theorem rshapev_any {w : World} {b : Nat} {k s o n g : Int} {v : Value} {l : List Int} (h : RObV w b k s o n g v l) (hl : l.length ≤ 900) :
    Calls Tryd.prog 9 #[.pointer (some ⟨b, 0, none⟩)] w (ShvP w o n g l) := by
  obtain ⟨va, vc, rfl⟩ := h.row.form
  obtain ⟨Q, hQ⟩ : ∃ Q, Q = w.alloc (.cells #[.int .i64 0, .int .i64 0, .int .i64 0, .slice none 0 0] 46) := ⟨_, rfl⟩
  have hq := heap_alloc_new w (.cells #[.int .i64 0, .int .i64 0, .int .i64 0, .slice none 0 0] 46)
  rw [← hQ] at hq
  have hqs : Q.heap.size = w.heap.size + 1 := by rw [hQ]; simp
  have tQ : Touch w Q [] := by rw [hQ]; exact (Touch.refl w []).alloc _
  have hob := h.touch tQ (by simp) (by simp)
  have hblt := lt_of_heap h.st
  have tA : Touch Q (Q.alloc (.cells #[] 24)).drew [] := ((Touch.refl _ []).alloc _).drew
  obtain ⟨a, c, V, rA, oA, tV⟩ := app_two (V := (Q.alloc (.cells #[] 24)).drew) tA (e := Q.heap.size) (Nat.le_refl _) (ownsRow_touch (empty_row Q 24 1) ((Touch.refl _ []).drew) (by simp)) (SRow.keep hob.row tA (by simp)) rfl (by omega)
  obtain ⟨x0, x1, x2, x3, x4, x5⟩ := (hob.touch ((Touch.refl Q []).drew) (by simp) (by simp)).cells
  obtain ⟨y0, y1, y2, y3, y4, y5⟩ := (hob.touch tA (by simp) (by simp)).cells
  obtain ⟨z0, z1, z2, z3, z4, z5⟩ := (hob.touch tV (by simp) (by simp)).cells
  have hqV := (tV.block _ (lt_of_heap hq) (by simp)).trans hq
  obtain ⟨⟨s0, s1, s2, s3⟩, sf⟩ := shp_cells hqV
  have sf0 := sf 0
  have sf1 := sf 1
  have sf2 := sf 2
  have sf3 := sf 3
  have HFIN : Hid (∀ x y z u, Touch w ((((V.setCell ⟨w.heap.size, 0, none⟩ x).setCell ⟨w.heap.size, 1, none⟩ y).setCell ⟨w.heap.size, 2, none⟩ z).setCell ⟨w.heap.size, 3, none⟩ u) [] ∧ ((((V.setCell ⟨w.heap.size, 0, none⟩ x).setCell ⟨w.heap.size, 1, none⟩ y).setCell ⟨w.heap.size, 2, none⟩ z).setCell ⟨w.heap.size, 3, none⟩ u).heap[w.heap.size]? = some (.cells #[x, y, z, u] 46 (0, 0)) ∧ VRow ((((V.setCell ⟨w.heap.size, 0, none⟩ x).setCell ⟨w.heap.size, 1, none⟩ y).setCell ⟨w.heap.size, 2, none⟩ z).setCell ⟨w.heap.size, 3, none⟩ u) (.slice a l.length c) l) := fun x y z u => by
    refine ⟨((((tQ.trans tV (by simp)).setCell (.inr (Nat.le_refl _)) _).setCell (.inr (Nat.le_refl _)) _).setCell (.inr (Nat.le_refl _)) _).setCell (.inr (Nat.le_refl _)) _, ?_, ?_⟩
    rotate_left
    · exact SRow.keepB (vrow_of oA) (((((Touch.refl V [w.heap.size]).setCell (.inl (by simp)) _).setCell (.inl (by simp)) _).setCell (.inl (by simp)) _).setCell (.inl (by simp)) _) (fun _ x hx hs => by have := own_ge oA x hx; simp at hs; omega)
    rw [heap_setCell_same _ _ _ _ _ _ (heap_setCell_same _ _ _ _ _ _ (heap_setCell_same _ _ _ _ _ _ (heap_setCell_same _ _ _ _ _ _ hqV)))]
    rfl
  have HFR : Hid (∀ x, (Value.slice a l.length c).ownBlock = some x → w.heap.size ≤ x) := fun x hx => by have := own_ge oA x hx; omega
  have HS : Hid (∀ W, Touch Q W [w.heap.size] → W.cell? ⟨b, 2, none⟩ = some (.int .i64 o) ∧ W.cell? ⟨b, 3, none⟩ = some (.int .i64 n) ∧ W.cell? ⟨b, 4, none⟩ = some (.int .i64 g) ∧ W.cell? ⟨b, 5, none⟩ = some (.slice va l.length vc)) := fun W t => by
    obtain ⟨_, _, c2, c3, c4, c5⟩ := (hob.touch t (by simp; omega) (fun hne x hx hs => by have := SRow.block h.row hne x hx; simp at hs; omega)).cells
    exact ⟨c2, c3, c4, c5⟩
  have hd0 : Touch Q Q.drew [w.heap.size] := (Touch.refl Q _).drew
  have hd1 : Touch Q (Q.alloc (.cells #[] 24)).drew [w.heap.size] := tA.mono (by simp)
  have hd2 : Touch Q V [w.heap.size] := tV.mono (by simp)
  have hd3 : ∀ x y z u, Touch Q ((((V.setCell ⟨w.heap.size, 0, none⟩ x).setCell ⟨w.heap.size, 1, none⟩ y).setCell ⟨w.heap.size, 2, none⟩ z).setCell ⟨w.heap.size, 3, none⟩ u) [w.heap.size] := fun x y z u => (((hd2.setCell (.inl (by simp)) _).setCell (.inl (by simp)) _).setCell (.inl (by simp)) _).setCell (.inl (by simp)) _
  have HQ : Hid (w.alloc (.cells #[.int .i64 0, .int .i64 0, .int .i64 0, .slice none 0 0] 46) = Q) := hQ.symm
  clear hQ hq tQ hob h tA oA tV hqV sf hqs
  go_enter Tryd.func9, Tryd.ntmps9
  go_wp2_with fail
  rw [HQ.out]
  clear HQ
  go_region_held3 (fun w' => w'.cell? ⟨b, 2, none⟩ = some (.int .i64 o) ∧ w'.cell? ⟨b, 3, none⟩ = some (.int .i64 n) ∧ w'.cell? ⟨b, 4, none⟩ = some (.int .i64 g) ∧ w'.cell? ⟨b, 5, none⟩ = some (.slice va l.length vc)) ((first | exact HS.out _ hd0 | exact HS.out _ hd1 | exact HS.out _ hd2 | exact HS.out _ (hd3 _ _ _ _))) ((first | (refine step_append_run (by rfl) (.tmp 18) (.tmp 22) 35 35 (by rfl) (by rfl) (.slice (some ⟨Q.heap.size, 0, none⟩) 0 0) (.slice va l.length vc) (.slice a l.length c) V (by rfl) (by rfl) rA ?_)))
  all_goals
    go_wp2_with fail
    obtain ⟨h8, h9, h11⟩ := HFIN.out (.int .i64 o) (.int .i64 n) (.int .i64 g) (.slice a l.length c)
    refine bodyPost_ret (v := .agg #[.int .i64 o, .int .i64 n,   .int .i64 g, .slice a l.length c]) ?_ rfl ⟨a, c, rfl, h11, HFR.out, h8⟩
    rw [res_cellC rfl]
    obtain ⟨⟨p0, p1, p2, p3⟩, _⟩ := shp_cells h9
    simp [go_sem, p0, p1, p2, p3]

end Go.Proofs.YtkpgfchglaemgaaDoor
