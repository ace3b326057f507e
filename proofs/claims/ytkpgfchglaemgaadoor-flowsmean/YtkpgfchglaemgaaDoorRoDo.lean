/-
  package object, the document's: Do and Shape BY THEIR CONTRACTS, for a mutex and a semaphore.
-/
import Derived.Test.YtkpgfchglaemgaaDoorRoObj
import Derived.Deep.QuietTactic
import Derived.BigQuiet
namespace Go.Proofs.YtkpgfchglaemgaaDoor
set_option linter.unusedVariables false
set_option linter.unusedSimpArgs false
open Go.RowKit
attribute [local go_sem] Oper.semAt_some

/-- What Do answers, and how the object is then. -/
def DoP (w : World) (b : Nat) (v : Int) (bl : Bool) (k s o n : Int) (e : Ending) (w' : World) : Prop := e = .returned (.agg #[.int .u64 v, .bool bl, .int .i64 0]) ∧ RObB w' b k s o n 0 ∧ Touch w w' [b]
theorem ans_cells {W : World} {p : Nat} {x y z : Value} (h : W.heap[p]? = some (.cells #[x, y, z] 43 (0, 0))) : W.cell? ⟨p, 0, none⟩ = some x ∧ W.cell? ⟨p, 1, none⟩ = some y ∧ W.cell? ⟨p, 2, none⟩ = some z := ⟨by unfold World.cell?; rw [h]; rfl, by unfold World.cell?; rw [h]; rfl, by unfold World.cell?; rw [h]; rfl⟩
theorem do_Q (w : World) (c u : Int) : ∀ Q, Q = (w.alloc (.cells #[.int .u8 c, .int .i64 u, .int .u64 0] 30)).alloc (.cells #[.int .u64 0, .bool false, .int .i64 0] 43) → BoxC Q w.heap.size c u 0 ∧ Q.heap[w.heap.size + 1]? = some (.cells #[.int .u64 0, .bool false, .int .i64 0] 43 (0, 0)) ∧ Touch w Q [] ∧ Q.heap.size = w.heap.size + 2 := by
  intro Q hQ
  have h2 := heap_alloc_new (w.alloc (.cells #[.int .u8 c, .int .i64 u, .int .u64 0] 30)) (.cells #[.int .u64 0, .bool false, .int .i64 0] 43)
  have s1 : (w.alloc (.cells #[.int .u8 c, .int .i64 u, .int .u64 0] 30)).heap.size = w.heap.size + 1 := by simp
  rw [s1] at h2
  subst hQ
  exact ⟨(BoxC.new w c u 0).touch ((Touch.refl _ []).alloc _) (by simp), h2, ((Touch.refl w []).alloc _).alloc _, by simp⟩

set_option maxRecDepth 100000 in
set_option maxHeartbeats 4000000 in
theorem rdo_lock {w : World} {b : Nat} {s u : Int} {n : Int} (hu : 0 ≤ u ∧ u < 4) (h : RObB w b 1 s (-1) n 0) :
    Calls Tryd.prog 8 #[.pointer (some ⟨b, 0, none⟩), .agg #[.int .u8 1, .int .i64 u, .int .u64 0]] w (DoP w b 4607182418800017408 false 1 s u n) := by
  obtain ⟨Q, hQ⟩ : ∃ Q, Q = (w.alloc (.cells #[.int .u8 1, .int .i64 u, .int .u64 0] 30)).alloc (.cells #[.int .u64 0, .bool false, .int .i64 0] 43) := ⟨_, rfl⟩
  obtain ⟨qb, qa, qt, qs⟩ := do_Q w 1 u Q hQ
  have HQ : Hid ((w.alloc (.cells #[.int .u8 1, .int .i64 u, .int .u64 0] 30)).alloc (.cells #[.int .u64 0, .bool false, .int .i64 0] 43) = Q) := hQ.symm
  clear hQ
  have hob := h.touch qt (by simp)
  have hblt := lt_of_heap h.st
  have HTK : HidC _ _ _ _ _ := ⟨rtakes_any hob 1 (by omega)⟩
  have HFT : Hid (∀ W, HidC Tryd.prog 18 #[.agg #[.int .u8 1, .int .i64 u, .int .u64 0]] W fun e w' => e = .returned (.bool true) ∧ Touch W w' []) := fun W => ⟨rofits_any 1 u (by omega) W⟩
  have HIN : Hid (∀ W, HidC Tryd.prog 4 #[.int .i64 0] W fun e w' => e = .returned (.tuple #[.int .u64 (ofB (floatOfInt .f64 0)), .bool true]) ∧ W = w') := fun W => ⟨rint_ok 0 (by omega) (by omega) W⟩
  obtain ⟨x0, x1, x2⟩ := qb.cells
  have a0 : Q.cell? ⟨w.heap.size + 1, 0, none⟩ = some (.int .u64 0) := by unfold World.cell?; rw [qa]; rfl
  have hu0 : decide (u < 0) = false := decide_eq_false (by omega)
  have hu5 : decide (4 ≤ u) = false := decide_eq_false (by omega)
  -- behind Fits: two answers more
  have HW : Hid (∀ w2, Touch Q w2 [] → ∀ W, W = (w2.alloc (.cells #[.int .u64 4607182418800017408, .bool false, .int .i64 0] 43)).alloc (.cells #[.int .u64 0, .bool true, .int .i64 0] 43) → Touch w W [] ∧ BoxC W w.heap.size 1 u 0 ∧ RObB W b 1 s (-1) n 0 ∧ W.heap[w.heap.size + 1]? = some (.cells #[.int .u64 0, .bool false, .int .i64 0] 43 (0, 0)) ∧ W.heap[w2.heap.size]? = some (.cells #[.int .u64 4607182418800017408, .bool false, .int .i64 0] 43 (0, 0)) ∧ W.heap[w2.heap.size + 1]? = some (.cells #[.int .u64 0, .bool true, .int .i64 0] 43 (0, 0)) ∧ w.heap.size + 2 ≤ w2.heap.size) := fun w2 t W hW => by
    have tA : Touch Q W [] := by rw [hW]; exact (t.alloc _).alloc _
    have h1 := heap_alloc_new w2 (.cells #[.int .u64 4607182418800017408, .bool false, .int .i64 0] 43)
    have h2 := heap_alloc_new (w2.alloc (.cells #[.int .u64 4607182418800017408, .bool false, .int .i64 0] 43)) (.cells #[.int .u64 0, .bool true, .int .i64 0] 43)
    have s1 : (w2.alloc (.cells #[.int .u64 4607182418800017408, .bool false, .int .i64 0] 43)).heap.size = w2.heap.size + 1 := by simp
    have h3 : W.heap[w2.heap.size]? = some (.cells #[.int .u64 4607182418800017408, .bool false, .int .i64 0] 43 (0, 0)) := by rw [hW]; exact (((Touch.refl _ []).alloc _).block _ (lt_of_heap h1) (by simp)).trans h1
    rw [s1, ← hW] at h2
    have := t.size
    exact ⟨qt.trans tA (by simp), qb.touch tA (by simp), hob.touch tA (by simp), (tA.block _ (lt_of_heap qa) (by simp)).trans qa, h3, h2, by omega⟩
  have HTQ : Hid _ := qt
  clear qb qa qt qs hob h
  go_enter Tryd.func8, Tryd.ntmps8
  go_wp2_with fail
  rw [HQ.out]
  clear HQ
  go_wp2_with fail
  refine HTK.out.mono ?_
  rintro e _ ⟨rfl, rfl⟩
  clear HTK
  go_wp2_with fail
  refine (HFT.out _).out.mono ?_
  rintro e w2 ⟨rfl, t2⟩
  clear HFT x0 x1 x2 a0
  obtain ⟨W, hW⟩ : ∃ W, W = (w2.alloc (.cells #[.int .u64 4607182418800017408, .bool false, .int .i64 0] 43)).alloc (.cells #[.int .u64 0, .bool true, .int .i64 0] 43) := ⟨_, rfl⟩
  obtain ⟨tW, bW, oW, aW, yW, zW, sW⟩ := HW.out w2 t2 W hW
  obtain ⟨x0, x1, x2⟩ := bW.cells
  obtain ⟨y0, y1, y2, y3, y4, y5⟩ := oW.cells
  have yf := oW.fr 2
  have yg := oW.fr 3
  have q0 : W.cell? ⟨w.heap.size + 1, 0, none⟩ = some (.int .u64 0) := by unfold World.cell?; rw [aW]; rfl
  have q1 : W.cell? ⟨w.heap.size + 1, 1, none⟩ = some (.bool false) := by unfold World.cell?; rw [aW]; rfl
  have q2 : W.cell? ⟨w.heap.size + 1, 2, none⟩ = some (.int .i64 0) := by unfold World.cell?; rw [aW]; rfl
  have r0 : W.cell? ⟨w2.heap.size, 0, none⟩ = some (.int .u64 4607182418800017408) := by unfold World.cell?; rw [yW]; rfl
  have r1 : W.cell? ⟨w2.heap.size, 1, none⟩ = some (.bool false) := by unfold World.cell?; rw [yW]; rfl
  have r2 : W.cell? ⟨w2.heap.size, 2, none⟩ = some (.int .i64 0) := by unfold World.cell?; rw [yW]; rfl
  have u0 : W.cell? ⟨w2.heap.size + 1, 0, none⟩ = some (.int .u64 0) := by unfold World.cell?; rw [zW]; rfl
  have u1 : W.cell? ⟨w2.heap.size + 1, 1, none⟩ = some (.bool true) := by unfold World.cell?; rw [zW]; rfl
  have u2 : W.cell? ⟨w2.heap.size + 1, 2, none⟩ = some (.int .i64 0) := by unfold World.cell?; rw [zW]; rfl
  have qf0 : W.frozen? ⟨w.heap.size + 1, 0, none⟩ = false := by unfold World.frozen?; rw [aW]; simp
  have qf1 : W.frozen? ⟨w.heap.size + 1, 1, none⟩ = false := by unfold World.frozen?; rw [aW]; simp
  have qf2 : W.frozen? ⟨w.heap.size + 1, 2, none⟩ = false := by unfold World.frozen?; rw [aW]; simp
  have n1 : b ≠ w.heap.size + 1 := by omega
  have n2 : b ≠ w2.heap.size := by omega
  have n3 : b ≠ w2.heap.size + 1 := by omega
  have n4 : w.heap.size + 1 ≠ w2.heap.size := by omega
  have n5 : w.heap.size ≠ b := by omega
  have n6 : w2.heap.size + 1 ≠ b := by omega
  have n7 : w2.heap.size ≠ b := by omega
  have n8 : w.heap.size + 1 ≠ b := by omega
  have HFIN : Hid (∀ W0, Touch W W0 [] → ∀ x y z, RObB ((((W0.setCell ⟨b, 2, none⟩ (.int .i64 u)).setCell ⟨w.heap.size + 1, 0, none⟩ x).setCell ⟨w.heap.size + 1, 1, none⟩ y).setCell ⟨w.heap.size + 1, 2, none⟩ z) b 1 s u n 0 ∧ Touch w ((((W0.setCell ⟨b, 2, none⟩ (.int .i64 u)).setCell ⟨w.heap.size + 1, 0, none⟩ x).setCell ⟨w.heap.size + 1, 1, none⟩ y).setCell ⟨w.heap.size + 1, 2, none⟩ z) [b] ∧ ((((W0.setCell ⟨b, 2, none⟩ (.int .i64 u)).setCell ⟨w.heap.size + 1, 0, none⟩ x).setCell ⟨w.heap.size + 1, 1, none⟩ y).setCell ⟨w.heap.size + 1, 2, none⟩ z).heap[w.heap.size + 1]? = some (.cells #[x, y, z] 43 (0, 0))) := fun W0 t0 x y z => by
    have r : RObB (W0.setCell ⟨b, 2, none⟩ (.int .i64 u)) b 1 s u n 0 := (oW.touch t0 (by simp)).seto u
    have t : Touch W (W0.setCell ⟨b, 2, none⟩ (.int .i64 u)) [b] := (t0.mono (by simp)).setCell (.inl (by simp)) _
    have hA := (t.block _ (lt_of_heap aW) (by simp; omega)).trans aW
    have tS : Touch (W0.setCell ⟨b, 2, none⟩ (.int .i64 u)) ((((W0.setCell ⟨b, 2, none⟩ (.int .i64 u)).setCell ⟨w.heap.size + 1, 0, none⟩ x).setCell ⟨w.heap.size + 1, 1, none⟩ y).setCell ⟨w.heap.size + 1, 2, none⟩ z) [w.heap.size + 1] := (((Touch.refl _ _).setCell (.inl (by simp)) _).setCell (.inl (by simp)) _).setCell (.inl (by simp)) _
    refine ⟨r.touch tS (by simp; omega), ((tW.mono (by simp)).trans t (fun x hx => .inl hx)).trans tS (fun x hx => .inr (by simp at hx; omega)), ?_⟩
    rw [heap_setCell_same _ _ _ _ _ _ (heap_setCell_same _ _ _ _ _ _ (heap_setCell_same _ _ _ _ _ _ hA))]
    rfl
  clear tW bW oW aW yW zW sW HW t2
  subst hW
  go_wp2_with fail
  refine (HIN.out _).out.mono ?_
  rintro e _ ⟨rfl, rfl⟩
  clear HIN
  generalize hX : (w2.alloc (.cells #[.int .u64 4607182418800017408, .bool false, .int .i64 0] 43)).alloc (.cells #[.int .u64 0, .bool true, .int .i64 0] 43) = W at *
  have hX' := hX
  clear hX hX'
  go_wp2_with fail
  obtain ⟨h8, h9, h10⟩ := HFIN.out W (Touch.refl W []) (.int .u64 4607182418800017408) (.bool false) (.int .i64 0)
  refine bodyPost_ret (v := .agg #[.int .u64 4607182418800017408, .bool false, .int .i64 0]) ?_ rfl ⟨rfl, h8, h9⟩
  rw [res_cellC rfl]
  obtain ⟨z0, z1, z2⟩ := ans_cells h10
  simp [go_sem, z0, z1, z2]
set_option maxRecDepth 100000 in
set_option maxHeartbeats 4000000 in
theorem rdo_held {w : World} {b : Nat} {s u : Int} {n : Int} {o : Int} (ho : 0 ≤ o) (hu : 0 ≤ u ∧ u < 4) (h : RObB w b 1 s o n 0) :
    Calls Tryd.prog 8 #[.pointer (some ⟨b, 0, none⟩), .agg #[.int .u8 1, .int .i64 u, .int .u64 0]] w (DoP w b 0 true 1 s o n) := by
  obtain ⟨Q, hQ⟩ : ∃ Q, Q = (w.alloc (.cells #[.int .u8 1, .int .i64 u, .int .u64 0] 30)).alloc (.cells #[.int .u64 0, .bool false, .int .i64 0] 43) := ⟨_, rfl⟩
  obtain ⟨qb, qa, qt, qs⟩ := do_Q w 1 u Q hQ
  have HQ : Hid ((w.alloc (.cells #[.int .u8 1, .int .i64 u, .int .u64 0] 30)).alloc (.cells #[.int .u64 0, .bool false, .int .i64 0] 43) = Q) := hQ.symm
  clear hQ
  have hob := h.touch qt (by simp)
  have hblt := lt_of_heap h.st
  have HTK : HidC _ _ _ _ _ := ⟨rtakes_any hob 1 (by omega)⟩
  have HFT : Hid (∀ W, HidC Tryd.prog 18 #[.agg #[.int .u8 1, .int .i64 u, .int .u64 0]] W fun e w' => e = .returned (.bool true) ∧ Touch W w' []) := fun W => ⟨rofits_any 1 u (by omega) W⟩
  have HIN : Hid (∀ W, HidC Tryd.prog 4 #[.int .i64 0] W fun e w' => e = .returned (.tuple #[.int .u64 (ofB (floatOfInt .f64 0)), .bool true]) ∧ W = w') := fun W => ⟨rint_ok 0 (by omega) (by omega) W⟩
  obtain ⟨x0, x1, x2⟩ := qb.cells
  have a0 : Q.cell? ⟨w.heap.size + 1, 0, none⟩ = some (.int .u64 0) := by unfold World.cell?; rw [qa]; rfl
  have hu0 : decide (u < 0) = false := decide_eq_false (by omega)
  have hu5 : decide (4 ≤ u) = false := decide_eq_false (by omega)
  have d1 : decide (o ≥ 0) = true := decide_eq_true ho
  -- behind Fits: two answers more
  have HW : Hid (∀ w2, Touch Q w2 [] → ∀ W, W = (w2.alloc (.cells #[.int .u64 4607182418800017408, .bool false, .int .i64 0] 43)).alloc (.cells #[.int .u64 0, .bool true, .int .i64 0] 43) → Touch w W [] ∧ BoxC W w.heap.size 1 u 0 ∧ RObB W b 1 s o n 0 ∧ W.heap[w.heap.size + 1]? = some (.cells #[.int .u64 0, .bool false, .int .i64 0] 43 (0, 0)) ∧ W.heap[w2.heap.size]? = some (.cells #[.int .u64 4607182418800017408, .bool false, .int .i64 0] 43 (0, 0)) ∧ W.heap[w2.heap.size + 1]? = some (.cells #[.int .u64 0, .bool true, .int .i64 0] 43 (0, 0)) ∧ w.heap.size + 2 ≤ w2.heap.size) := fun w2 t W hW => by
    have tA : Touch Q W [] := by rw [hW]; exact (t.alloc _).alloc _
    have h1 := heap_alloc_new w2 (.cells #[.int .u64 4607182418800017408, .bool false, .int .i64 0] 43)
    have h2 := heap_alloc_new (w2.alloc (.cells #[.int .u64 4607182418800017408, .bool false, .int .i64 0] 43)) (.cells #[.int .u64 0, .bool true, .int .i64 0] 43)
    have s1 : (w2.alloc (.cells #[.int .u64 4607182418800017408, .bool false, .int .i64 0] 43)).heap.size = w2.heap.size + 1 := by simp
    have h3 : W.heap[w2.heap.size]? = some (.cells #[.int .u64 4607182418800017408, .bool false, .int .i64 0] 43 (0, 0)) := by rw [hW]; exact (((Touch.refl _ []).alloc _).block _ (lt_of_heap h1) (by simp)).trans h1
    rw [s1, ← hW] at h2
    have := t.size
    exact ⟨qt.trans tA (by simp), qb.touch tA (by simp), hob.touch tA (by simp), (tA.block _ (lt_of_heap qa) (by simp)).trans qa, h3, h2, by omega⟩
  have HTQ : Hid _ := qt
  clear qb qa qt qs hob h
  go_enter Tryd.func8, Tryd.ntmps8
  go_wp2_with fail
  rw [HQ.out]
  clear HQ
  go_wp2_with fail
  refine HTK.out.mono ?_
  rintro e _ ⟨rfl, rfl⟩
  clear HTK
  go_wp2_with fail
  refine (HFT.out _).out.mono ?_
  rintro e w2 ⟨rfl, t2⟩
  clear HFT x0 x1 x2 a0
  obtain ⟨W, hW⟩ : ∃ W, W = (w2.alloc (.cells #[.int .u64 4607182418800017408, .bool false, .int .i64 0] 43)).alloc (.cells #[.int .u64 0, .bool true, .int .i64 0] 43) := ⟨_, rfl⟩
  obtain ⟨tW, bW, oW, aW, yW, zW, sW⟩ := HW.out w2 t2 W hW
  obtain ⟨x0, x1, x2⟩ := bW.cells
  obtain ⟨y0, y1, y2, y3, y4, y5⟩ := oW.cells
  have yf := oW.fr 2
  have yg := oW.fr 3
  have q0 : W.cell? ⟨w.heap.size + 1, 0, none⟩ = some (.int .u64 0) := by unfold World.cell?; rw [aW]; rfl
  have q1 : W.cell? ⟨w.heap.size + 1, 1, none⟩ = some (.bool false) := by unfold World.cell?; rw [aW]; rfl
  have q2 : W.cell? ⟨w.heap.size + 1, 2, none⟩ = some (.int .i64 0) := by unfold World.cell?; rw [aW]; rfl
  have r0 : W.cell? ⟨w2.heap.size, 0, none⟩ = some (.int .u64 4607182418800017408) := by unfold World.cell?; rw [yW]; rfl
  have r1 : W.cell? ⟨w2.heap.size, 1, none⟩ = some (.bool false) := by unfold World.cell?; rw [yW]; rfl
  have r2 : W.cell? ⟨w2.heap.size, 2, none⟩ = some (.int .i64 0) := by unfold World.cell?; rw [yW]; rfl
  have u0 : W.cell? ⟨w2.heap.size + 1, 0, none⟩ = some (.int .u64 0) := by unfold World.cell?; rw [zW]; rfl
  have u1 : W.cell? ⟨w2.heap.size + 1, 1, none⟩ = some (.bool true) := by unfold World.cell?; rw [zW]; rfl
  have u2 : W.cell? ⟨w2.heap.size + 1, 2, none⟩ = some (.int .i64 0) := by unfold World.cell?; rw [zW]; rfl
  have qf0 : W.frozen? ⟨w.heap.size + 1, 0, none⟩ = false := by unfold World.frozen?; rw [aW]; simp
  have qf1 : W.frozen? ⟨w.heap.size + 1, 1, none⟩ = false := by unfold World.frozen?; rw [aW]; simp
  have qf2 : W.frozen? ⟨w.heap.size + 1, 2, none⟩ = false := by unfold World.frozen?; rw [aW]; simp
  have n1 : b ≠ w.heap.size + 1 := by omega
  have n2 : b ≠ w2.heap.size := by omega
  have n3 : b ≠ w2.heap.size + 1 := by omega
  have n4 : w.heap.size + 1 ≠ w2.heap.size := by omega
  have n5 : w.heap.size ≠ b := by omega
  have n6 : w2.heap.size + 1 ≠ b := by omega
  have n7 : w2.heap.size ≠ b := by omega
  have n8 : w.heap.size + 1 ≠ b := by omega
  have HFIN : Hid (∀ W0, Touch W W0 [] → ∀ x y z, RObB (((W0.setCell ⟨w.heap.size + 1, 0, none⟩ x).setCell ⟨w.heap.size + 1, 1, none⟩ y).setCell ⟨w.heap.size + 1, 2, none⟩ z) b 1 s o n 0 ∧ Touch w (((W0.setCell ⟨w.heap.size + 1, 0, none⟩ x).setCell ⟨w.heap.size + 1, 1, none⟩ y).setCell ⟨w.heap.size + 1, 2, none⟩ z) [b] ∧ (((W0.setCell ⟨w.heap.size + 1, 0, none⟩ x).setCell ⟨w.heap.size + 1, 1, none⟩ y).setCell ⟨w.heap.size + 1, 2, none⟩ z).heap[w.heap.size + 1]? = some (.cells #[x, y, z] 43 (0, 0))) := fun W0 t0 x y z => by
    have r : RObB W0 b 1 s o n 0 := oW.touch t0 (by simp)
    have t : Touch W W0 [b] := t0.mono (by simp)
    have hA := (t.block _ (lt_of_heap aW) (by simp; omega)).trans aW
    have tS : Touch W0 (((W0.setCell ⟨w.heap.size + 1, 0, none⟩ x).setCell ⟨w.heap.size + 1, 1, none⟩ y).setCell ⟨w.heap.size + 1, 2, none⟩ z) [w.heap.size + 1] := (((Touch.refl _ _).setCell (.inl (by simp)) _).setCell (.inl (by simp)) _).setCell (.inl (by simp)) _
    refine ⟨r.touch tS (by simp; omega), ((tW.mono (by simp)).trans t (fun x hx => .inl hx)).trans tS (fun x hx => .inr (by simp at hx; omega)), ?_⟩
    rw [heap_setCell_same _ _ _ _ _ _ (heap_setCell_same _ _ _ _ _ _ (heap_setCell_same _ _ _ _ _ _ hA))]
    rfl
  clear tW bW oW aW yW zW sW HW t2
  subst hW
  go_wp2_with fail
  refine (HIN.out _).out.mono ?_
  rintro e _ ⟨rfl, rfl⟩
  clear HIN
  generalize hX : (w2.alloc (.cells #[.int .u64 4607182418800017408, .bool false, .int .i64 0] 43)).alloc (.cells #[.int .u64 0, .bool true, .int .i64 0] 43) = W at *
  have hX' := hX
  clear hX hX'
  go_wp2_with fail
  obtain ⟨h8, h9, h10⟩ := HFIN.out W (Touch.refl W []) (.int .u64 0) (.bool true) (.int .i64 0)
  refine bodyPost_ret (v := .agg #[.int .u64 0, .bool true, .int .i64 0]) ?_ rfl ⟨rfl, h8, h9⟩
  rw [res_cellC rfl]
  obtain ⟨z0, z1, z2⟩ := ans_cells h10
  simp [go_sem, z0, z1, z2]
set_option maxRecDepth 100000 in
set_option maxHeartbeats 4000000 in
theorem rdo_notmine {w : World} {b : Nat} {s u : Int} {n : Int} {o : Int} (ho : o ≠ u) (hu : 0 ≤ u ∧ u < 4) (h : RObB w b 1 s o n 0) :
    Calls Tryd.prog 8 #[.pointer (some ⟨b, 0, none⟩), .agg #[.int .u8 2, .int .i64 u, .int .u64 0]] w (DoP w b 0 false 1 s o n) := by
  obtain ⟨Q, hQ⟩ : ∃ Q, Q = (w.alloc (.cells #[.int .u8 2, .int .i64 u, .int .u64 0] 30)).alloc (.cells #[.int .u64 0, .bool false, .int .i64 0] 43) := ⟨_, rfl⟩
  obtain ⟨qb, qa, qt, qs⟩ := do_Q w 2 u Q hQ
  have HQ : Hid ((w.alloc (.cells #[.int .u8 2, .int .i64 u, .int .u64 0] 30)).alloc (.cells #[.int .u64 0, .bool false, .int .i64 0] 43) = Q) := hQ.symm
  clear hQ
  have hob := h.touch qt (by simp)
  have hblt := lt_of_heap h.st
  have HTK : HidC _ _ _ _ _ := ⟨rtakes_any hob 2 (by omega)⟩
  have HFT : Hid (∀ W, HidC Tryd.prog 18 #[.agg #[.int .u8 2, .int .i64 u, .int .u64 0]] W fun e w' => e = .returned (.bool true) ∧ Touch W w' []) := fun W => ⟨rofits_any 2 u (by omega) W⟩
  have HIN : Hid (∀ W, HidC Tryd.prog 4 #[.int .i64 0] W fun e w' => e = .returned (.tuple #[.int .u64 (ofB (floatOfInt .f64 0)), .bool true]) ∧ W = w') := fun W => ⟨rint_ok 0 (by omega) (by omega) W⟩
  obtain ⟨x0, x1, x2⟩ := qb.cells
  have a0 : Q.cell? ⟨w.heap.size + 1, 0, none⟩ = some (.int .u64 0) := by unfold World.cell?; rw [qa]; rfl
  have hu0 : decide (u < 0) = false := decide_eq_false (by omega)
  have hu5 : decide (4 ≤ u) = false := decide_eq_false (by omega)
  -- behind Fits: two answers more
  have HW : Hid (∀ w2, Touch Q w2 [] → ∀ W, W = (w2.alloc (.cells #[.int .u64 4607182418800017408, .bool false, .int .i64 0] 43)).alloc (.cells #[.int .u64 0, .bool true, .int .i64 0] 43) → Touch w W [] ∧ BoxC W w.heap.size 2 u 0 ∧ RObB W b 1 s o n 0 ∧ W.heap[w.heap.size + 1]? = some (.cells #[.int .u64 0, .bool false, .int .i64 0] 43 (0, 0)) ∧ W.heap[w2.heap.size]? = some (.cells #[.int .u64 4607182418800017408, .bool false, .int .i64 0] 43 (0, 0)) ∧ W.heap[w2.heap.size + 1]? = some (.cells #[.int .u64 0, .bool true, .int .i64 0] 43 (0, 0)) ∧ w.heap.size + 2 ≤ w2.heap.size) := fun w2 t W hW => by
    have tA : Touch Q W [] := by rw [hW]; exact (t.alloc _).alloc _
    have h1 := heap_alloc_new w2 (.cells #[.int .u64 4607182418800017408, .bool false, .int .i64 0] 43)
    have h2 := heap_alloc_new (w2.alloc (.cells #[.int .u64 4607182418800017408, .bool false, .int .i64 0] 43)) (.cells #[.int .u64 0, .bool true, .int .i64 0] 43)
    have s1 : (w2.alloc (.cells #[.int .u64 4607182418800017408, .bool false, .int .i64 0] 43)).heap.size = w2.heap.size + 1 := by simp
    have h3 : W.heap[w2.heap.size]? = some (.cells #[.int .u64 4607182418800017408, .bool false, .int .i64 0] 43 (0, 0)) := by rw [hW]; exact (((Touch.refl _ []).alloc _).block _ (lt_of_heap h1) (by simp)).trans h1
    rw [s1, ← hW] at h2
    have := t.size
    exact ⟨qt.trans tA (by simp), qb.touch tA (by simp), hob.touch tA (by simp), (tA.block _ (lt_of_heap qa) (by simp)).trans qa, h3, h2, by omega⟩
  have HTQ : Hid _ := qt
  clear qb qa qt qs hob h
  go_enter Tryd.func8, Tryd.ntmps8
  go_wp2_with fail
  rw [HQ.out]
  clear HQ
  go_wp2_with fail
  refine HTK.out.mono ?_
  rintro e _ ⟨rfl, rfl⟩
  clear HTK
  go_wp2_with fail
  refine (HFT.out _).out.mono ?_
  rintro e w2 ⟨rfl, t2⟩
  clear HFT x0 x1 x2 a0
  obtain ⟨W, hW⟩ : ∃ W, W = (w2.alloc (.cells #[.int .u64 4607182418800017408, .bool false, .int .i64 0] 43)).alloc (.cells #[.int .u64 0, .bool true, .int .i64 0] 43) := ⟨_, rfl⟩
  obtain ⟨tW, bW, oW, aW, yW, zW, sW⟩ := HW.out w2 t2 W hW
  obtain ⟨x0, x1, x2⟩ := bW.cells
  obtain ⟨y0, y1, y2, y3, y4, y5⟩ := oW.cells
  have yf := oW.fr 2
  have yg := oW.fr 3
  have q0 : W.cell? ⟨w.heap.size + 1, 0, none⟩ = some (.int .u64 0) := by unfold World.cell?; rw [aW]; rfl
  have q1 : W.cell? ⟨w.heap.size + 1, 1, none⟩ = some (.bool false) := by unfold World.cell?; rw [aW]; rfl
  have q2 : W.cell? ⟨w.heap.size + 1, 2, none⟩ = some (.int .i64 0) := by unfold World.cell?; rw [aW]; rfl
  have r0 : W.cell? ⟨w2.heap.size, 0, none⟩ = some (.int .u64 4607182418800017408) := by unfold World.cell?; rw [yW]; rfl
  have r1 : W.cell? ⟨w2.heap.size, 1, none⟩ = some (.bool false) := by unfold World.cell?; rw [yW]; rfl
  have r2 : W.cell? ⟨w2.heap.size, 2, none⟩ = some (.int .i64 0) := by unfold World.cell?; rw [yW]; rfl
  have u0 : W.cell? ⟨w2.heap.size + 1, 0, none⟩ = some (.int .u64 0) := by unfold World.cell?; rw [zW]; rfl
  have u1 : W.cell? ⟨w2.heap.size + 1, 1, none⟩ = some (.bool true) := by unfold World.cell?; rw [zW]; rfl
  have u2 : W.cell? ⟨w2.heap.size + 1, 2, none⟩ = some (.int .i64 0) := by unfold World.cell?; rw [zW]; rfl
  have qf0 : W.frozen? ⟨w.heap.size + 1, 0, none⟩ = false := by unfold World.frozen?; rw [aW]; simp
  have qf1 : W.frozen? ⟨w.heap.size + 1, 1, none⟩ = false := by unfold World.frozen?; rw [aW]; simp
  have qf2 : W.frozen? ⟨w.heap.size + 1, 2, none⟩ = false := by unfold World.frozen?; rw [aW]; simp
  have n1 : b ≠ w.heap.size + 1 := by omega
  have n2 : b ≠ w2.heap.size := by omega
  have n3 : b ≠ w2.heap.size + 1 := by omega
  have n4 : w.heap.size + 1 ≠ w2.heap.size := by omega
  have n5 : w.heap.size ≠ b := by omega
  have n6 : w2.heap.size + 1 ≠ b := by omega
  have n7 : w2.heap.size ≠ b := by omega
  have n8 : w.heap.size + 1 ≠ b := by omega
  have HFIN : Hid (∀ W0, Touch W W0 [] → ∀ x y z, RObB (((W0.setCell ⟨w.heap.size + 1, 0, none⟩ x).setCell ⟨w.heap.size + 1, 1, none⟩ y).setCell ⟨w.heap.size + 1, 2, none⟩ z) b 1 s o n 0 ∧ Touch w (((W0.setCell ⟨w.heap.size + 1, 0, none⟩ x).setCell ⟨w.heap.size + 1, 1, none⟩ y).setCell ⟨w.heap.size + 1, 2, none⟩ z) [b] ∧ (((W0.setCell ⟨w.heap.size + 1, 0, none⟩ x).setCell ⟨w.heap.size + 1, 1, none⟩ y).setCell ⟨w.heap.size + 1, 2, none⟩ z).heap[w.heap.size + 1]? = some (.cells #[x, y, z] 43 (0, 0))) := fun W0 t0 x y z => by
    have r : RObB W0 b 1 s o n 0 := oW.touch t0 (by simp)
    have t : Touch W W0 [b] := t0.mono (by simp)
    have hA := (t.block _ (lt_of_heap aW) (by simp; omega)).trans aW
    have tS : Touch W0 (((W0.setCell ⟨w.heap.size + 1, 0, none⟩ x).setCell ⟨w.heap.size + 1, 1, none⟩ y).setCell ⟨w.heap.size + 1, 2, none⟩ z) [w.heap.size + 1] := (((Touch.refl _ _).setCell (.inl (by simp)) _).setCell (.inl (by simp)) _).setCell (.inl (by simp)) _
    refine ⟨r.touch tS (by simp; omega), ((tW.mono (by simp)).trans t (fun x hx => .inl hx)).trans tS (fun x hx => .inr (by simp at hx; omega)), ?_⟩
    rw [heap_setCell_same _ _ _ _ _ _ (heap_setCell_same _ _ _ _ _ _ (heap_setCell_same _ _ _ _ _ _ hA))]
    rfl
  clear tW bW oW aW yW zW sW HW t2
  subst hW
  go_wp2_with fail
  refine (HIN.out _).out.mono ?_
  rintro e _ ⟨rfl, rfl⟩
  clear HIN
  generalize hX : (w2.alloc (.cells #[.int .u64 4607182418800017408, .bool false, .int .i64 0] 43)).alloc (.cells #[.int .u64 0, .bool true, .int .i64 0] 43) = W at *
  have hX' := hX
  clear hX hX'
  go_wp2_with fail
  go_quiet (fail)
  go_wp2
  obtain ⟨h8, h9, h10⟩ := HFIN.out (W.drewN _) ((Touch.refl W []).drewN _) (.int .u64 0) (.bool false) (.int .i64 0)
  refine bodyPost_ret (v := .agg #[.int .u64 0, .bool false, .int .i64 0]) ?_ rfl ⟨rfl, h8, h9⟩
  rw [res_cellC rfl]
  obtain ⟨z0, z1, z2⟩ := ans_cells h10
  simp [go_sem, z0, z1, z2]
set_option maxRecDepth 100000 in
set_option maxHeartbeats 4000000 in
theorem rdo_mine {w : World} {b : Nat} {s u : Int} {n : Int} (hu : 0 ≤ u ∧ u < 4) (h : RObB w b 1 s u n 0) :
    Calls Tryd.prog 8 #[.pointer (some ⟨b, 0, none⟩), .agg #[.int .u8 2, .int .i64 u, .int .u64 0]] w (DoP w b 4607182418800017408 false 1 s (-1) n) := by
  obtain ⟨Q, hQ⟩ : ∃ Q, Q = (w.alloc (.cells #[.int .u8 2, .int .i64 u, .int .u64 0] 30)).alloc (.cells #[.int .u64 0, .bool false, .int .i64 0] 43) := ⟨_, rfl⟩
  obtain ⟨qb, qa, qt, qs⟩ := do_Q w 2 u Q hQ
  have HQ : Hid ((w.alloc (.cells #[.int .u8 2, .int .i64 u, .int .u64 0] 30)).alloc (.cells #[.int .u64 0, .bool false, .int .i64 0] 43) = Q) := hQ.symm
  clear hQ
  have hob := h.touch qt (by simp)
  have hblt := lt_of_heap h.st
  have HTK : HidC _ _ _ _ _ := ⟨rtakes_any hob 2 (by omega)⟩
  have HFT : Hid (∀ W, HidC Tryd.prog 18 #[.agg #[.int .u8 2, .int .i64 u, .int .u64 0]] W fun e w' => e = .returned (.bool true) ∧ Touch W w' []) := fun W => ⟨rofits_any 2 u (by omega) W⟩
  have HIN : Hid (∀ W, HidC Tryd.prog 4 #[.int .i64 0] W fun e w' => e = .returned (.tuple #[.int .u64 (ofB (floatOfInt .f64 0)), .bool true]) ∧ W = w') := fun W => ⟨rint_ok 0 (by omega) (by omega) W⟩
  obtain ⟨x0, x1, x2⟩ := qb.cells
  have a0 : Q.cell? ⟨w.heap.size + 1, 0, none⟩ = some (.int .u64 0) := by unfold World.cell?; rw [qa]; rfl
  have hu0 : decide (u < 0) = false := decide_eq_false (by omega)
  have hu5 : decide (4 ≤ u) = false := decide_eq_false (by omega)
  -- behind Fits: two answers more
  have HW : Hid (∀ w2, Touch Q w2 [] → ∀ W, W = (w2.alloc (.cells #[.int .u64 4607182418800017408, .bool false, .int .i64 0] 43)).alloc (.cells #[.int .u64 0, .bool true, .int .i64 0] 43) → Touch w W [] ∧ BoxC W w.heap.size 2 u 0 ∧ RObB W b 1 s u n 0 ∧ W.heap[w.heap.size + 1]? = some (.cells #[.int .u64 0, .bool false, .int .i64 0] 43 (0, 0)) ∧ W.heap[w2.heap.size]? = some (.cells #[.int .u64 4607182418800017408, .bool false, .int .i64 0] 43 (0, 0)) ∧ W.heap[w2.heap.size + 1]? = some (.cells #[.int .u64 0, .bool true, .int .i64 0] 43 (0, 0)) ∧ w.heap.size + 2 ≤ w2.heap.size) := fun w2 t W hW => by
    have tA : Touch Q W [] := by rw [hW]; exact (t.alloc _).alloc _
    have h1 := heap_alloc_new w2 (.cells #[.int .u64 4607182418800017408, .bool false, .int .i64 0] 43)
    have h2 := heap_alloc_new (w2.alloc (.cells #[.int .u64 4607182418800017408, .bool false, .int .i64 0] 43)) (.cells #[.int .u64 0, .bool true, .int .i64 0] 43)
    have s1 : (w2.alloc (.cells #[.int .u64 4607182418800017408, .bool false, .int .i64 0] 43)).heap.size = w2.heap.size + 1 := by simp
    have h3 : W.heap[w2.heap.size]? = some (.cells #[.int .u64 4607182418800017408, .bool false, .int .i64 0] 43 (0, 0)) := by rw [hW]; exact (((Touch.refl _ []).alloc _).block _ (lt_of_heap h1) (by simp)).trans h1
    rw [s1, ← hW] at h2
    have := t.size
    exact ⟨qt.trans tA (by simp), qb.touch tA (by simp), hob.touch tA (by simp), (tA.block _ (lt_of_heap qa) (by simp)).trans qa, h3, h2, by omega⟩
  have HTQ : Hid _ := qt
  clear qb qa qt qs hob h
  go_enter Tryd.func8, Tryd.ntmps8
  go_wp2_with fail
  rw [HQ.out]
  clear HQ
  go_wp2_with fail
  refine HTK.out.mono ?_
  rintro e _ ⟨rfl, rfl⟩
  clear HTK
  go_wp2_with fail
  refine (HFT.out _).out.mono ?_
  rintro e w2 ⟨rfl, t2⟩
  clear HFT x0 x1 x2 a0
  obtain ⟨W, hW⟩ : ∃ W, W = (w2.alloc (.cells #[.int .u64 4607182418800017408, .bool false, .int .i64 0] 43)).alloc (.cells #[.int .u64 0, .bool true, .int .i64 0] 43) := ⟨_, rfl⟩
  obtain ⟨tW, bW, oW, aW, yW, zW, sW⟩ := HW.out w2 t2 W hW
  obtain ⟨x0, x1, x2⟩ := bW.cells
  obtain ⟨y0, y1, y2, y3, y4, y5⟩ := oW.cells
  have yf := oW.fr 2
  have yg := oW.fr 3
  have q0 : W.cell? ⟨w.heap.size + 1, 0, none⟩ = some (.int .u64 0) := by unfold World.cell?; rw [aW]; rfl
  have q1 : W.cell? ⟨w.heap.size + 1, 1, none⟩ = some (.bool false) := by unfold World.cell?; rw [aW]; rfl
  have q2 : W.cell? ⟨w.heap.size + 1, 2, none⟩ = some (.int .i64 0) := by unfold World.cell?; rw [aW]; rfl
  have r0 : W.cell? ⟨w2.heap.size, 0, none⟩ = some (.int .u64 4607182418800017408) := by unfold World.cell?; rw [yW]; rfl
  have r1 : W.cell? ⟨w2.heap.size, 1, none⟩ = some (.bool false) := by unfold World.cell?; rw [yW]; rfl
  have r2 : W.cell? ⟨w2.heap.size, 2, none⟩ = some (.int .i64 0) := by unfold World.cell?; rw [yW]; rfl
  have u0 : W.cell? ⟨w2.heap.size + 1, 0, none⟩ = some (.int .u64 0) := by unfold World.cell?; rw [zW]; rfl
  have u1 : W.cell? ⟨w2.heap.size + 1, 1, none⟩ = some (.bool true) := by unfold World.cell?; rw [zW]; rfl
  have u2 : W.cell? ⟨w2.heap.size + 1, 2, none⟩ = some (.int .i64 0) := by unfold World.cell?; rw [zW]; rfl
  have qf0 : W.frozen? ⟨w.heap.size + 1, 0, none⟩ = false := by unfold World.frozen?; rw [aW]; simp
  have qf1 : W.frozen? ⟨w.heap.size + 1, 1, none⟩ = false := by unfold World.frozen?; rw [aW]; simp
  have qf2 : W.frozen? ⟨w.heap.size + 1, 2, none⟩ = false := by unfold World.frozen?; rw [aW]; simp
  have n1 : b ≠ w.heap.size + 1 := by omega
  have n2 : b ≠ w2.heap.size := by omega
  have n3 : b ≠ w2.heap.size + 1 := by omega
  have n4 : w.heap.size + 1 ≠ w2.heap.size := by omega
  have n5 : w.heap.size ≠ b := by omega
  have n6 : w2.heap.size + 1 ≠ b := by omega
  have n7 : w2.heap.size ≠ b := by omega
  have n8 : w.heap.size + 1 ≠ b := by omega
  have HFIN : Hid (∀ W0, Touch W W0 [] → ∀ x y z, RObB ((((W0.setCell ⟨b, 2, none⟩ (.int .i64 (-1))).setCell ⟨w.heap.size + 1, 0, none⟩ x).setCell ⟨w.heap.size + 1, 1, none⟩ y).setCell ⟨w.heap.size + 1, 2, none⟩ z) b 1 s (-1) n 0 ∧ Touch w ((((W0.setCell ⟨b, 2, none⟩ (.int .i64 (-1))).setCell ⟨w.heap.size + 1, 0, none⟩ x).setCell ⟨w.heap.size + 1, 1, none⟩ y).setCell ⟨w.heap.size + 1, 2, none⟩ z) [b] ∧ ((((W0.setCell ⟨b, 2, none⟩ (.int .i64 (-1))).setCell ⟨w.heap.size + 1, 0, none⟩ x).setCell ⟨w.heap.size + 1, 1, none⟩ y).setCell ⟨w.heap.size + 1, 2, none⟩ z).heap[w.heap.size + 1]? = some (.cells #[x, y, z] 43 (0, 0))) := fun W0 t0 x y z => by
    have r : RObB (W0.setCell ⟨b, 2, none⟩ (.int .i64 (-1))) b 1 s (-1) n 0 := (oW.touch t0 (by simp)).seto (-1)
    have t : Touch W (W0.setCell ⟨b, 2, none⟩ (.int .i64 (-1))) [b] := (t0.mono (by simp)).setCell (.inl (by simp)) _
    have hA := (t.block _ (lt_of_heap aW) (by simp; omega)).trans aW
    have tS : Touch (W0.setCell ⟨b, 2, none⟩ (.int .i64 (-1))) ((((W0.setCell ⟨b, 2, none⟩ (.int .i64 (-1))).setCell ⟨w.heap.size + 1, 0, none⟩ x).setCell ⟨w.heap.size + 1, 1, none⟩ y).setCell ⟨w.heap.size + 1, 2, none⟩ z) [w.heap.size + 1] := (((Touch.refl _ _).setCell (.inl (by simp)) _).setCell (.inl (by simp)) _).setCell (.inl (by simp)) _
    refine ⟨r.touch tS (by simp; omega), ((tW.mono (by simp)).trans t (fun x hx => .inl hx)).trans tS (fun x hx => .inr (by simp at hx; omega)), ?_⟩
    rw [heap_setCell_same _ _ _ _ _ _ (heap_setCell_same _ _ _ _ _ _ (heap_setCell_same _ _ _ _ _ _ hA))]
    rfl
  clear tW bW oW aW yW zW sW HW t2
  subst hW
  go_wp2_with fail
  refine (HIN.out _).out.mono ?_
  rintro e _ ⟨rfl, rfl⟩
  clear HIN
  generalize hX : (w2.alloc (.cells #[.int .u64 4607182418800017408, .bool false, .int .i64 0] 43)).alloc (.cells #[.int .u64 0, .bool true, .int .i64 0] 43) = W at *
  have hX' := hX
  clear hX hX'
  go_wp2_with fail
  go_quiet (fail)
  go_wp2
  obtain ⟨h8, h9, h10⟩ := HFIN.out (W.drewN _) ((Touch.refl W []).drewN _) (.int .u64 4607182418800017408) (.bool false) (.int .i64 0)
  refine bodyPost_ret (v := .agg #[.int .u64 4607182418800017408, .bool false, .int .i64 0]) ?_ rfl ⟨rfl, h8, h9⟩
  rw [res_cellC rfl]
  obtain ⟨z0, z1, z2⟩ := ans_cells h10
  simp [go_sem, z0, z1, z2]
set_option maxRecDepth 100000 in
set_option maxHeartbeats 4000000 in
theorem rdo_empty {w : World} {b : Nat} {s u : Int} {o : Int} (hu : 0 ≤ u ∧ u < 4) (h : RObB w b 2 s o 0 0) :
    Calls Tryd.prog 8 #[.pointer (some ⟨b, 0, none⟩), .agg #[.int .u8 3, .int .i64 u, .int .u64 0]] w (DoP w b 0 true 2 s o 0) := by
  obtain ⟨Q, hQ⟩ : ∃ Q, Q = (w.alloc (.cells #[.int .u8 3, .int .i64 u, .int .u64 0] 30)).alloc (.cells #[.int .u64 0, .bool false, .int .i64 0] 43) := ⟨_, rfl⟩
  obtain ⟨qb, qa, qt, qs⟩ := do_Q w 3 u Q hQ
  have HQ : Hid ((w.alloc (.cells #[.int .u8 3, .int .i64 u, .int .u64 0] 30)).alloc (.cells #[.int .u64 0, .bool false, .int .i64 0] 43) = Q) := hQ.symm
  clear hQ
  have hob := h.touch qt (by simp)
  have hblt := lt_of_heap h.st
  have HTK : HidC _ _ _ _ _ := ⟨rtakes_any hob 3 (by omega)⟩
  have HFT : Hid (∀ W, HidC Tryd.prog 18 #[.agg #[.int .u8 3, .int .i64 u, .int .u64 0]] W fun e w' => e = .returned (.bool true) ∧ Touch W w' []) := fun W => ⟨rofits_any 3 u (by omega) W⟩
  have HIN : Hid (∀ W, HidC Tryd.prog 4 #[.int .i64 0] W fun e w' => e = .returned (.tuple #[.int .u64 (ofB (floatOfInt .f64 0)), .bool true]) ∧ W = w') := fun W => ⟨rint_ok 0 (by omega) (by omega) W⟩
  obtain ⟨x0, x1, x2⟩ := qb.cells
  have a0 : Q.cell? ⟨w.heap.size + 1, 0, none⟩ = some (.int .u64 0) := by unfold World.cell?; rw [qa]; rfl
  have hu0 : decide (u < 0) = false := decide_eq_false (by omega)
  have hu5 : decide (4 ≤ u) = false := decide_eq_false (by omega)
  -- behind Fits: two answers more
  have HW : Hid (∀ w2, Touch Q w2 [] → ∀ W, W = (w2.alloc (.cells #[.int .u64 4607182418800017408, .bool false, .int .i64 0] 43)).alloc (.cells #[.int .u64 0, .bool true, .int .i64 0] 43) → Touch w W [] ∧ BoxC W w.heap.size 3 u 0 ∧ RObB W b 2 s o 0 0 ∧ W.heap[w.heap.size + 1]? = some (.cells #[.int .u64 0, .bool false, .int .i64 0] 43 (0, 0)) ∧ W.heap[w2.heap.size]? = some (.cells #[.int .u64 4607182418800017408, .bool false, .int .i64 0] 43 (0, 0)) ∧ W.heap[w2.heap.size + 1]? = some (.cells #[.int .u64 0, .bool true, .int .i64 0] 43 (0, 0)) ∧ w.heap.size + 2 ≤ w2.heap.size) := fun w2 t W hW => by
    have tA : Touch Q W [] := by rw [hW]; exact (t.alloc _).alloc _
    have h1 := heap_alloc_new w2 (.cells #[.int .u64 4607182418800017408, .bool false, .int .i64 0] 43)
    have h2 := heap_alloc_new (w2.alloc (.cells #[.int .u64 4607182418800017408, .bool false, .int .i64 0] 43)) (.cells #[.int .u64 0, .bool true, .int .i64 0] 43)
    have s1 : (w2.alloc (.cells #[.int .u64 4607182418800017408, .bool false, .int .i64 0] 43)).heap.size = w2.heap.size + 1 := by simp
    have h3 : W.heap[w2.heap.size]? = some (.cells #[.int .u64 4607182418800017408, .bool false, .int .i64 0] 43 (0, 0)) := by rw [hW]; exact (((Touch.refl _ []).alloc _).block _ (lt_of_heap h1) (by simp)).trans h1
    rw [s1, ← hW] at h2
    have := t.size
    exact ⟨qt.trans tA (by simp), qb.touch tA (by simp), hob.touch tA (by simp), (tA.block _ (lt_of_heap qa) (by simp)).trans qa, h3, h2, by omega⟩
  have HTQ : Hid _ := qt
  clear qb qa qt qs hob h
  go_enter Tryd.func8, Tryd.ntmps8
  go_wp2_with fail
  rw [HQ.out]
  clear HQ
  go_wp2_with fail
  refine HTK.out.mono ?_
  rintro e _ ⟨rfl, rfl⟩
  clear HTK
  go_wp2_with fail
  refine (HFT.out _).out.mono ?_
  rintro e w2 ⟨rfl, t2⟩
  clear HFT x0 x1 x2 a0
  obtain ⟨W, hW⟩ : ∃ W, W = (w2.alloc (.cells #[.int .u64 4607182418800017408, .bool false, .int .i64 0] 43)).alloc (.cells #[.int .u64 0, .bool true, .int .i64 0] 43) := ⟨_, rfl⟩
  obtain ⟨tW, bW, oW, aW, yW, zW, sW⟩ := HW.out w2 t2 W hW
  obtain ⟨x0, x1, x2⟩ := bW.cells
  obtain ⟨y0, y1, y2, y3, y4, y5⟩ := oW.cells
  have yf := oW.fr 2
  have yg := oW.fr 3
  have q0 : W.cell? ⟨w.heap.size + 1, 0, none⟩ = some (.int .u64 0) := by unfold World.cell?; rw [aW]; rfl
  have q1 : W.cell? ⟨w.heap.size + 1, 1, none⟩ = some (.bool false) := by unfold World.cell?; rw [aW]; rfl
  have q2 : W.cell? ⟨w.heap.size + 1, 2, none⟩ = some (.int .i64 0) := by unfold World.cell?; rw [aW]; rfl
  have r0 : W.cell? ⟨w2.heap.size, 0, none⟩ = some (.int .u64 4607182418800017408) := by unfold World.cell?; rw [yW]; rfl
  have r1 : W.cell? ⟨w2.heap.size, 1, none⟩ = some (.bool false) := by unfold World.cell?; rw [yW]; rfl
  have r2 : W.cell? ⟨w2.heap.size, 2, none⟩ = some (.int .i64 0) := by unfold World.cell?; rw [yW]; rfl
  have u0 : W.cell? ⟨w2.heap.size + 1, 0, none⟩ = some (.int .u64 0) := by unfold World.cell?; rw [zW]; rfl
  have u1 : W.cell? ⟨w2.heap.size + 1, 1, none⟩ = some (.bool true) := by unfold World.cell?; rw [zW]; rfl
  have u2 : W.cell? ⟨w2.heap.size + 1, 2, none⟩ = some (.int .i64 0) := by unfold World.cell?; rw [zW]; rfl
  have qf0 : W.frozen? ⟨w.heap.size + 1, 0, none⟩ = false := by unfold World.frozen?; rw [aW]; simp
  have qf1 : W.frozen? ⟨w.heap.size + 1, 1, none⟩ = false := by unfold World.frozen?; rw [aW]; simp
  have qf2 : W.frozen? ⟨w.heap.size + 1, 2, none⟩ = false := by unfold World.frozen?; rw [aW]; simp
  have n1 : b ≠ w.heap.size + 1 := by omega
  have n2 : b ≠ w2.heap.size := by omega
  have n3 : b ≠ w2.heap.size + 1 := by omega
  have n4 : w.heap.size + 1 ≠ w2.heap.size := by omega
  have n5 : w.heap.size ≠ b := by omega
  have n6 : w2.heap.size + 1 ≠ b := by omega
  have n7 : w2.heap.size ≠ b := by omega
  have n8 : w.heap.size + 1 ≠ b := by omega
  have HFIN : Hid (∀ W0, Touch W W0 [] → ∀ x y z, RObB (((W0.setCell ⟨w.heap.size + 1, 0, none⟩ x).setCell ⟨w.heap.size + 1, 1, none⟩ y).setCell ⟨w.heap.size + 1, 2, none⟩ z) b 2 s o 0 0 ∧ Touch w (((W0.setCell ⟨w.heap.size + 1, 0, none⟩ x).setCell ⟨w.heap.size + 1, 1, none⟩ y).setCell ⟨w.heap.size + 1, 2, none⟩ z) [b] ∧ (((W0.setCell ⟨w.heap.size + 1, 0, none⟩ x).setCell ⟨w.heap.size + 1, 1, none⟩ y).setCell ⟨w.heap.size + 1, 2, none⟩ z).heap[w.heap.size + 1]? = some (.cells #[x, y, z] 43 (0, 0))) := fun W0 t0 x y z => by
    have r : RObB W0 b 2 s o 0 0 := oW.touch t0 (by simp)
    have t : Touch W W0 [b] := t0.mono (by simp)
    have hA := (t.block _ (lt_of_heap aW) (by simp; omega)).trans aW
    have tS : Touch W0 (((W0.setCell ⟨w.heap.size + 1, 0, none⟩ x).setCell ⟨w.heap.size + 1, 1, none⟩ y).setCell ⟨w.heap.size + 1, 2, none⟩ z) [w.heap.size + 1] := (((Touch.refl _ _).setCell (.inl (by simp)) _).setCell (.inl (by simp)) _).setCell (.inl (by simp)) _
    refine ⟨r.touch tS (by simp; omega), ((tW.mono (by simp)).trans t (fun x hx => .inl hx)).trans tS (fun x hx => .inr (by simp at hx; omega)), ?_⟩
    rw [heap_setCell_same _ _ _ _ _ _ (heap_setCell_same _ _ _ _ _ _ (heap_setCell_same _ _ _ _ _ _ hA))]
    rfl
  clear tW bW oW aW yW zW sW HW t2
  subst hW
  go_wp2_with fail
  refine (HIN.out _).out.mono ?_
  rintro e _ ⟨rfl, rfl⟩
  clear HIN
  generalize hX : (w2.alloc (.cells #[.int .u64 4607182418800017408, .bool false, .int .i64 0] 43)).alloc (.cells #[.int .u64 0, .bool true, .int .i64 0] 43) = W at *
  have hX' := hX
  clear hX hX'
  go_wp2_with fail
  obtain ⟨h8, h9, h10⟩ := HFIN.out W (Touch.refl W []) (.int .u64 0) (.bool true) (.int .i64 0)
  refine bodyPost_ret (v := .agg #[.int .u64 0, .bool true, .int .i64 0]) ?_ rfl ⟨rfl, h8, h9⟩
  rw [res_cellC rfl]
  obtain ⟨z0, z1, z2⟩ := ans_cells h10
  simp [go_sem, z0, z1, z2]
set_option maxRecDepth 100000 in
set_option maxHeartbeats 4000000 in
theorem rdo_down {w : World} {b : Nat} {s u : Int} {n : Int} {o : Int} (hn : 0 < n) (hn9 : n ≤ 9) (hu : 0 ≤ u ∧ u < 4) (h : RObB w b 2 s o n 0) :
    Calls Tryd.prog 8 #[.pointer (some ⟨b, 0, none⟩), .agg #[.int .u8 3, .int .i64 u, .int .u64 0]] w (DoP w b 4607182418800017408 false 2 s o (n - 1)) := by
  obtain ⟨Q, hQ⟩ : ∃ Q, Q = (w.alloc (.cells #[.int .u8 3, .int .i64 u, .int .u64 0] 30)).alloc (.cells #[.int .u64 0, .bool false, .int .i64 0] 43) := ⟨_, rfl⟩
  obtain ⟨qb, qa, qt, qs⟩ := do_Q w 3 u Q hQ
  have HQ : Hid ((w.alloc (.cells #[.int .u8 3, .int .i64 u, .int .u64 0] 30)).alloc (.cells #[.int .u64 0, .bool false, .int .i64 0] 43) = Q) := hQ.symm
  clear hQ
  have hob := h.touch qt (by simp)
  have hblt := lt_of_heap h.st
  have HTK : HidC _ _ _ _ _ := ⟨rtakes_any hob 3 (by omega)⟩
  have HFT : Hid (∀ W, HidC Tryd.prog 18 #[.agg #[.int .u8 3, .int .i64 u, .int .u64 0]] W fun e w' => e = .returned (.bool true) ∧ Touch W w' []) := fun W => ⟨rofits_any 3 u (by omega) W⟩
  have HIN : Hid (∀ W, HidC Tryd.prog 4 #[.int .i64 0] W fun e w' => e = .returned (.tuple #[.int .u64 (ofB (floatOfInt .f64 0)), .bool true]) ∧ W = w') := fun W => ⟨rint_ok 0 (by omega) (by omega) W⟩
  obtain ⟨x0, x1, x2⟩ := qb.cells
  have a0 : Q.cell? ⟨w.heap.size + 1, 0, none⟩ = some (.int .u64 0) := by unfold World.cell?; rw [qa]; rfl
  have hu0 : decide (u < 0) = false := decide_eq_false (by omega)
  have hu5 : decide (4 ≤ u) = false := decide_eq_false (by omega)
  have d1 : n ≠ 0 := by omega
  have d2 : IntKind.i64.wrap (n - 1) = n - 1 := by rw [IntKind.wrap_i64]; omega
  -- behind Fits: two answers more
  have HW : Hid (∀ w2, Touch Q w2 [] → ∀ W, W = (w2.alloc (.cells #[.int .u64 4607182418800017408, .bool false, .int .i64 0] 43)).alloc (.cells #[.int .u64 0, .bool true, .int .i64 0] 43) → Touch w W [] ∧ BoxC W w.heap.size 3 u 0 ∧ RObB W b 2 s o n 0 ∧ W.heap[w.heap.size + 1]? = some (.cells #[.int .u64 0, .bool false, .int .i64 0] 43 (0, 0)) ∧ W.heap[w2.heap.size]? = some (.cells #[.int .u64 4607182418800017408, .bool false, .int .i64 0] 43 (0, 0)) ∧ W.heap[w2.heap.size + 1]? = some (.cells #[.int .u64 0, .bool true, .int .i64 0] 43 (0, 0)) ∧ w.heap.size + 2 ≤ w2.heap.size) := fun w2 t W hW => by
    have tA : Touch Q W [] := by rw [hW]; exact (t.alloc _).alloc _
    have h1 := heap_alloc_new w2 (.cells #[.int .u64 4607182418800017408, .bool false, .int .i64 0] 43)
    have h2 := heap_alloc_new (w2.alloc (.cells #[.int .u64 4607182418800017408, .bool false, .int .i64 0] 43)) (.cells #[.int .u64 0, .bool true, .int .i64 0] 43)
    have s1 : (w2.alloc (.cells #[.int .u64 4607182418800017408, .bool false, .int .i64 0] 43)).heap.size = w2.heap.size + 1 := by simp
    have h3 : W.heap[w2.heap.size]? = some (.cells #[.int .u64 4607182418800017408, .bool false, .int .i64 0] 43 (0, 0)) := by rw [hW]; exact (((Touch.refl _ []).alloc _).block _ (lt_of_heap h1) (by simp)).trans h1
    rw [s1, ← hW] at h2
    have := t.size
    exact ⟨qt.trans tA (by simp), qb.touch tA (by simp), hob.touch tA (by simp), (tA.block _ (lt_of_heap qa) (by simp)).trans qa, h3, h2, by omega⟩
  have HTQ : Hid _ := qt
  clear qb qa qt qs hob h
  go_enter Tryd.func8, Tryd.ntmps8
  go_wp2_with fail
  rw [HQ.out]
  clear HQ
  go_wp2_with fail
  refine HTK.out.mono ?_
  rintro e _ ⟨rfl, rfl⟩
  clear HTK
  go_wp2_with fail
  refine (HFT.out _).out.mono ?_
  rintro e w2 ⟨rfl, t2⟩
  clear HFT x0 x1 x2 a0
  obtain ⟨W, hW⟩ : ∃ W, W = (w2.alloc (.cells #[.int .u64 4607182418800017408, .bool false, .int .i64 0] 43)).alloc (.cells #[.int .u64 0, .bool true, .int .i64 0] 43) := ⟨_, rfl⟩
  obtain ⟨tW, bW, oW, aW, yW, zW, sW⟩ := HW.out w2 t2 W hW
  obtain ⟨x0, x1, x2⟩ := bW.cells
  obtain ⟨y0, y1, y2, y3, y4, y5⟩ := oW.cells
  have yf := oW.fr 2
  have yg := oW.fr 3
  have q0 : W.cell? ⟨w.heap.size + 1, 0, none⟩ = some (.int .u64 0) := by unfold World.cell?; rw [aW]; rfl
  have q1 : W.cell? ⟨w.heap.size + 1, 1, none⟩ = some (.bool false) := by unfold World.cell?; rw [aW]; rfl
  have q2 : W.cell? ⟨w.heap.size + 1, 2, none⟩ = some (.int .i64 0) := by unfold World.cell?; rw [aW]; rfl
  have r0 : W.cell? ⟨w2.heap.size, 0, none⟩ = some (.int .u64 4607182418800017408) := by unfold World.cell?; rw [yW]; rfl
  have r1 : W.cell? ⟨w2.heap.size, 1, none⟩ = some (.bool false) := by unfold World.cell?; rw [yW]; rfl
  have r2 : W.cell? ⟨w2.heap.size, 2, none⟩ = some (.int .i64 0) := by unfold World.cell?; rw [yW]; rfl
  have u0 : W.cell? ⟨w2.heap.size + 1, 0, none⟩ = some (.int .u64 0) := by unfold World.cell?; rw [zW]; rfl
  have u1 : W.cell? ⟨w2.heap.size + 1, 1, none⟩ = some (.bool true) := by unfold World.cell?; rw [zW]; rfl
  have u2 : W.cell? ⟨w2.heap.size + 1, 2, none⟩ = some (.int .i64 0) := by unfold World.cell?; rw [zW]; rfl
  have qf0 : W.frozen? ⟨w.heap.size + 1, 0, none⟩ = false := by unfold World.frozen?; rw [aW]; simp
  have qf1 : W.frozen? ⟨w.heap.size + 1, 1, none⟩ = false := by unfold World.frozen?; rw [aW]; simp
  have qf2 : W.frozen? ⟨w.heap.size + 1, 2, none⟩ = false := by unfold World.frozen?; rw [aW]; simp
  have n1 : b ≠ w.heap.size + 1 := by omega
  have n2 : b ≠ w2.heap.size := by omega
  have n3 : b ≠ w2.heap.size + 1 := by omega
  have n4 : w.heap.size + 1 ≠ w2.heap.size := by omega
  have n5 : w.heap.size ≠ b := by omega
  have n6 : w2.heap.size + 1 ≠ b := by omega
  have n7 : w2.heap.size ≠ b := by omega
  have n8 : w.heap.size + 1 ≠ b := by omega
  have HFIN : Hid (∀ W0, Touch W W0 [] → ∀ x y z, RObB ((((W0.setCell ⟨b, 3, none⟩ (.int .i64 (n - 1))).setCell ⟨w.heap.size + 1, 0, none⟩ x).setCell ⟨w.heap.size + 1, 1, none⟩ y).setCell ⟨w.heap.size + 1, 2, none⟩ z) b 2 s o (n - 1) 0 ∧ Touch w ((((W0.setCell ⟨b, 3, none⟩ (.int .i64 (n - 1))).setCell ⟨w.heap.size + 1, 0, none⟩ x).setCell ⟨w.heap.size + 1, 1, none⟩ y).setCell ⟨w.heap.size + 1, 2, none⟩ z) [b] ∧ ((((W0.setCell ⟨b, 3, none⟩ (.int .i64 (n - 1))).setCell ⟨w.heap.size + 1, 0, none⟩ x).setCell ⟨w.heap.size + 1, 1, none⟩ y).setCell ⟨w.heap.size + 1, 2, none⟩ z).heap[w.heap.size + 1]? = some (.cells #[x, y, z] 43 (0, 0))) := fun W0 t0 x y z => by
    have r : RObB (W0.setCell ⟨b, 3, none⟩ (.int .i64 (n - 1))) b 2 s o (n - 1) 0 := (oW.touch t0 (by simp)).setn (n - 1)
    have t : Touch W (W0.setCell ⟨b, 3, none⟩ (.int .i64 (n - 1))) [b] := (t0.mono (by simp)).setCell (.inl (by simp)) _
    have hA := (t.block _ (lt_of_heap aW) (by simp; omega)).trans aW
    have tS : Touch (W0.setCell ⟨b, 3, none⟩ (.int .i64 (n - 1))) ((((W0.setCell ⟨b, 3, none⟩ (.int .i64 (n - 1))).setCell ⟨w.heap.size + 1, 0, none⟩ x).setCell ⟨w.heap.size + 1, 1, none⟩ y).setCell ⟨w.heap.size + 1, 2, none⟩ z) [w.heap.size + 1] := (((Touch.refl _ _).setCell (.inl (by simp)) _).setCell (.inl (by simp)) _).setCell (.inl (by simp)) _
    refine ⟨r.touch tS (by simp; omega), ((tW.mono (by simp)).trans t (fun x hx => .inl hx)).trans tS (fun x hx => .inr (by simp at hx; omega)), ?_⟩
    rw [heap_setCell_same _ _ _ _ _ _ (heap_setCell_same _ _ _ _ _ _ (heap_setCell_same _ _ _ _ _ _ hA))]
    rfl
  clear tW bW oW aW yW zW sW HW t2
  subst hW
  go_wp2_with fail
  refine (HIN.out _).out.mono ?_
  rintro e _ ⟨rfl, rfl⟩
  clear HIN
  generalize hX : (w2.alloc (.cells #[.int .u64 4607182418800017408, .bool false, .int .i64 0] 43)).alloc (.cells #[.int .u64 0, .bool true, .int .i64 0] 43) = W at *
  have hX' := hX
  clear hX hX'
  go_wp2_with fail
  obtain ⟨h8, h9, h10⟩ := HFIN.out W (Touch.refl W []) (.int .u64 4607182418800017408) (.bool false) (.int .i64 0)
  refine bodyPost_ret (v := .agg #[.int .u64 4607182418800017408, .bool false, .int .i64 0]) ?_ rfl ⟨rfl, h8, h9⟩
  rw [res_cellC rfl]
  obtain ⟨z0, z1, z2⟩ := ans_cells h10
  simp [go_sem, z0, z1, z2]
set_option maxRecDepth 100000 in
set_option maxHeartbeats 4000000 in
theorem rdo_up {w : World} {b : Nat} {s u : Int} {n : Int} {o : Int} (hn : 0 ≤ n) (hn9 : n ≤ 9) (hu : 0 ≤ u ∧ u < 4) (h : RObB w b 2 s o n 0) :
    Calls Tryd.prog 8 #[.pointer (some ⟨b, 0, none⟩), .agg #[.int .u8 4, .int .i64 u, .int .u64 0]] w (DoP w b 4607182418800017408 false 2 s o (n + 1)) := by
  obtain ⟨Q, hQ⟩ : ∃ Q, Q = (w.alloc (.cells #[.int .u8 4, .int .i64 u, .int .u64 0] 30)).alloc (.cells #[.int .u64 0, .bool false, .int .i64 0] 43) := ⟨_, rfl⟩
  obtain ⟨qb, qa, qt, qs⟩ := do_Q w 4 u Q hQ
  have HQ : Hid ((w.alloc (.cells #[.int .u8 4, .int .i64 u, .int .u64 0] 30)).alloc (.cells #[.int .u64 0, .bool false, .int .i64 0] 43) = Q) := hQ.symm
  clear hQ
  have hob := h.touch qt (by simp)
  have hblt := lt_of_heap h.st
  have HTK : HidC _ _ _ _ _ := ⟨rtakes_any hob 4 (by omega)⟩
  have HFT : Hid (∀ W, HidC Tryd.prog 18 #[.agg #[.int .u8 4, .int .i64 u, .int .u64 0]] W fun e w' => e = .returned (.bool true) ∧ Touch W w' []) := fun W => ⟨rofits_any 4 u (by omega) W⟩
  have HIN : Hid (∀ W, HidC Tryd.prog 4 #[.int .i64 0] W fun e w' => e = .returned (.tuple #[.int .u64 (ofB (floatOfInt .f64 0)), .bool true]) ∧ W = w') := fun W => ⟨rint_ok 0 (by omega) (by omega) W⟩
  obtain ⟨x0, x1, x2⟩ := qb.cells
  have a0 : Q.cell? ⟨w.heap.size + 1, 0, none⟩ = some (.int .u64 0) := by unfold World.cell?; rw [qa]; rfl
  have hu0 : decide (u < 0) = false := decide_eq_false (by omega)
  have hu5 : decide (4 ≤ u) = false := decide_eq_false (by omega)
  have d1 : decide (n ≥ 99) = false := decide_eq_false (by omega)
  have d3 : ¬ (99 ≤ n) := by omega
  have d2 : IntKind.i64.wrap (n + 1) = n + 1 := by rw [IntKind.wrap_i64]; omega
  -- behind Fits: two answers more
  have HW : Hid (∀ w2, Touch Q w2 [] → ∀ W, W = (w2.alloc (.cells #[.int .u64 4607182418800017408, .bool false, .int .i64 0] 43)).alloc (.cells #[.int .u64 0, .bool true, .int .i64 0] 43) → Touch w W [] ∧ BoxC W w.heap.size 4 u 0 ∧ RObB W b 2 s o n 0 ∧ W.heap[w.heap.size + 1]? = some (.cells #[.int .u64 0, .bool false, .int .i64 0] 43 (0, 0)) ∧ W.heap[w2.heap.size]? = some (.cells #[.int .u64 4607182418800017408, .bool false, .int .i64 0] 43 (0, 0)) ∧ W.heap[w2.heap.size + 1]? = some (.cells #[.int .u64 0, .bool true, .int .i64 0] 43 (0, 0)) ∧ w.heap.size + 2 ≤ w2.heap.size) := fun w2 t W hW => by
    have tA : Touch Q W [] := by rw [hW]; exact (t.alloc _).alloc _
    have h1 := heap_alloc_new w2 (.cells #[.int .u64 4607182418800017408, .bool false, .int .i64 0] 43)
    have h2 := heap_alloc_new (w2.alloc (.cells #[.int .u64 4607182418800017408, .bool false, .int .i64 0] 43)) (.cells #[.int .u64 0, .bool true, .int .i64 0] 43)
    have s1 : (w2.alloc (.cells #[.int .u64 4607182418800017408, .bool false, .int .i64 0] 43)).heap.size = w2.heap.size + 1 := by simp
    have h3 : W.heap[w2.heap.size]? = some (.cells #[.int .u64 4607182418800017408, .bool false, .int .i64 0] 43 (0, 0)) := by rw [hW]; exact (((Touch.refl _ []).alloc _).block _ (lt_of_heap h1) (by simp)).trans h1
    rw [s1, ← hW] at h2
    have := t.size
    exact ⟨qt.trans tA (by simp), qb.touch tA (by simp), hob.touch tA (by simp), (tA.block _ (lt_of_heap qa) (by simp)).trans qa, h3, h2, by omega⟩
  have HTQ : Hid _ := qt
  clear qb qa qt qs hob h
  go_enter Tryd.func8, Tryd.ntmps8
  go_wp2_with fail
  rw [HQ.out]
  clear HQ
  go_wp2_with fail
  refine HTK.out.mono ?_
  rintro e _ ⟨rfl, rfl⟩
  clear HTK
  go_wp2_with fail
  refine (HFT.out _).out.mono ?_
  rintro e w2 ⟨rfl, t2⟩
  clear HFT x0 x1 x2 a0
  obtain ⟨W, hW⟩ : ∃ W, W = (w2.alloc (.cells #[.int .u64 4607182418800017408, .bool false, .int .i64 0] 43)).alloc (.cells #[.int .u64 0, .bool true, .int .i64 0] 43) := ⟨_, rfl⟩
  obtain ⟨tW, bW, oW, aW, yW, zW, sW⟩ := HW.out w2 t2 W hW
  obtain ⟨x0, x1, x2⟩ := bW.cells
  obtain ⟨y0, y1, y2, y3, y4, y5⟩ := oW.cells
  have yf := oW.fr 2
  have yg := oW.fr 3
  have q0 : W.cell? ⟨w.heap.size + 1, 0, none⟩ = some (.int .u64 0) := by unfold World.cell?; rw [aW]; rfl
  have q1 : W.cell? ⟨w.heap.size + 1, 1, none⟩ = some (.bool false) := by unfold World.cell?; rw [aW]; rfl
  have q2 : W.cell? ⟨w.heap.size + 1, 2, none⟩ = some (.int .i64 0) := by unfold World.cell?; rw [aW]; rfl
  have r0 : W.cell? ⟨w2.heap.size, 0, none⟩ = some (.int .u64 4607182418800017408) := by unfold World.cell?; rw [yW]; rfl
  have r1 : W.cell? ⟨w2.heap.size, 1, none⟩ = some (.bool false) := by unfold World.cell?; rw [yW]; rfl
  have r2 : W.cell? ⟨w2.heap.size, 2, none⟩ = some (.int .i64 0) := by unfold World.cell?; rw [yW]; rfl
  have u0 : W.cell? ⟨w2.heap.size + 1, 0, none⟩ = some (.int .u64 0) := by unfold World.cell?; rw [zW]; rfl
  have u1 : W.cell? ⟨w2.heap.size + 1, 1, none⟩ = some (.bool true) := by unfold World.cell?; rw [zW]; rfl
  have u2 : W.cell? ⟨w2.heap.size + 1, 2, none⟩ = some (.int .i64 0) := by unfold World.cell?; rw [zW]; rfl
  have qf0 : W.frozen? ⟨w.heap.size + 1, 0, none⟩ = false := by unfold World.frozen?; rw [aW]; simp
  have qf1 : W.frozen? ⟨w.heap.size + 1, 1, none⟩ = false := by unfold World.frozen?; rw [aW]; simp
  have qf2 : W.frozen? ⟨w.heap.size + 1, 2, none⟩ = false := by unfold World.frozen?; rw [aW]; simp
  have n1 : b ≠ w.heap.size + 1 := by omega
  have n2 : b ≠ w2.heap.size := by omega
  have n3 : b ≠ w2.heap.size + 1 := by omega
  have n4 : w.heap.size + 1 ≠ w2.heap.size := by omega
  have n5 : w.heap.size ≠ b := by omega
  have n6 : w2.heap.size + 1 ≠ b := by omega
  have n7 : w2.heap.size ≠ b := by omega
  have n8 : w.heap.size + 1 ≠ b := by omega
  have HFIN : Hid (∀ W0, Touch W W0 [] → ∀ x y z, RObB ((((W0.setCell ⟨b, 3, none⟩ (.int .i64 (n + 1))).setCell ⟨w.heap.size + 1, 0, none⟩ x).setCell ⟨w.heap.size + 1, 1, none⟩ y).setCell ⟨w.heap.size + 1, 2, none⟩ z) b 2 s o (n + 1) 0 ∧ Touch w ((((W0.setCell ⟨b, 3, none⟩ (.int .i64 (n + 1))).setCell ⟨w.heap.size + 1, 0, none⟩ x).setCell ⟨w.heap.size + 1, 1, none⟩ y).setCell ⟨w.heap.size + 1, 2, none⟩ z) [b] ∧ ((((W0.setCell ⟨b, 3, none⟩ (.int .i64 (n + 1))).setCell ⟨w.heap.size + 1, 0, none⟩ x).setCell ⟨w.heap.size + 1, 1, none⟩ y).setCell ⟨w.heap.size + 1, 2, none⟩ z).heap[w.heap.size + 1]? = some (.cells #[x, y, z] 43 (0, 0))) := fun W0 t0 x y z => by
    have r : RObB (W0.setCell ⟨b, 3, none⟩ (.int .i64 (n + 1))) b 2 s o (n + 1) 0 := (oW.touch t0 (by simp)).setn (n + 1)
    have t : Touch W (W0.setCell ⟨b, 3, none⟩ (.int .i64 (n + 1))) [b] := (t0.mono (by simp)).setCell (.inl (by simp)) _
    have hA := (t.block _ (lt_of_heap aW) (by simp; omega)).trans aW
    have tS : Touch (W0.setCell ⟨b, 3, none⟩ (.int .i64 (n + 1))) ((((W0.setCell ⟨b, 3, none⟩ (.int .i64 (n + 1))).setCell ⟨w.heap.size + 1, 0, none⟩ x).setCell ⟨w.heap.size + 1, 1, none⟩ y).setCell ⟨w.heap.size + 1, 2, none⟩ z) [w.heap.size + 1] := (((Touch.refl _ _).setCell (.inl (by simp)) _).setCell (.inl (by simp)) _).setCell (.inl (by simp)) _
    refine ⟨r.touch tS (by simp; omega), ((tW.mono (by simp)).trans t (fun x hx => .inl hx)).trans tS (fun x hx => .inr (by simp at hx; omega)), ?_⟩
    rw [heap_setCell_same _ _ _ _ _ _ (heap_setCell_same _ _ _ _ _ _ (heap_setCell_same _ _ _ _ _ _ hA))]
    rfl
  clear tW bW oW aW yW zW sW HW t2
  subst hW
  go_wp2_with fail
  refine (HIN.out _).out.mono ?_
  rintro e _ ⟨rfl, rfl⟩
  clear HIN
  generalize hX : (w2.alloc (.cells #[.int .u64 4607182418800017408, .bool false, .int .i64 0] 43)).alloc (.cells #[.int .u64 0, .bool true, .int .i64 0] 43) = W at *
  have hX' := hX
  clear hX hX'
  go_wp2_with fail
  obtain ⟨h8, h9, h10⟩ := HFIN.out W (Touch.refl W []) (.int .u64 4607182418800017408) (.bool false) (.int .i64 0)
  refine bodyPost_ret (v := .agg #[.int .u64 4607182418800017408, .bool false, .int .i64 0]) ?_ rfl ⟨rfl, h8, h9⟩
  rw [res_cellC rfl]
  obtain ⟨z0, z1, z2⟩ := ans_cells h10
  simp [go_sem, z0, z1, z2]

end Go.Proofs.YtkpgfchglaemgaaDoor
