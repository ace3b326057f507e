/-
  package object, the document's: Do BY ITS CONTRACT, for a queue and a barrier.
-/
import Derived.Test.YtkpgfchglaemgaaDoorRoShape
import Derived.Deep.RegionHeld3
namespace Go.Proofs.YtkpgfchglaemgaaDoor
set_option linter.unusedVariables false
set_option linter.unusedSimpArgs false
open Go.RowKit
attribute [local go_sem] Oper.semAt_some

theorem fin_float : ∀ n : Fin 1101, floatOfInt .f64 ((n.val : Int) - 100) < 18446744073709551616 := by decide +kernel
/-- An object with its values. -/
structure RObV (w : World) (b : Nat) (k s o n g : Int) (v : Value) (l : List Int) : Prop where
  st : w.heap[b]? = some (.cells #[.int .u8 k, .int .i64 s, .int .i64 o, .int .i64 n, .int .i64 g, v] 64 (0, 0))
  row : VRow w v l
  nb : l ≠ [] → ∀ x, v.ownBlock = some x → x ≠ b
  le : ∀ a m c, v = .slice a m c → m ≤ c
theorem RObV.touch {w w' : World} {b : Nat} {k s o n g : Int} {v : Value} {l : List Int} {S : List Nat} (h : RObV w b k s o n g v l) (t : Touch w w' S) (hS : b ∉ S) (hv : l ≠ [] → ∀ x, v.ownBlock = some x → x ∉ S) : RObV w' b k s o n g v l := ⟨(t.block b (lt_of_heap h.st) hS).trans h.st, SRow.keepB h.row t hv, h.nb, h.le⟩
theorem RObV.cells {w : World} {b : Nat} {k s o n g : Int} {v : Value} {l : List Int} (h : RObV w b k s o n g v l) : w.cell? ⟨b, 0, none⟩ = some (.int .u8 k) ∧ w.cell? ⟨b, 1, none⟩ = some (.int .i64 s) ∧ w.cell? ⟨b, 2, none⟩ = some (.int .i64 o) ∧ w.cell? ⟨b, 3, none⟩ = some (.int .i64 n) ∧ w.cell? ⟨b, 4, none⟩ = some (.int .i64 g) ∧ w.cell? ⟨b, 5, none⟩ = some v := by
  refine ⟨?_, ?_, ?_, ?_, ?_, ?_⟩ <;> (unfold World.cell?; rw [h.st]; rfl)
theorem RObV.fr {w : World} {b : Nat} {k s o n g : Int} {v : Value} {l : List Int} (h : RObV w b k s o n g v l) (j : Nat) : w.frozen? ⟨b, j, none⟩ = false := by unfold World.frozen?; rw [h.st]; simp
theorem RObV.setn {w : World} {b : Nat} {k s o n g : Int} {v : Value} {l : List Int} (h : RObV w b k s o n g v l) (x : Int) : RObV (w.setCell ⟨b, 3, none⟩ (.int .i64 x)) b k s o x g v l := ⟨by rw [heap_setCell_same _ _ _ _ _ _ h.st]; rfl, SRow.keepB h.row ((Touch.refl w [b]).setCell (.inl (by simp)) _) (fun hne x hx => by have := h.nb hne x hx; simpa using this), h.nb, h.le⟩
theorem RObV.setg {w : World} {b : Nat} {k s o n g : Int} {v : Value} {l : List Int} (h : RObV w b k s o n g v l) (x : Int) : RObV (w.setCell ⟨b, 4, none⟩ (.int .i64 x)) b k s o n x v l := ⟨by rw [heap_setCell_same _ _ _ _ _ _ h.st]; rfl, SRow.keepB h.row ((Touch.refl w [b]).setCell (.inl (by simp)) _) (fun hne x hx => by have := h.nb hne x hx; simpa using this), h.nb, h.le⟩
theorem RObV.setv {w : World} {b : Nat} {k s o n g : Int} {v : Value} {l : List Int} (h : RObV w b k s o n g v l) {v' : Value} {l' : List Int} (r : VRow w v' l') (hn : l' ≠ [] → ∀ x, v'.ownBlock = some x → x ≠ b) (hle : ∀ a m c, v' = .slice a m c → m ≤ c) : RObV (w.setCell ⟨b, 5, none⟩ v') b k s o n g v' l' := ⟨by rw [heap_setCell_same _ _ _ _ _ _ h.st]; rfl, SRow.keepB r ((Touch.refl w [b]).setCell (.inl (by simp)) _) (fun hne x hx => by have := hn hne x hx; simpa using this), hn, hle⟩
def DoV (w : World) (b : Nat) (v : Value) (x : Int) (bl : Bool) (k s o n g : Int) (l : List Int) (e : Ending) (w' : World) : Prop := e = .returned (.agg #[.int .u64 x, .bool bl, .int .i64 0]) ∧ (∃ v', RObV w' b k s o n g v' l ∧ ∀ y, v'.ownBlock = some y → w.heap.size ≤ y ∨ v.ownBlock = some y) ∧ Touch w w' [b]
theorem numV_wf' (n : Int) (h0 : -100 ≤ n) (h1 : n ≤ 1000) : Wf64 (numV n) := by
  unfold numV Wf64
  have h : (ofB (floatOfInt .f64 n)) < 18446744073709551616 := ofB_lt _ (by
    have := fin_float ⟨(n + 100).toNat, by omega⟩
    rw [show (((⟨(n + 100).toNat, by omega⟩ : Fin 1101).val : Int) - 100) = n by simp; omega] at this
    exact this)
  omega
theorem row_tail {w : World} {g off cap : Nat} {x : Int} {t : List Int} (h : VRow w (.slice (some ⟨g, off, none⟩) (x :: t).length cap) (x :: t)) (c : Nat) : VRow w (.slice (some ⟨g, off + 1, none⟩) t.length c) t := by
  obtain ⟨ao, cp, e, h1⟩ := h
  simp only [Value.slice.injEq, true_and] at e
  obtain ⟨rfl, rfl⟩ := e
  obtain ⟨g', off', e2, hlt, hc⟩ := h1 (by simp)
  simp only [Option.some.injEq, Addr.mk.injEq, and_true] at e2
  obtain ⟨rfl, rfl⟩ := e2
  refine ⟨_, _, rfl, fun _ => ⟨g, off + 1, rfl, hlt, fun k hk j hj => ?_⟩⟩
  have := hc (k + 1) (by simp; omega) j hj
  rw [show off + (k + 1) * 1 + j = off + 1 + k * 1 + j by omega] at this
  rw [this]
  rfl
theorem rtakes_kind {w : World} {b : Nat} {k : Int} (x0 : w.cell? ⟨b, 0, none⟩ = some (.int .u8 k)) (c : Int) (hk : (k = 3 ∧ (c = 5 ∨ c = 6)) ∨ (k = 4 ∧ (c = 7 ∨ c = 8))) :
    Calls Tryd.prog 17 #[.pointer (some ⟨b, 0, none⟩), .int .u8 c] w fun e w' => e = .returned (.bool true) ∧ w = w' := by
  rcases hk with ⟨rfl, rfl | rfl⟩ | ⟨rfl, rfl | rfl⟩
  all_goals
    go_enter Tryd.func17, Tryd.ntmps17
    go_wp2
    go_ret
    exact ⟨rfl, rfl⟩
theorem rofits_val (c u V : Int) (hc : c = 5 ∨ c = 8 ∨ ((c = 6 ∨ c = 7) ∧ V = 0)) (hV : Wf64 V) (hR : rightB V = true) (w : World) :
    Calls Tryd.prog 18 #[.agg #[.int .u8 c, .int .i64 u, .int .u64 V]] w fun e w' => e = .returned (.bool true) ∧ Touch w w' [] := by
  have HB := BoxC.new w c u V
  obtain ⟨x0, x1, x2⟩ := HB.cells
  have HT : Hid (Touch w (w.alloc (.cells #[.int .u8 c, .int .i64 u, .int .u64 V] 30)) []) := (Touch.refl w []).alloc _
  have HR : HidC _ _ _ _ _ := ⟨rright_any V hV (w.alloc (.cells #[.int .u8 c, .int .i64 u, .int .u64 V] 30))⟩
  rw [hR] at HR
  clear HB hR hV
  rcases hc with rfl | rfl | ⟨rfl | rfl, rfl⟩
  all_goals
    go_enter Tryd.func18, Tryd.ntmps18
    go_wp2_with fail
    refine HR.out.mono ?_
    rintro e _ ⟨rfl, rfl⟩
    go_wp2
    go_ret
    exact ⟨rfl, HT.out⟩
theorem dov_Q (w : World) (c u V : Int) : ∀ Q, Q = (w.alloc (.cells #[.int .u8 c, .int .i64 u, .int .u64 V] 30)).alloc (.cells #[.int .u64 0, .bool false, .int .i64 0] 43) → BoxC Q w.heap.size c u V ∧ Q.heap[w.heap.size + 1]? = some (.cells #[.int .u64 0, .bool false, .int .i64 0] 43 (0, 0)) ∧ Touch w Q [] ∧ Q.heap.size = w.heap.size + 2 := by
  intro Q hQ
  have h2 := heap_alloc_new (w.alloc (.cells #[.int .u8 c, .int .i64 u, .int .u64 V] 30)) (.cells #[.int .u64 0, .bool false, .int .i64 0] 43)
  have s1 : (w.alloc (.cells #[.int .u8 c, .int .i64 u, .int .u64 V] 30)).heap.size = w.heap.size + 1 := by simp
  rw [s1] at h2
  subst hQ
  exact ⟨(BoxC.new w c u V).touch ((Touch.refl _ []).alloc _) (by simp), h2, ((Touch.refl w []).alloc _).alloc _, by simp⟩

set_option maxRecDepth 100000 in
set_option maxHeartbeats 4000000 in
theorem rdv_full {w : World} {b : Nat} {s u o n g : Int} {V : Int} {v : Value} {l : List Int} (hV : Wf64 V) (hR : rightB V = true) (hg0 : 0 ≤ g) (hg : g ≤ 1000) (hl : s ≤ l.length) (hu : 0 ≤ u ∧ u < 4) (h : RObV w b 3 s o n g v l) :
    Calls Tryd.prog 8 #[.pointer (some ⟨b, 0, none⟩), .agg #[.int .u8 5, .int .i64 u, .int .u64 V]] w (DoV w b v 0 true 3 s o n g l) := by
  have d1 : decide ((l.length : Int) ≥ s) = true := decide_eq_true hl
  have d2 : decide (s ≤ (l.length : Int)) = true := decide_eq_true hl
  obtain ⟨va, vc, rfl⟩ := h.row.form
  obtain ⟨Q, hQ⟩ : ∃ Q, Q = (w.alloc (.cells #[.int .u8 5, .int .i64 u, .int .u64 V] 30)).alloc (.cells #[.int .u64 0, .bool false, .int .i64 0] 43) := ⟨_, rfl⟩
  obtain ⟨qb, qa, qt, qs⟩ := dov_Q w 5 u V Q hQ
  have HQ : Hid ((w.alloc (.cells #[.int .u8 5, .int .i64 u, .int .u64 V] 30)).alloc (.cells #[.int .u64 0, .bool false, .int .i64 0] 43) = Q) := hQ.symm
  clear hQ
  have hblt := lt_of_heap h.st
  have hob := h.touch qt (by simp) (by simp)
  have HTK : HidC _ _ _ _ _ := ⟨rtakes_kind hob.cells.1 5 (by omega)⟩
  have HFT : Hid (∀ W, HidC Tryd.prog 18 #[.agg #[.int .u8 5, .int .i64 u, .int .u64 V]] W fun e w' => e = .returned (.bool true) ∧ Touch W w' []) := fun W => ⟨rofits_val 5 u V (by omega) hV hR W⟩
  have HIN : Hid (∀ W, HidC Tryd.prog 4 #[.int .i64 g] W fun e w' => e = .returned (.tuple #[.int .u64 (numV g), .bool true]) ∧ W = w') := fun W => ⟨rint_ok g (by omega) (by omega) W⟩
  obtain ⟨x0, x1, x2⟩ := qb.cells
  have hu0 : decide (u < 0) = false := decide_eq_false (by omega)
  have hu5 : decide (4 ≤ u) = false := decide_eq_false (by omega)
  have HW : Hid (∀ w2, Touch Q w2 [] → ∀ W, W = (w2.alloc (.cells #[.int .u64 4607182418800017408, .bool false, .int .i64 0] 43)).alloc (.cells #[.int .u64 0, .bool true, .int .i64 0] 43) → Touch w W [] ∧ BoxC W w.heap.size 5 u V ∧ RObV W b 3 s o n g (.slice va _ vc) _ ∧ W.heap[w.heap.size + 1]? = some (.cells #[.int .u64 0, .bool false, .int .i64 0] 43 (0, 0)) ∧ W.heap[w2.heap.size]? = some (.cells #[.int .u64 4607182418800017408, .bool false, .int .i64 0] 43 (0, 0)) ∧ W.heap[w2.heap.size + 1]? = some (.cells #[.int .u64 0, .bool true, .int .i64 0] 43 (0, 0)) ∧ w.heap.size + 2 ≤ w2.heap.size) := fun w2 t W hW => by
    have tA : Touch Q W [] := by rw [hW]; exact (t.alloc _).alloc _
    have h1 := heap_alloc_new w2 (.cells #[.int .u64 4607182418800017408, .bool false, .int .i64 0] 43)
    have h2 := heap_alloc_new (w2.alloc (.cells #[.int .u64 4607182418800017408, .bool false, .int .i64 0] 43)) (.cells #[.int .u64 0, .bool true, .int .i64 0] 43)
    have s1 : (w2.alloc (.cells #[.int .u64 4607182418800017408, .bool false, .int .i64 0] 43)).heap.size = w2.heap.size + 1 := by simp
    have h3 : W.heap[w2.heap.size]? = some (.cells #[.int .u64 4607182418800017408, .bool false, .int .i64 0] 43 (0, 0)) := by rw [hW]; exact (((Touch.refl _ []).alloc _).block _ (lt_of_heap h1) (by simp)).trans h1
    rw [s1, ← hW] at h2
    have := t.size
    exact ⟨qt.trans tA (by simp), qb.touch tA (by simp), hob.touch tA (by simp) (by simp), (tA.block _ (lt_of_heap qa) (by simp)).trans qa, h3, h2, by omega⟩
  have HRW : Hid (VRow w _ _) := h.row
  have HBL : Hid (b < w.heap.size) := hblt
  clear qb qa qt qs hob h hV hR
  go_enter Tryd.func8, Tryd.ntmps8
  go_wp2_with fail
  rw [HQ.out]
  clear HQ
  go_wp2_with fail
  refine HTK.out.mono ?_
  rintro e _ ⟨rfl, rfl⟩
  clear HTK
  go_wp2_with fail
  refine (HFT.out _).out.mono ?_
  rintro e w2 ⟨rfl, t2⟩
  clear HFT x0 x1 x2
  obtain ⟨W, hW⟩ : ∃ W, W = (w2.alloc (.cells #[.int .u64 4607182418800017408, .bool false, .int .i64 0] 43)).alloc (.cells #[.int .u64 0, .bool true, .int .i64 0] 43) := ⟨_, rfl⟩
  obtain ⟨tW, bW, oW, aW, yW, zW, sW⟩ := HW.out w2 t2 W hW
  obtain ⟨x0, x1, x2⟩ := bW.cells
  obtain ⟨y0, y1, y2, y3, y4, y5⟩ := oW.cells
  have yf := oW.fr 3
  have yg := oW.fr 4
  have yh := oW.fr 5
  have q0 : W.cell? ⟨w.heap.size + 1, 0, none⟩ = some (.int .u64 0) := by unfold World.cell?; rw [aW]; rfl
  have q1 : W.cell? ⟨w.heap.size + 1, 1, none⟩ = some (.bool false) := by unfold World.cell?; rw [aW]; rfl
  have q2 : W.cell? ⟨w.heap.size + 1, 2, none⟩ = some (.int .i64 0) := by unfold World.cell?; rw [aW]; rfl
  have r0 : W.cell? ⟨w2.heap.size, 0, none⟩ = some (.int .u64 4607182418800017408) := by unfold World.cell?; rw [yW]; rfl
  have r1 : W.cell? ⟨w2.heap.size, 1, none⟩ = some (.bool false) := by unfold World.cell?; rw [yW]; rfl
  have r2 : W.cell? ⟨w2.heap.size, 2, none⟩ = some (.int .i64 0) := by unfold World.cell?; rw [yW]; rfl
  have u0 : W.cell? ⟨w2.heap.size + 1, 0, none⟩ = some (.int .u64 0) := by unfold World.cell?; rw [zW]; rfl
  have u1 : W.cell? ⟨w2.heap.size + 1, 1, none⟩ = some (.bool true) := by unfold World.cell?; rw [zW]; rfl
  have u2 : W.cell? ⟨w2.heap.size + 1, 2, none⟩ = some (.int .i64 0) := by unfold World.cell?; rw [zW]; rfl
  have qf0 : W.frozen? ⟨w.heap.size + 1, 0, none⟩ = false := by unfold World.frozen?; rw [aW]; simp
  have qf1 : W.frozen? ⟨w.heap.size + 1, 1, none⟩ = false := by unfold World.frozen?; rw [aW]; simp
  have qf2 : W.frozen? ⟨w.heap.size + 1, 2, none⟩ = false := by unfold World.frozen?; rw [aW]; simp
  have n1 : b ≠ w.heap.size + 1 := by omega
  have n2 : b ≠ w2.heap.size := by omega
  have n3 : b ≠ w2.heap.size + 1 := by omega
  have n4 : w.heap.size + 1 ≠ w2.heap.size := by omega
  have n5 : w.heap.size ≠ b := by omega
  have n6 : w2.heap.size + 1 ≠ b := by omega
  have n7 : w2.heap.size ≠ b := by omega
  have n8 : w.heap.size + 1 ≠ b := by omega
  have HFIN : Hid (∀ W0, Touch W W0 [] → ∀ x y z, (∃ v', RObV (((W0.setCell ⟨w.heap.size + 1, 0, none⟩ x).setCell ⟨w.heap.size + 1, 1, none⟩ y).setCell ⟨w.heap.size + 1, 2, none⟩ z) b 3 s o n g v' l ∧ ∀ y, v'.ownBlock = some y → w.heap.size ≤ y ∨ (Value.slice va _ vc).ownBlock = some y) ∧ Touch w (((W0.setCell ⟨w.heap.size + 1, 0, none⟩ x).setCell ⟨w.heap.size + 1, 1, none⟩ y).setCell ⟨w.heap.size + 1, 2, none⟩ z) [b] ∧ (((W0.setCell ⟨w.heap.size + 1, 0, none⟩ x).setCell ⟨w.heap.size + 1, 1, none⟩ y).setCell ⟨w.heap.size + 1, 2, none⟩ z).heap[w.heap.size + 1]? = some (.cells #[x, y, z] 43 (0, 0))) := fun W0 t0 x y z => by
    have r := oW.touch t0 (by simp) (by simp)
    have t : Touch W W0 [b] := t0.mono (by simp)
    have hA := (t.block _ (lt_of_heap aW) (by simp; omega)).trans aW
    have tS : Touch W0 (((W0.setCell ⟨w.heap.size + 1, 0, none⟩ x).setCell ⟨w.heap.size + 1, 1, none⟩ y).setCell ⟨w.heap.size + 1, 2, none⟩ z) [w.heap.size + 1] := (((Touch.refl _ _).setCell (.inl (by simp)) _).setCell (.inl (by simp)) _).setCell (.inl (by simp)) _
    refine ⟨⟨_, r.touch tS (by simp; omega) (fun hne x hx hs => by have := SRow.block HRW.out hne x hx; simp at hs; omega), fun _ hy => .inr hy⟩, ((tW.mono (by simp)).trans t (fun x hx => .inl hx)).trans tS (fun x hx => .inr (by simp at hx; omega)), ?_⟩
    rw [heap_setCell_same _ _ _ _ _ _ (heap_setCell_same _ _ _ _ _ _ (heap_setCell_same _ _ _ _ _ _ hA))]
    rfl
  clear tW bW oW aW yW zW sW HW t2
  subst hW
  go_wp2_with fail
  refine (HIN.out _).out.mono ?_
  rintro e _ ⟨rfl, rfl⟩
  clear HIN
  generalize hX : (w2.alloc (.cells #[.int .u64 4607182418800017408, .bool false, .int .i64 0] 43)).alloc (.cells #[.int .u64 0, .bool true, .int .i64 0] 43) = W at *
  have hX' := hX
  clear hX hX'
  go_wp2_with fail
  go_quiet (fail)
  go_wp2
  obtain ⟨⟨v', h8⟩, h9, h10⟩ := HFIN.out (W.drewN _) ((Touch.refl W []).drewN _) (.int .u64 0) (.bool true) (.int .i64 0)
  refine bodyPost_ret (v := .agg #[.int .u64 0, .bool true, .int .i64 0]) ?_ rfl ⟨rfl, ⟨v', h8⟩, h9⟩
  rw [res_cellC rfl]
  obtain ⟨z0, z1, z2⟩ := ans_cells h10
  simp [go_sem, z0, z1, z2]

set_option maxRecDepth 100000 in
set_option maxHeartbeats 4000000 in
theorem rdv_none {w : World} {b : Nat} {s u o n g : Int} {v : Value} {l : List Int} (hg0 : 0 ≤ g) (hg : g ≤ 1000) (hl : l = []) (hu : 0 ≤ u ∧ u < 4) (h : RObV w b 3 s o n g v l) :
    Calls Tryd.prog 8 #[.pointer (some ⟨b, 0, none⟩), .agg #[.int .u8 6, .int .i64 u, .int .u64 0]] w (DoV w b v 0 true 3 s o n g []) := by
  subst hl
  obtain ⟨va, vc, rfl⟩ := h.row.form
  obtain ⟨Q, hQ⟩ : ∃ Q, Q = (w.alloc (.cells #[.int .u8 6, .int .i64 u, .int .u64 0] 30)).alloc (.cells #[.int .u64 0, .bool false, .int .i64 0] 43) := ⟨_, rfl⟩
  obtain ⟨qb, qa, qt, qs⟩ := dov_Q w 6 u 0 Q hQ
  have HQ : Hid ((w.alloc (.cells #[.int .u8 6, .int .i64 u, .int .u64 0] 30)).alloc (.cells #[.int .u64 0, .bool false, .int .i64 0] 43) = Q) := hQ.symm
  clear hQ
  have hblt := lt_of_heap h.st
  have hob := h.touch qt (by simp) (by simp)
  have HTK : HidC _ _ _ _ _ := ⟨rtakes_kind hob.cells.1 6 (by omega)⟩
  have HFT : Hid (∀ W, HidC Tryd.prog 18 #[.agg #[.int .u8 6, .int .i64 u, .int .u64 0]] W fun e w' => e = .returned (.bool true) ∧ Touch W w' []) := fun W => ⟨rofits_val 6 u 0 (by omega) ⟨by decide, by decide⟩ (by decide +kernel) W⟩
  have HIN : Hid (∀ W, HidC Tryd.prog 4 #[.int .i64 g] W fun e w' => e = .returned (.tuple #[.int .u64 (numV g), .bool true]) ∧ W = w') := fun W => ⟨rint_ok g (by omega) (by omega) W⟩
  obtain ⟨x0, x1, x2⟩ := qb.cells
  have hu0 : decide (u < 0) = false := decide_eq_false (by omega)
  have hu5 : decide (4 ≤ u) = false := decide_eq_false (by omega)
  have HW : Hid (∀ w2, Touch Q w2 [] → ∀ W, W = (w2.alloc (.cells #[.int .u64 4607182418800017408, .bool false, .int .i64 0] 43)).alloc (.cells #[.int .u64 0, .bool true, .int .i64 0] 43) → Touch w W [] ∧ BoxC W w.heap.size 6 u 0 ∧ RObV W b 3 s o n g (.slice va _ vc) _ ∧ W.heap[w.heap.size + 1]? = some (.cells #[.int .u64 0, .bool false, .int .i64 0] 43 (0, 0)) ∧ W.heap[w2.heap.size]? = some (.cells #[.int .u64 4607182418800017408, .bool false, .int .i64 0] 43 (0, 0)) ∧ W.heap[w2.heap.size + 1]? = some (.cells #[.int .u64 0, .bool true, .int .i64 0] 43 (0, 0)) ∧ w.heap.size + 2 ≤ w2.heap.size) := fun w2 t W hW => by
    have tA : Touch Q W [] := by rw [hW]; exact (t.alloc _).alloc _
    have h1 := heap_alloc_new w2 (.cells #[.int .u64 4607182418800017408, .bool false, .int .i64 0] 43)
    have h2 := heap_alloc_new (w2.alloc (.cells #[.int .u64 4607182418800017408, .bool false, .int .i64 0] 43)) (.cells #[.int .u64 0, .bool true, .int .i64 0] 43)
    have s1 : (w2.alloc (.cells #[.int .u64 4607182418800017408, .bool false, .int .i64 0] 43)).heap.size = w2.heap.size + 1 := by simp
    have h3 : W.heap[w2.heap.size]? = some (.cells #[.int .u64 4607182418800017408, .bool false, .int .i64 0] 43 (0, 0)) := by rw [hW]; exact (((Touch.refl _ []).alloc _).block _ (lt_of_heap h1) (by simp)).trans h1
    rw [s1, ← hW] at h2
    have := t.size
    exact ⟨qt.trans tA (by simp), qb.touch tA (by simp), hob.touch tA (by simp) (by simp), (tA.block _ (lt_of_heap qa) (by simp)).trans qa, h3, h2, by omega⟩
  have HRW : Hid (VRow w _ _) := h.row
  have HBL : Hid (b < w.heap.size) := hblt
  clear qb qa qt qs hob h
  go_enter Tryd.func8, Tryd.ntmps8
  go_wp2_with fail
  rw [HQ.out]
  clear HQ
  go_wp2_with fail
  refine HTK.out.mono ?_
  rintro e _ ⟨rfl, rfl⟩
  clear HTK
  go_wp2_with fail
  refine (HFT.out _).out.mono ?_
  rintro e w2 ⟨rfl, t2⟩
  clear HFT x0 x1 x2
  obtain ⟨W, hW⟩ : ∃ W, W = (w2.alloc (.cells #[.int .u64 4607182418800017408, .bool false, .int .i64 0] 43)).alloc (.cells #[.int .u64 0, .bool true, .int .i64 0] 43) := ⟨_, rfl⟩
  obtain ⟨tW, bW, oW, aW, yW, zW, sW⟩ := HW.out w2 t2 W hW
  obtain ⟨x0, x1, x2⟩ := bW.cells
  obtain ⟨y0, y1, y2, y3, y4, y5⟩ := oW.cells
  have yf := oW.fr 3
  have yg := oW.fr 4
  have yh := oW.fr 5
  have q0 : W.cell? ⟨w.heap.size + 1, 0, none⟩ = some (.int .u64 0) := by unfold World.cell?; rw [aW]; rfl
  have q1 : W.cell? ⟨w.heap.size + 1, 1, none⟩ = some (.bool false) := by unfold World.cell?; rw [aW]; rfl
  have q2 : W.cell? ⟨w.heap.size + 1, 2, none⟩ = some (.int .i64 0) := by unfold World.cell?; rw [aW]; rfl
  have r0 : W.cell? ⟨w2.heap.size, 0, none⟩ = some (.int .u64 4607182418800017408) := by unfold World.cell?; rw [yW]; rfl
  have r1 : W.cell? ⟨w2.heap.size, 1, none⟩ = some (.bool false) := by unfold World.cell?; rw [yW]; rfl
  have r2 : W.cell? ⟨w2.heap.size, 2, none⟩ = some (.int .i64 0) := by unfold World.cell?; rw [yW]; rfl
  have u0 : W.cell? ⟨w2.heap.size + 1, 0, none⟩ = some (.int .u64 0) := by unfold World.cell?; rw [zW]; rfl
  have u1 : W.cell? ⟨w2.heap.size + 1, 1, none⟩ = some (.bool true) := by unfold World.cell?; rw [zW]; rfl
  have u2 : W.cell? ⟨w2.heap.size + 1, 2, none⟩ = some (.int .i64 0) := by unfold World.cell?; rw [zW]; rfl
  have qf0 : W.frozen? ⟨w.heap.size + 1, 0, none⟩ = false := by unfold World.frozen?; rw [aW]; simp
  have qf1 : W.frozen? ⟨w.heap.size + 1, 1, none⟩ = false := by unfold World.frozen?; rw [aW]; simp
  have qf2 : W.frozen? ⟨w.heap.size + 1, 2, none⟩ = false := by unfold World.frozen?; rw [aW]; simp
  have n1 : b ≠ w.heap.size + 1 := by omega
  have n2 : b ≠ w2.heap.size := by omega
  have n3 : b ≠ w2.heap.size + 1 := by omega
  have n4 : w.heap.size + 1 ≠ w2.heap.size := by omega
  have n5 : w.heap.size ≠ b := by omega
  have n6 : w2.heap.size + 1 ≠ b := by omega
  have n7 : w2.heap.size ≠ b := by omega
  have n8 : w.heap.size + 1 ≠ b := by omega
  have HFIN : Hid (∀ W0, Touch W W0 [] → ∀ x y z, (∃ v', RObV (((W0.setCell ⟨w.heap.size + 1, 0, none⟩ x).setCell ⟨w.heap.size + 1, 1, none⟩ y).setCell ⟨w.heap.size + 1, 2, none⟩ z) b 3 s o n g v' [] ∧ ∀ y, v'.ownBlock = some y → w.heap.size ≤ y ∨ (Value.slice va _ vc).ownBlock = some y) ∧ Touch w (((W0.setCell ⟨w.heap.size + 1, 0, none⟩ x).setCell ⟨w.heap.size + 1, 1, none⟩ y).setCell ⟨w.heap.size + 1, 2, none⟩ z) [b] ∧ (((W0.setCell ⟨w.heap.size + 1, 0, none⟩ x).setCell ⟨w.heap.size + 1, 1, none⟩ y).setCell ⟨w.heap.size + 1, 2, none⟩ z).heap[w.heap.size + 1]? = some (.cells #[x, y, z] 43 (0, 0))) := fun W0 t0 x y z => by
    have r := oW.touch t0 (by simp) (by simp)
    have t : Touch W W0 [b] := t0.mono (by simp)
    have hA := (t.block _ (lt_of_heap aW) (by simp; omega)).trans aW
    have tS : Touch W0 (((W0.setCell ⟨w.heap.size + 1, 0, none⟩ x).setCell ⟨w.heap.size + 1, 1, none⟩ y).setCell ⟨w.heap.size + 1, 2, none⟩ z) [w.heap.size + 1] := (((Touch.refl _ _).setCell (.inl (by simp)) _).setCell (.inl (by simp)) _).setCell (.inl (by simp)) _
    refine ⟨⟨_, r.touch tS (by simp; omega) (fun hne x hx hs => by have := SRow.block HRW.out hne x hx; simp at hs; omega), fun _ hy => .inr hy⟩, ((tW.mono (by simp)).trans t (fun x hx => .inl hx)).trans tS (fun x hx => .inr (by simp at hx; omega)), ?_⟩
    rw [heap_setCell_same _ _ _ _ _ _ (heap_setCell_same _ _ _ _ _ _ (heap_setCell_same _ _ _ _ _ _ hA))]
    rfl
  clear tW bW oW aW yW zW sW HW t2
  subst hW
  go_wp2_with fail
  refine (HIN.out _).out.mono ?_
  rintro e _ ⟨rfl, rfl⟩
  clear HIN
  generalize hX : (w2.alloc (.cells #[.int .u64 4607182418800017408, .bool false, .int .i64 0] 43)).alloc (.cells #[.int .u64 0, .bool true, .int .i64 0] 43) = W at *
  have hX' := hX
  clear hX hX'
  go_wp2_with fail
  obtain ⟨⟨v', h8⟩, h9, h10⟩ := HFIN.out W (Touch.refl W []) (.int .u64 0) (.bool true) (.int .i64 0)
  refine bodyPost_ret (v := .agg #[.int .u64 0, .bool true, .int .i64 0]) ?_ rfl ⟨rfl, ⟨v', h8⟩, h9⟩
  rw [res_cellC rfl]
  obtain ⟨z0, z1, z2⟩ := ans_cells h10
  simp [go_sem, z0, z1, z2]

set_option maxRecDepth 100000 in
set_option maxHeartbeats 4000000 in
theorem rdv_early {w : World} {b : Nat} {s u o n g : Int} {V : Int} {v : Value} {l : List Int} (hV : Wf64 V) (hR : rightB V = true) (hg0 : -100 ≤ g) (hg : g ≤ 1000) (hL : lessB (ofB V.toNat) (ofB (numV g).toNat) = false) (hu : 0 ≤ u ∧ u < 4) (h : RObV w b 4 s o n g v l) :
    Calls Tryd.prog 8 #[.pointer (some ⟨b, 0, none⟩), .agg #[.int .u8 8, .int .i64 u, .int .u64 V]] w (DoV w b v 0 true 4 s o n g l) := by
  obtain ⟨va, vc, rfl⟩ := h.row.form
  obtain ⟨Q, hQ⟩ : ∃ Q, Q = (w.alloc (.cells #[.int .u8 8, .int .i64 u, .int .u64 V] 30)).alloc (.cells #[.int .u64 0, .bool false, .int .i64 0] 43) := ⟨_, rfl⟩
  obtain ⟨qb, qa, qt, qs⟩ := dov_Q w 8 u V Q hQ
  have HQ : Hid ((w.alloc (.cells #[.int .u8 8, .int .i64 u, .int .u64 V] 30)).alloc (.cells #[.int .u64 0, .bool false, .int .i64 0] 43) = Q) := hQ.symm
  clear hQ
  have hblt := lt_of_heap h.st
  have hob := h.touch qt (by simp) (by simp)
  have HTK : HidC _ _ _ _ _ := ⟨rtakes_kind hob.cells.1 8 (by omega)⟩
  have HFT : Hid (∀ W, HidC Tryd.prog 18 #[.agg #[.int .u8 8, .int .i64 u, .int .u64 V]] W fun e w' => e = .returned (.bool true) ∧ Touch W w' []) := fun W => ⟨rofits_val 8 u V (by omega) hV hR W⟩
  have HIN : Hid (∀ W, HidC Tryd.prog 4 #[.int .i64 g] W fun e w' => e = .returned (.tuple #[.int .u64 (numV g), .bool true]) ∧ W = w') := fun W => ⟨rint_ok g (by omega) (by omega) W⟩
  have HLS : Hid (∀ W, HidC Tryd.prog 19 #[.int .u64 V, .int .u64 (numV g)] W fun e w' => e = .returned (.bool false) ∧ W = w') := fun W => ⟨by have := rless_any V (numV g) hV (numV_wf' g (by omega) (by omega)) W; rw [hL] at this; exact this⟩
  obtain ⟨x0, x1, x2⟩ := qb.cells
  have hu0 : decide (u < 0) = false := decide_eq_false (by omega)
  have hu5 : decide (4 ≤ u) = false := decide_eq_false (by omega)
  have HW : Hid (∀ w2, Touch Q w2 [] → ∀ W, W = (w2.alloc (.cells #[.int .u64 4607182418800017408, .bool false, .int .i64 0] 43)).alloc (.cells #[.int .u64 0, .bool true, .int .i64 0] 43) → Touch w W [] ∧ BoxC W w.heap.size 8 u V ∧ RObV W b 4 s o n g (.slice va _ vc) _ ∧ W.heap[w.heap.size + 1]? = some (.cells #[.int .u64 0, .bool false, .int .i64 0] 43 (0, 0)) ∧ W.heap[w2.heap.size]? = some (.cells #[.int .u64 4607182418800017408, .bool false, .int .i64 0] 43 (0, 0)) ∧ W.heap[w2.heap.size + 1]? = some (.cells #[.int .u64 0, .bool true, .int .i64 0] 43 (0, 0)) ∧ w.heap.size + 2 ≤ w2.heap.size) := fun w2 t W hW => by
    have tA : Touch Q W [] := by rw [hW]; exact (t.alloc _).alloc _
    have h1 := heap_alloc_new w2 (.cells #[.int .u64 4607182418800017408, .bool false, .int .i64 0] 43)
    have h2 := heap_alloc_new (w2.alloc (.cells #[.int .u64 4607182418800017408, .bool false, .int .i64 0] 43)) (.cells #[.int .u64 0, .bool true, .int .i64 0] 43)
    have s1 : (w2.alloc (.cells #[.int .u64 4607182418800017408, .bool false, .int .i64 0] 43)).heap.size = w2.heap.size + 1 := by simp
    have h3 : W.heap[w2.heap.size]? = some (.cells #[.int .u64 4607182418800017408, .bool false, .int .i64 0] 43 (0, 0)) := by rw [hW]; exact (((Touch.refl _ []).alloc _).block _ (lt_of_heap h1) (by simp)).trans h1
    rw [s1, ← hW] at h2
    have := t.size
    exact ⟨qt.trans tA (by simp), qb.touch tA (by simp), hob.touch tA (by simp) (by simp), (tA.block _ (lt_of_heap qa) (by simp)).trans qa, h3, h2, by omega⟩
  have HRW : Hid (VRow w _ _) := h.row
  have HBL : Hid (b < w.heap.size) := hblt
  clear qb qa qt qs hob h hV hR
  go_enter Tryd.func8, Tryd.ntmps8
  go_wp2_with fail
  rw [HQ.out]
  clear HQ
  go_wp2_with fail
  refine HTK.out.mono ?_
  rintro e _ ⟨rfl, rfl⟩
  clear HTK
  go_wp2_with fail
  refine (HFT.out _).out.mono ?_
  rintro e w2 ⟨rfl, t2⟩
  clear HFT x0 x1 x2
  obtain ⟨W, hW⟩ : ∃ W, W = (w2.alloc (.cells #[.int .u64 4607182418800017408, .bool false, .int .i64 0] 43)).alloc (.cells #[.int .u64 0, .bool true, .int .i64 0] 43) := ⟨_, rfl⟩
  obtain ⟨tW, bW, oW, aW, yW, zW, sW⟩ := HW.out w2 t2 W hW
  obtain ⟨x0, x1, x2⟩ := bW.cells
  obtain ⟨y0, y1, y2, y3, y4, y5⟩ := oW.cells
  have yf := oW.fr 3
  have yg := oW.fr 4
  have yh := oW.fr 5
  have q0 : W.cell? ⟨w.heap.size + 1, 0, none⟩ = some (.int .u64 0) := by unfold World.cell?; rw [aW]; rfl
  have q1 : W.cell? ⟨w.heap.size + 1, 1, none⟩ = some (.bool false) := by unfold World.cell?; rw [aW]; rfl
  have q2 : W.cell? ⟨w.heap.size + 1, 2, none⟩ = some (.int .i64 0) := by unfold World.cell?; rw [aW]; rfl
  have r0 : W.cell? ⟨w2.heap.size, 0, none⟩ = some (.int .u64 4607182418800017408) := by unfold World.cell?; rw [yW]; rfl
  have r1 : W.cell? ⟨w2.heap.size, 1, none⟩ = some (.bool false) := by unfold World.cell?; rw [yW]; rfl
  have r2 : W.cell? ⟨w2.heap.size, 2, none⟩ = some (.int .i64 0) := by unfold World.cell?; rw [yW]; rfl
  have u0 : W.cell? ⟨w2.heap.size + 1, 0, none⟩ = some (.int .u64 0) := by unfold World.cell?; rw [zW]; rfl
  have u1 : W.cell? ⟨w2.heap.size + 1, 1, none⟩ = some (.bool true) := by unfold World.cell?; rw [zW]; rfl
  have u2 : W.cell? ⟨w2.heap.size + 1, 2, none⟩ = some (.int .i64 0) := by unfold World.cell?; rw [zW]; rfl
  have qf0 : W.frozen? ⟨w.heap.size + 1, 0, none⟩ = false := by unfold World.frozen?; rw [aW]; simp
  have qf1 : W.frozen? ⟨w.heap.size + 1, 1, none⟩ = false := by unfold World.frozen?; rw [aW]; simp
  have qf2 : W.frozen? ⟨w.heap.size + 1, 2, none⟩ = false := by unfold World.frozen?; rw [aW]; simp
  have n1 : b ≠ w.heap.size + 1 := by omega
  have n2 : b ≠ w2.heap.size := by omega
  have n3 : b ≠ w2.heap.size + 1 := by omega
  have n4 : w.heap.size + 1 ≠ w2.heap.size := by omega
  have n5 : w.heap.size ≠ b := by omega
  have n6 : w2.heap.size + 1 ≠ b := by omega
  have n7 : w2.heap.size ≠ b := by omega
  have n8 : w.heap.size + 1 ≠ b := by omega
  have HFIN : Hid (∀ W0, Touch W W0 [] → ∀ x y z, (∃ v', RObV (((W0.setCell ⟨w.heap.size + 1, 0, none⟩ x).setCell ⟨w.heap.size + 1, 1, none⟩ y).setCell ⟨w.heap.size + 1, 2, none⟩ z) b 4 s o n g v' l ∧ ∀ y, v'.ownBlock = some y → w.heap.size ≤ y ∨ (Value.slice va _ vc).ownBlock = some y) ∧ Touch w (((W0.setCell ⟨w.heap.size + 1, 0, none⟩ x).setCell ⟨w.heap.size + 1, 1, none⟩ y).setCell ⟨w.heap.size + 1, 2, none⟩ z) [b] ∧ (((W0.setCell ⟨w.heap.size + 1, 0, none⟩ x).setCell ⟨w.heap.size + 1, 1, none⟩ y).setCell ⟨w.heap.size + 1, 2, none⟩ z).heap[w.heap.size + 1]? = some (.cells #[x, y, z] 43 (0, 0))) := fun W0 t0 x y z => by
    have r := oW.touch t0 (by simp) (by simp)
    have t : Touch W W0 [b] := t0.mono (by simp)
    have hA := (t.block _ (lt_of_heap aW) (by simp; omega)).trans aW
    have tS : Touch W0 (((W0.setCell ⟨w.heap.size + 1, 0, none⟩ x).setCell ⟨w.heap.size + 1, 1, none⟩ y).setCell ⟨w.heap.size + 1, 2, none⟩ z) [w.heap.size + 1] := (((Touch.refl _ _).setCell (.inl (by simp)) _).setCell (.inl (by simp)) _).setCell (.inl (by simp)) _
    refine ⟨⟨_, r.touch tS (by simp; omega) (fun hne x hx hs => by have := SRow.block HRW.out hne x hx; simp at hs; omega), fun _ hy => .inr hy⟩, ((tW.mono (by simp)).trans t (fun x hx => .inl hx)).trans tS (fun x hx => .inr (by simp at hx; omega)), ?_⟩
    rw [heap_setCell_same _ _ _ _ _ _ (heap_setCell_same _ _ _ _ _ _ (heap_setCell_same _ _ _ _ _ _ hA))]
    rfl
  clear tW bW oW aW yW zW sW HW t2
  subst hW
  go_wp2_with fail
  refine (HIN.out _).out.mono ?_
  rintro e _ ⟨rfl, rfl⟩
  clear HIN
  generalize hX : (w2.alloc (.cells #[.int .u64 4607182418800017408, .bool false, .int .i64 0] 43)).alloc (.cells #[.int .u64 0, .bool true, .int .i64 0] 43) = W at *
  have hX' := hX
  clear hX hX'
  go_wp2_with fail
  refine (HLS.out _).out.mono ?_
  rintro e _ ⟨rfl, rfl⟩
  clear HLS
  go_wp2_with fail
  obtain ⟨⟨v', h8⟩, h9, h10⟩ := HFIN.out W (Touch.refl W []) (.int .u64 0) (.bool true) (.int .i64 0)
  refine bodyPost_ret (v := .agg #[.int .u64 0, .bool true, .int .i64 0]) ?_ rfl ⟨rfl, ⟨v', h8⟩, h9⟩
  rw [res_cellC rfl]
  obtain ⟨z0, z1, z2⟩ := ans_cells h10
  simp [go_sem, z0, z1, z2]

set_option maxRecDepth 100000 in
set_option maxHeartbeats 4000000 in
theorem rdv_leave {w : World} {b : Nat} {s u o n g : Int} {V : Int} {v : Value} {l : List Int} (hV : Wf64 V) (hR : rightB V = true) (hg0 : -100 ≤ g) (hg : g ≤ 1000) (hL : lessB (ofB V.toNat) (ofB (numV g).toNat) = true) (hu : 0 ≤ u ∧ u < 4) (h : RObV w b 4 s o n g v l) :
    Calls Tryd.prog 8 #[.pointer (some ⟨b, 0, none⟩), .agg #[.int .u8 8, .int .i64 u, .int .u64 V]] w (DoV w b v 4607182418800017408 false 4 s o n g l) := by
  obtain ⟨va, vc, rfl⟩ := h.row.form
  obtain ⟨Q, hQ⟩ : ∃ Q, Q = (w.alloc (.cells #[.int .u8 8, .int .i64 u, .int .u64 V] 30)).alloc (.cells #[.int .u64 0, .bool false, .int .i64 0] 43) := ⟨_, rfl⟩
  obtain ⟨qb, qa, qt, qs⟩ := dov_Q w 8 u V Q hQ
  have HQ : Hid ((w.alloc (.cells #[.int .u8 8, .int .i64 u, .int .u64 V] 30)).alloc (.cells #[.int .u64 0, .bool false, .int .i64 0] 43) = Q) := hQ.symm
  clear hQ
  have hblt := lt_of_heap h.st
  have hob := h.touch qt (by simp) (by simp)
  have HTK : HidC _ _ _ _ _ := ⟨rtakes_kind hob.cells.1 8 (by omega)⟩
  have HFT : Hid (∀ W, HidC Tryd.prog 18 #[.agg #[.int .u8 8, .int .i64 u, .int .u64 V]] W fun e w' => e = .returned (.bool true) ∧ Touch W w' []) := fun W => ⟨rofits_val 8 u V (by omega) hV hR W⟩
  have HIN : Hid (∀ W, HidC Tryd.prog 4 #[.int .i64 g] W fun e w' => e = .returned (.tuple #[.int .u64 (numV g), .bool true]) ∧ W = w') := fun W => ⟨rint_ok g (by omega) (by omega) W⟩
  have HLS : Hid (∀ W, HidC Tryd.prog 19 #[.int .u64 V, .int .u64 (numV g)] W fun e w' => e = .returned (.bool true) ∧ W = w') := fun W => ⟨by have := rless_any V (numV g) hV (numV_wf' g (by omega) (by omega)) W; rw [hL] at this; exact this⟩
  obtain ⟨x0, x1, x2⟩ := qb.cells
  have hu0 : decide (u < 0) = false := decide_eq_false (by omega)
  have hu5 : decide (4 ≤ u) = false := decide_eq_false (by omega)
  have HW : Hid (∀ w2, Touch Q w2 [] → ∀ W, W = (w2.alloc (.cells #[.int .u64 4607182418800017408, .bool false, .int .i64 0] 43)).alloc (.cells #[.int .u64 0, .bool true, .int .i64 0] 43) → Touch w W [] ∧ BoxC W w.heap.size 8 u V ∧ RObV W b 4 s o n g (.slice va _ vc) _ ∧ W.heap[w.heap.size + 1]? = some (.cells #[.int .u64 0, .bool false, .int .i64 0] 43 (0, 0)) ∧ W.heap[w2.heap.size]? = some (.cells #[.int .u64 4607182418800017408, .bool false, .int .i64 0] 43 (0, 0)) ∧ W.heap[w2.heap.size + 1]? = some (.cells #[.int .u64 0, .bool true, .int .i64 0] 43 (0, 0)) ∧ w.heap.size + 2 ≤ w2.heap.size) := fun w2 t W hW => by
    have tA : Touch Q W [] := by rw [hW]; exact (t.alloc _).alloc _
    have h1 := heap_alloc_new w2 (.cells #[.int .u64 4607182418800017408, .bool false, .int .i64 0] 43)
    have h2 := heap_alloc_new (w2.alloc (.cells #[.int .u64 4607182418800017408, .bool false, .int .i64 0] 43)) (.cells #[.int .u64 0, .bool true, .int .i64 0] 43)
    have s1 : (w2.alloc (.cells #[.int .u64 4607182418800017408, .bool false, .int .i64 0] 43)).heap.size = w2.heap.size + 1 := by simp
    have h3 : W.heap[w2.heap.size]? = some (.cells #[.int .u64 4607182418800017408, .bool false, .int .i64 0] 43 (0, 0)) := by rw [hW]; exact (((Touch.refl _ []).alloc _).block _ (lt_of_heap h1) (by simp)).trans h1
    rw [s1, ← hW] at h2
    have := t.size
    exact ⟨qt.trans tA (by simp), qb.touch tA (by simp), hob.touch tA (by simp) (by simp), (tA.block _ (lt_of_heap qa) (by simp)).trans qa, h3, h2, by omega⟩
  have HRW : Hid (VRow w _ _) := h.row
  have HBL : Hid (b < w.heap.size) := hblt
  clear qb qa qt qs hob h hV hR
  go_enter Tryd.func8, Tryd.ntmps8
  go_wp2_with fail
  rw [HQ.out]
  clear HQ
  go_wp2_with fail
  refine HTK.out.mono ?_
  rintro e _ ⟨rfl, rfl⟩
  clear HTK
  go_wp2_with fail
  refine (HFT.out _).out.mono ?_
  rintro e w2 ⟨rfl, t2⟩
  clear HFT x0 x1 x2
  obtain ⟨W, hW⟩ : ∃ W, W = (w2.alloc (.cells #[.int .u64 4607182418800017408, .bool false, .int .i64 0] 43)).alloc (.cells #[.int .u64 0, .bool true, .int .i64 0] 43) := ⟨_, rfl⟩
  obtain ⟨tW, bW, oW, aW, yW, zW, sW⟩ := HW.out w2 t2 W hW
  obtain ⟨x0, x1, x2⟩ := bW.cells
  obtain ⟨y0, y1, y2, y3, y4, y5⟩ := oW.cells
  have yf := oW.fr 3
  have yg := oW.fr 4
  have yh := oW.fr 5
  have q0 : W.cell? ⟨w.heap.size + 1, 0, none⟩ = some (.int .u64 0) := by unfold World.cell?; rw [aW]; rfl
  have q1 : W.cell? ⟨w.heap.size + 1, 1, none⟩ = some (.bool false) := by unfold World.cell?; rw [aW]; rfl
  have q2 : W.cell? ⟨w.heap.size + 1, 2, none⟩ = some (.int .i64 0) := by unfold World.cell?; rw [aW]; rfl
  have r0 : W.cell? ⟨w2.heap.size, 0, none⟩ = some (.int .u64 4607182418800017408) := by unfold World.cell?; rw [yW]; rfl
  have r1 : W.cell? ⟨w2.heap.size, 1, none⟩ = some (.bool false) := by unfold World.cell?; rw [yW]; rfl
  have r2 : W.cell? ⟨w2.heap.size, 2, none⟩ = some (.int .i64 0) := by unfold World.cell?; rw [yW]; rfl
  have u0 : W.cell? ⟨w2.heap.size + 1, 0, none⟩ = some (.int .u64 0) := by unfold World.cell?; rw [zW]; rfl
  have u1 : W.cell? ⟨w2.heap.size + 1, 1, none⟩ = some (.bool true) := by unfold World.cell?; rw [zW]; rfl
  have u2 : W.cell? ⟨w2.heap.size + 1, 2, none⟩ = some (.int .i64 0) := by unfold World.cell?; rw [zW]; rfl
  have qf0 : W.frozen? ⟨w.heap.size + 1, 0, none⟩ = false := by unfold World.frozen?; rw [aW]; simp
  have qf1 : W.frozen? ⟨w.heap.size + 1, 1, none⟩ = false := by unfold World.frozen?; rw [aW]; simp
  have qf2 : W.frozen? ⟨w.heap.size + 1, 2, none⟩ = false := by unfold World.frozen?; rw [aW]; simp
  have n1 : b ≠ w.heap.size + 1 := by omega
  have n2 : b ≠ w2.heap.size := by omega
  have n3 : b ≠ w2.heap.size + 1 := by omega
  have n4 : w.heap.size + 1 ≠ w2.heap.size := by omega
  have n5 : w.heap.size ≠ b := by omega
  have n6 : w2.heap.size + 1 ≠ b := by omega
  have n7 : w2.heap.size ≠ b := by omega
  have n8 : w.heap.size + 1 ≠ b := by omega
  have HFIN : Hid (∀ W0, Touch W W0 [] → ∀ x y z, (∃ v', RObV (((W0.setCell ⟨w.heap.size + 1, 0, none⟩ x).setCell ⟨w.heap.size + 1, 1, none⟩ y).setCell ⟨w.heap.size + 1, 2, none⟩ z) b 4 s o n g v' l ∧ ∀ y, v'.ownBlock = some y → w.heap.size ≤ y ∨ (Value.slice va _ vc).ownBlock = some y) ∧ Touch w (((W0.setCell ⟨w.heap.size + 1, 0, none⟩ x).setCell ⟨w.heap.size + 1, 1, none⟩ y).setCell ⟨w.heap.size + 1, 2, none⟩ z) [b] ∧ (((W0.setCell ⟨w.heap.size + 1, 0, none⟩ x).setCell ⟨w.heap.size + 1, 1, none⟩ y).setCell ⟨w.heap.size + 1, 2, none⟩ z).heap[w.heap.size + 1]? = some (.cells #[x, y, z] 43 (0, 0))) := fun W0 t0 x y z => by
    have r := oW.touch t0 (by simp) (by simp)
    have t : Touch W W0 [b] := t0.mono (by simp)
    have hA := (t.block _ (lt_of_heap aW) (by simp; omega)).trans aW
    have tS : Touch W0 (((W0.setCell ⟨w.heap.size + 1, 0, none⟩ x).setCell ⟨w.heap.size + 1, 1, none⟩ y).setCell ⟨w.heap.size + 1, 2, none⟩ z) [w.heap.size + 1] := (((Touch.refl _ _).setCell (.inl (by simp)) _).setCell (.inl (by simp)) _).setCell (.inl (by simp)) _
    refine ⟨⟨_, r.touch tS (by simp; omega) (fun hne x hx hs => by have := SRow.block HRW.out hne x hx; simp at hs; omega), fun _ hy => .inr hy⟩, ((tW.mono (by simp)).trans t (fun x hx => .inl hx)).trans tS (fun x hx => .inr (by simp at hx; omega)), ?_⟩
    rw [heap_setCell_same _ _ _ _ _ _ (heap_setCell_same _ _ _ _ _ _ (heap_setCell_same _ _ _ _ _ _ hA))]
    rfl
  clear tW bW oW aW yW zW sW HW t2
  subst hW
  go_wp2_with fail
  refine (HIN.out _).out.mono ?_
  rintro e _ ⟨rfl, rfl⟩
  clear HIN
  generalize hX : (w2.alloc (.cells #[.int .u64 4607182418800017408, .bool false, .int .i64 0] 43)).alloc (.cells #[.int .u64 0, .bool true, .int .i64 0] 43) = W at *
  have hX' := hX
  clear hX hX'
  go_wp2_with fail
  refine (HLS.out _).out.mono ?_
  rintro e _ ⟨rfl, rfl⟩
  clear HLS
  go_wp2_with fail
  obtain ⟨⟨v', h8⟩, h9, h10⟩ := HFIN.out W (Touch.refl W []) (.int .u64 4607182418800017408) (.bool false) (.int .i64 0)
  refine bodyPost_ret (v := .agg #[.int .u64 4607182418800017408, .bool false, .int .i64 0]) ?_ rfl ⟨rfl, ⟨v', h8⟩, h9⟩
  rw [res_cellC rfl]
  obtain ⟨z0, z1, z2⟩ := ans_cells h10
  simp [go_sem, z0, z1, z2]

set_option maxRecDepth 100000 in
set_option maxHeartbeats 4000000 in
theorem rdv_arrive {w : World} {b : Nat} {s u o n g : Int} {v : Value} {l : List Int} (hg0 : 0 ≤ g) (hg : g ≤ 1000) (hn : n + 1 < s) (hn0 : 0 ≤ n) (hs : s ≤ 100) (hu : 0 ≤ u ∧ u < 4) (h : RObV w b 4 s o n g v l) :
    Calls Tryd.prog 8 #[.pointer (some ⟨b, 0, none⟩), .agg #[.int .u8 7, .int .i64 u, .int .u64 0]] w (DoV w b v (numV g) false 4 s o (n + 1) g l) := by
  have d1 : IntKind.i64.wrap (n + 1) = n + 1 := by rw [IntKind.wrap_i64]; omega
  have d2 : ¬ n + 1 = s := by omega
  obtain ⟨va, vc, rfl⟩ := h.row.form
  obtain ⟨Q, hQ⟩ : ∃ Q, Q = (w.alloc (.cells #[.int .u8 7, .int .i64 u, .int .u64 0] 30)).alloc (.cells #[.int .u64 0, .bool false, .int .i64 0] 43) := ⟨_, rfl⟩
  obtain ⟨qb, qa, qt, qs⟩ := dov_Q w 7 u 0 Q hQ
  have HQ : Hid ((w.alloc (.cells #[.int .u8 7, .int .i64 u, .int .u64 0] 30)).alloc (.cells #[.int .u64 0, .bool false, .int .i64 0] 43) = Q) := hQ.symm
  clear hQ
  have hblt := lt_of_heap h.st
  have hob := h.touch qt (by simp) (by simp)
  have HTK : HidC _ _ _ _ _ := ⟨rtakes_kind hob.cells.1 7 (by omega)⟩
  have HFT : Hid (∀ W, HidC Tryd.prog 18 #[.agg #[.int .u8 7, .int .i64 u, .int .u64 0]] W fun e w' => e = .returned (.bool true) ∧ Touch W w' []) := fun W => ⟨rofits_val 7 u 0 (by omega) ⟨by decide, by decide⟩ (by decide +kernel) W⟩
  have HIN : Hid (∀ W, HidC Tryd.prog 4 #[.int .i64 g] W fun e w' => e = .returned (.tuple #[.int .u64 (numV g), .bool true]) ∧ W = w') := fun W => ⟨rint_ok g (by omega) (by omega) W⟩
  obtain ⟨x0, x1, x2⟩ := qb.cells
  have hu0 : decide (u < 0) = false := decide_eq_false (by omega)
  have hu5 : decide (4 ≤ u) = false := decide_eq_false (by omega)
  have HW : Hid (∀ w2, Touch Q w2 [] → ∀ W, W = (w2.alloc (.cells #[.int .u64 4607182418800017408, .bool false, .int .i64 0] 43)).alloc (.cells #[.int .u64 0, .bool true, .int .i64 0] 43) → Touch w W [] ∧ BoxC W w.heap.size 7 u 0 ∧ RObV W b 4 s o n g (.slice va _ vc) _ ∧ W.heap[w.heap.size + 1]? = some (.cells #[.int .u64 0, .bool false, .int .i64 0] 43 (0, 0)) ∧ W.heap[w2.heap.size]? = some (.cells #[.int .u64 4607182418800017408, .bool false, .int .i64 0] 43 (0, 0)) ∧ W.heap[w2.heap.size + 1]? = some (.cells #[.int .u64 0, .bool true, .int .i64 0] 43 (0, 0)) ∧ w.heap.size + 2 ≤ w2.heap.size) := fun w2 t W hW => by
    have tA : Touch Q W [] := by rw [hW]; exact (t.alloc _).alloc _
    have h1 := heap_alloc_new w2 (.cells #[.int .u64 4607182418800017408, .bool false, .int .i64 0] 43)
    have h2 := heap_alloc_new (w2.alloc (.cells #[.int .u64 4607182418800017408, .bool false, .int .i64 0] 43)) (.cells #[.int .u64 0, .bool true, .int .i64 0] 43)
    have s1 : (w2.alloc (.cells #[.int .u64 4607182418800017408, .bool false, .int .i64 0] 43)).heap.size = w2.heap.size + 1 := by simp
    have h3 : W.heap[w2.heap.size]? = some (.cells #[.int .u64 4607182418800017408, .bool false, .int .i64 0] 43 (0, 0)) := by rw [hW]; exact (((Touch.refl _ []).alloc _).block _ (lt_of_heap h1) (by simp)).trans h1
    rw [s1, ← hW] at h2
    have := t.size
    exact ⟨qt.trans tA (by simp), qb.touch tA (by simp), hob.touch tA (by simp) (by simp), (tA.block _ (lt_of_heap qa) (by simp)).trans qa, h3, h2, by omega⟩
  have HRW : Hid (VRow w _ _) := h.row
  have HBL : Hid (b < w.heap.size) := hblt
  clear qb qa qt qs hob h
  go_enter Tryd.func8, Tryd.ntmps8
  go_wp2_with fail
  rw [HQ.out]
  clear HQ
  go_wp2_with fail
  refine HTK.out.mono ?_
  rintro e _ ⟨rfl, rfl⟩
  clear HTK
  go_wp2_with fail
  refine (HFT.out _).out.mono ?_
  rintro e w2 ⟨rfl, t2⟩
  clear HFT x0 x1 x2
  obtain ⟨W, hW⟩ : ∃ W, W = (w2.alloc (.cells #[.int .u64 4607182418800017408, .bool false, .int .i64 0] 43)).alloc (.cells #[.int .u64 0, .bool true, .int .i64 0] 43) := ⟨_, rfl⟩
  obtain ⟨tW, bW, oW, aW, yW, zW, sW⟩ := HW.out w2 t2 W hW
  obtain ⟨x0, x1, x2⟩ := bW.cells
  obtain ⟨y0, y1, y2, y3, y4, y5⟩ := oW.cells
  have yf := oW.fr 3
  have yg := oW.fr 4
  have yh := oW.fr 5
  have q0 : W.cell? ⟨w.heap.size + 1, 0, none⟩ = some (.int .u64 0) := by unfold World.cell?; rw [aW]; rfl
  have q1 : W.cell? ⟨w.heap.size + 1, 1, none⟩ = some (.bool false) := by unfold World.cell?; rw [aW]; rfl
  have q2 : W.cell? ⟨w.heap.size + 1, 2, none⟩ = some (.int .i64 0) := by unfold World.cell?; rw [aW]; rfl
  have r0 : W.cell? ⟨w2.heap.size, 0, none⟩ = some (.int .u64 4607182418800017408) := by unfold World.cell?; rw [yW]; rfl
  have r1 : W.cell? ⟨w2.heap.size, 1, none⟩ = some (.bool false) := by unfold World.cell?; rw [yW]; rfl
  have r2 : W.cell? ⟨w2.heap.size, 2, none⟩ = some (.int .i64 0) := by unfold World.cell?; rw [yW]; rfl
  have u0 : W.cell? ⟨w2.heap.size + 1, 0, none⟩ = some (.int .u64 0) := by unfold World.cell?; rw [zW]; rfl
  have u1 : W.cell? ⟨w2.heap.size + 1, 1, none⟩ = some (.bool true) := by unfold World.cell?; rw [zW]; rfl
  have u2 : W.cell? ⟨w2.heap.size + 1, 2, none⟩ = some (.int .i64 0) := by unfold World.cell?; rw [zW]; rfl
  have qf0 : W.frozen? ⟨w.heap.size + 1, 0, none⟩ = false := by unfold World.frozen?; rw [aW]; simp
  have qf1 : W.frozen? ⟨w.heap.size + 1, 1, none⟩ = false := by unfold World.frozen?; rw [aW]; simp
  have qf2 : W.frozen? ⟨w.heap.size + 1, 2, none⟩ = false := by unfold World.frozen?; rw [aW]; simp
  have n1 : b ≠ w.heap.size + 1 := by omega
  have n2 : b ≠ w2.heap.size := by omega
  have n3 : b ≠ w2.heap.size + 1 := by omega
  have n4 : w.heap.size + 1 ≠ w2.heap.size := by omega
  have n5 : w.heap.size ≠ b := by omega
  have n6 : w2.heap.size + 1 ≠ b := by omega
  have n7 : w2.heap.size ≠ b := by omega
  have n8 : w.heap.size + 1 ≠ b := by omega
  have HFIN : Hid (∀ W0, Touch (W.setCell ⟨b, 3, none⟩ (.int .i64 (n + 1))) W0 [] → ∀ x y z, (∃ v', RObV (((W0.setCell ⟨w.heap.size + 1, 0, none⟩ x).setCell ⟨w.heap.size + 1, 1, none⟩ y).setCell ⟨w.heap.size + 1, 2, none⟩ z) b 4 s o (n + 1) g v' l ∧ ∀ y, v'.ownBlock = some y → w.heap.size ≤ y ∨ (Value.slice va _ vc).ownBlock = some y) ∧ Touch w (((W0.setCell ⟨w.heap.size + 1, 0, none⟩ x).setCell ⟨w.heap.size + 1, 1, none⟩ y).setCell ⟨w.heap.size + 1, 2, none⟩ z) [b] ∧ (((W0.setCell ⟨w.heap.size + 1, 0, none⟩ x).setCell ⟨w.heap.size + 1, 1, none⟩ y).setCell ⟨w.heap.size + 1, 2, none⟩ z).heap[w.heap.size + 1]? = some (.cells #[x, y, z] 43 (0, 0))) := fun W0 t0 x y z => by
    have r := (oW.setn (n + 1)).touch t0 (by simp) (by simp)
    have t : Touch W W0 [b] := ((Touch.refl W [b]).setCell (.inl (by simp)) _).trans t0 (by simp)
    have hA := (t.block _ (lt_of_heap aW) (by simp; omega)).trans aW
    have tS : Touch W0 (((W0.setCell ⟨w.heap.size + 1, 0, none⟩ x).setCell ⟨w.heap.size + 1, 1, none⟩ y).setCell ⟨w.heap.size + 1, 2, none⟩ z) [w.heap.size + 1] := (((Touch.refl _ _).setCell (.inl (by simp)) _).setCell (.inl (by simp)) _).setCell (.inl (by simp)) _
    refine ⟨⟨_, r.touch tS (by simp; omega) (fun hne x hx hs => by have := SRow.block HRW.out hne x hx; simp at hs; omega), fun _ hy => .inr hy⟩, ((tW.mono (by simp)).trans t (fun x hx => .inl hx)).trans tS (fun x hx => .inr (by simp at hx; omega)), ?_⟩
    rw [heap_setCell_same _ _ _ _ _ _ (heap_setCell_same _ _ _ _ _ _ (heap_setCell_same _ _ _ _ _ _ hA))]
    rfl
  clear tW bW oW aW yW zW sW HW t2
  subst hW
  go_wp2_with fail
  refine (HIN.out _).out.mono ?_
  rintro e _ ⟨rfl, rfl⟩
  clear HIN
  generalize hX : (w2.alloc (.cells #[.int .u64 4607182418800017408, .bool false, .int .i64 0] 43)).alloc (.cells #[.int .u64 0, .bool true, .int .i64 0] 43) = W at *
  have hX' := hX
  clear hX hX'
  go_wp2_with fail
  go_quiet (fail)
  go_wp2
  obtain ⟨⟨v', h8⟩, h9, h10⟩ := HFIN.out ((W.setCell ⟨b, 3, none⟩ (.int .i64 (n + 1))).drewN _) ((Touch.refl (W.setCell ⟨b, 3, none⟩ (.int .i64 (n + 1))) []).drewN _) (.int .u64 (numV g)) (.bool false) (.int .i64 0)
  refine bodyPost_ret (v := .agg #[.int .u64 (numV g), .bool false, .int .i64 0]) ?_ rfl ⟨rfl, ⟨v', h8⟩, h9⟩
  rw [res_cellC rfl]
  obtain ⟨z0, z1, z2⟩ := ans_cells h10
  simp [go_sem, z0, z1, z2]

set_option maxRecDepth 100000 in
set_option maxHeartbeats 4000000 in
theorem rdv_arrived {w : World} {b : Nat} {s u o n g : Int} {v : Value} {l : List Int} (hn : n + 1 = s) (hn0 : 0 ≤ n) (hs : s ≤ 100) (hg0 : 0 ≤ g) (hg : g ≤ 1000) (hu : 0 ≤ u ∧ u < 4) (h : RObV w b 4 s o n g v l) :
    Calls Tryd.prog 8 #[.pointer (some ⟨b, 0, none⟩), .agg #[.int .u8 7, .int .i64 u, .int .u64 0]] w (DoV w b v (numV g) false 4 s o 0 (g + 1) l) := by
  have d1 : IntKind.i64.wrap (n + 1) = s := by rw [IntKind.wrap_i64]; omega
  have d3 : IntKind.i64.wrap (g + 1) = g + 1 := by rw [IntKind.wrap_i64]; omega
  obtain ⟨va, vc, rfl⟩ := h.row.form
  obtain ⟨Q, hQ⟩ : ∃ Q, Q = (w.alloc (.cells #[.int .u8 7, .int .i64 u, .int .u64 0] 30)).alloc (.cells #[.int .u64 0, .bool false, .int .i64 0] 43) := ⟨_, rfl⟩
  obtain ⟨qb, qa, qt, qs⟩ := dov_Q w 7 u 0 Q hQ
  have HQ : Hid ((w.alloc (.cells #[.int .u8 7, .int .i64 u, .int .u64 0] 30)).alloc (.cells #[.int .u64 0, .bool false, .int .i64 0] 43) = Q) := hQ.symm
  clear hQ
  have hblt := lt_of_heap h.st
  have hob := h.touch qt (by simp) (by simp)
  have HTK : HidC _ _ _ _ _ := ⟨rtakes_kind hob.cells.1 7 (by omega)⟩
  have HFT : Hid (∀ W, HidC Tryd.prog 18 #[.agg #[.int .u8 7, .int .i64 u, .int .u64 0]] W fun e w' => e = .returned (.bool true) ∧ Touch W w' []) := fun W => ⟨rofits_val 7 u 0 (by omega) ⟨by decide, by decide⟩ (by decide +kernel) W⟩
  have HIN : Hid (∀ W, HidC Tryd.prog 4 #[.int .i64 g] W fun e w' => e = .returned (.tuple #[.int .u64 (numV g), .bool true]) ∧ W = w') := fun W => ⟨rint_ok g (by omega) (by omega) W⟩
  obtain ⟨x0, x1, x2⟩ := qb.cells
  have hu0 : decide (u < 0) = false := decide_eq_false (by omega)
  have hu5 : decide (4 ≤ u) = false := decide_eq_false (by omega)
  have HW : Hid (∀ w2, Touch Q w2 [] → ∀ W, W = (w2.alloc (.cells #[.int .u64 4607182418800017408, .bool false, .int .i64 0] 43)).alloc (.cells #[.int .u64 0, .bool true, .int .i64 0] 43) → Touch w W [] ∧ BoxC W w.heap.size 7 u 0 ∧ RObV W b 4 s o n g (.slice va _ vc) _ ∧ W.heap[w.heap.size + 1]? = some (.cells #[.int .u64 0, .bool false, .int .i64 0] 43 (0, 0)) ∧ W.heap[w2.heap.size]? = some (.cells #[.int .u64 4607182418800017408, .bool false, .int .i64 0] 43 (0, 0)) ∧ W.heap[w2.heap.size + 1]? = some (.cells #[.int .u64 0, .bool true, .int .i64 0] 43 (0, 0)) ∧ w.heap.size + 2 ≤ w2.heap.size) := fun w2 t W hW => by
    have tA : Touch Q W [] := by rw [hW]; exact (t.alloc _).alloc _
    have h1 := heap_alloc_new w2 (.cells #[.int .u64 4607182418800017408, .bool false, .int .i64 0] 43)
    have h2 := heap_alloc_new (w2.alloc (.cells #[.int .u64 4607182418800017408, .bool false, .int .i64 0] 43)) (.cells #[.int .u64 0, .bool true, .int .i64 0] 43)
    have s1 : (w2.alloc (.cells #[.int .u64 4607182418800017408, .bool false, .int .i64 0] 43)).heap.size = w2.heap.size + 1 := by simp
    have h3 : W.heap[w2.heap.size]? = some (.cells #[.int .u64 4607182418800017408, .bool false, .int .i64 0] 43 (0, 0)) := by rw [hW]; exact (((Touch.refl _ []).alloc _).block _ (lt_of_heap h1) (by simp)).trans h1
    rw [s1, ← hW] at h2
    have := t.size
    exact ⟨qt.trans tA (by simp), qb.touch tA (by simp), hob.touch tA (by simp) (by simp), (tA.block _ (lt_of_heap qa) (by simp)).trans qa, h3, h2, by omega⟩
  have HRW : Hid (VRow w _ _) := h.row
  have HBL : Hid (b < w.heap.size) := hblt
  clear qb qa qt qs hob h
  go_enter Tryd.func8, Tryd.ntmps8
  go_wp2_with fail
  rw [HQ.out]
  clear HQ
  go_wp2_with fail
  refine HTK.out.mono ?_
  rintro e _ ⟨rfl, rfl⟩
  clear HTK
  go_wp2_with fail
  refine (HFT.out _).out.mono ?_
  rintro e w2 ⟨rfl, t2⟩
  clear HFT x0 x1 x2
  obtain ⟨W, hW⟩ : ∃ W, W = (w2.alloc (.cells #[.int .u64 4607182418800017408, .bool false, .int .i64 0] 43)).alloc (.cells #[.int .u64 0, .bool true, .int .i64 0] 43) := ⟨_, rfl⟩
  obtain ⟨tW, bW, oW, aW, yW, zW, sW⟩ := HW.out w2 t2 W hW
  obtain ⟨x0, x1, x2⟩ := bW.cells
  obtain ⟨y0, y1, y2, y3, y4, y5⟩ := oW.cells
  have yf := oW.fr 3
  have yg := oW.fr 4
  have yh := oW.fr 5
  have q0 : W.cell? ⟨w.heap.size + 1, 0, none⟩ = some (.int .u64 0) := by unfold World.cell?; rw [aW]; rfl
  have q1 : W.cell? ⟨w.heap.size + 1, 1, none⟩ = some (.bool false) := by unfold World.cell?; rw [aW]; rfl
  have q2 : W.cell? ⟨w.heap.size + 1, 2, none⟩ = some (.int .i64 0) := by unfold World.cell?; rw [aW]; rfl
  have r0 : W.cell? ⟨w2.heap.size, 0, none⟩ = some (.int .u64 4607182418800017408) := by unfold World.cell?; rw [yW]; rfl
  have r1 : W.cell? ⟨w2.heap.size, 1, none⟩ = some (.bool false) := by unfold World.cell?; rw [yW]; rfl
  have r2 : W.cell? ⟨w2.heap.size, 2, none⟩ = some (.int .i64 0) := by unfold World.cell?; rw [yW]; rfl
  have u0 : W.cell? ⟨w2.heap.size + 1, 0, none⟩ = some (.int .u64 0) := by unfold World.cell?; rw [zW]; rfl
  have u1 : W.cell? ⟨w2.heap.size + 1, 1, none⟩ = some (.bool true) := by unfold World.cell?; rw [zW]; rfl
  have u2 : W.cell? ⟨w2.heap.size + 1, 2, none⟩ = some (.int .i64 0) := by unfold World.cell?; rw [zW]; rfl
  have qf0 : W.frozen? ⟨w.heap.size + 1, 0, none⟩ = false := by unfold World.frozen?; rw [aW]; simp
  have qf1 : W.frozen? ⟨w.heap.size + 1, 1, none⟩ = false := by unfold World.frozen?; rw [aW]; simp
  have qf2 : W.frozen? ⟨w.heap.size + 1, 2, none⟩ = false := by unfold World.frozen?; rw [aW]; simp
  have n1 : b ≠ w.heap.size + 1 := by omega
  have n2 : b ≠ w2.heap.size := by omega
  have n3 : b ≠ w2.heap.size + 1 := by omega
  have n4 : w.heap.size + 1 ≠ w2.heap.size := by omega
  have n5 : w.heap.size ≠ b := by omega
  have n6 : w2.heap.size + 1 ≠ b := by omega
  have n7 : w2.heap.size ≠ b := by omega
  have n8 : w.heap.size + 1 ≠ b := by omega
  have HFIN : Hid (∀ W0, Touch (W.setCell ⟨b, 3, none⟩ (.int .i64 s)) W0 [] → ∀ x y z, (∃ v', RObV (((((W0.setCell ⟨b, 3, none⟩ (.int .i64 0)).setCell ⟨b, 4, none⟩ (.int .i64 (g + 1))).setCell ⟨w.heap.size + 1, 0, none⟩ x).setCell ⟨w.heap.size + 1, 1, none⟩ y).setCell ⟨w.heap.size + 1, 2, none⟩ z) b 4 s o 0 (g + 1) v' l ∧ ∀ y, v'.ownBlock = some y → w.heap.size ≤ y ∨ (Value.slice va _ vc).ownBlock = some y) ∧ Touch w (((((W0.setCell ⟨b, 3, none⟩ (.int .i64 0)).setCell ⟨b, 4, none⟩ (.int .i64 (g + 1))).setCell ⟨w.heap.size + 1, 0, none⟩ x).setCell ⟨w.heap.size + 1, 1, none⟩ y).setCell ⟨w.heap.size + 1, 2, none⟩ z) [b] ∧ (((((W0.setCell ⟨b, 3, none⟩ (.int .i64 0)).setCell ⟨b, 4, none⟩ (.int .i64 (g + 1))).setCell ⟨w.heap.size + 1, 0, none⟩ x).setCell ⟨w.heap.size + 1, 1, none⟩ y).setCell ⟨w.heap.size + 1, 2, none⟩ z).heap[w.heap.size + 1]? = some (.cells #[x, y, z] 43 (0, 0))) := fun W0 t0 x y z => by
    have r := (((oW.setn s).touch t0 (by simp) (by simp)).setn 0).setg (g + 1)
    have t : Touch W ((W0.setCell ⟨b, 3, none⟩ (.int .i64 0)).setCell ⟨b, 4, none⟩ (.int .i64 (g + 1))) [b] := ((((Touch.refl W [b]).setCell (.inl (by simp)) _).trans t0 (by simp)).setCell (.inl (by simp)) _).setCell (.inl (by simp)) _
    have hA := (t.block _ (lt_of_heap aW) (by simp; omega)).trans aW
    have tS : Touch ((W0.setCell ⟨b, 3, none⟩ (.int .i64 0)).setCell ⟨b, 4, none⟩ (.int .i64 (g + 1))) (((((W0.setCell ⟨b, 3, none⟩ (.int .i64 0)).setCell ⟨b, 4, none⟩ (.int .i64 (g + 1))).setCell ⟨w.heap.size + 1, 0, none⟩ x).setCell ⟨w.heap.size + 1, 1, none⟩ y).setCell ⟨w.heap.size + 1, 2, none⟩ z) [w.heap.size + 1] := (((Touch.refl _ _).setCell (.inl (by simp)) _).setCell (.inl (by simp)) _).setCell (.inl (by simp)) _
    refine ⟨⟨_, r.touch tS (by simp; omega) (fun hne x hx hs => by have := SRow.block HRW.out hne x hx; simp at hs; omega), fun _ hy => .inr hy⟩, ((tW.mono (by simp)).trans t (fun x hx => .inl hx)).trans tS (fun x hx => .inr (by simp at hx; omega)), ?_⟩
    rw [heap_setCell_same _ _ _ _ _ _ (heap_setCell_same _ _ _ _ _ _ (heap_setCell_same _ _ _ _ _ _ hA))]
    rfl
  clear tW bW oW aW yW zW sW HW t2
  subst hW
  go_wp2_with fail
  refine (HIN.out _).out.mono ?_
  rintro e _ ⟨rfl, rfl⟩
  clear HIN
  generalize hX : (w2.alloc (.cells #[.int .u64 4607182418800017408, .bool false, .int .i64 0] 43)).alloc (.cells #[.int .u64 0, .bool true, .int .i64 0] 43) = W at *
  have hX' := hX
  clear hX hX'
  go_wp2_with fail
  go_quiet (fail)
  go_wp2
  obtain ⟨⟨v', h8⟩, h9, h10⟩ := HFIN.out ((W.setCell ⟨b, 3, none⟩ (.int .i64 s)).drewN _) ((Touch.refl (W.setCell ⟨b, 3, none⟩ (.int .i64 s)) []).drewN _) (.int .u64 (numV g)) (.bool false) (.int .i64 0)
  refine bodyPost_ret (v := .agg #[.int .u64 (numV g), .bool false, .int .i64 0]) ?_ rfl ⟨rfl, ⟨v', h8⟩, h9⟩
  rw [res_cellC rfl]
  obtain ⟨z0, z1, z2⟩ := ans_cells h10
  simp [go_sem, z0, z1, z2]

set_option maxRecDepth 100000 in
set_option maxHeartbeats 4000000 in
theorem rdv_take {w : World} {b : Nat} {s u o n g : Int} {v : Value} {l : List Int} (hg0 : 0 ≤ g) (hg : g ≤ 1000) {x : Int} {t : List Int} (hl : l = x :: t) (hu : 0 ≤ u ∧ u < 4) (h : RObV w b 3 s o n g v l) :
    Calls Tryd.prog 8 #[.pointer (some ⟨b, 0, none⟩), .agg #[.int .u8 6, .int .i64 u, .int .u64 0]] w (DoV w b v x false 3 s o n g t) := by
  subst hl
  obtain ⟨va, vc, rfl⟩ := h.row.form
  obtain ⟨Q, hQ⟩ : ∃ Q, Q = (w.alloc (.cells #[.int .u8 6, .int .i64 u, .int .u64 0] 30)).alloc (.cells #[.int .u64 0, .bool false, .int .i64 0] 43) := ⟨_, rfl⟩
  obtain ⟨qb, qa, qt, qs⟩ := dov_Q w 6 u 0 Q hQ
  have HQ : Hid ((w.alloc (.cells #[.int .u8 6, .int .i64 u, .int .u64 0] 30)).alloc (.cells #[.int .u64 0, .bool false, .int .i64 0] 43) = Q) := hQ.symm
  clear hQ
  have hblt := lt_of_heap h.st
  have hob := h.touch qt (by simp) (by simp)
  have HTK : HidC _ _ _ _ _ := ⟨rtakes_kind hob.cells.1 6 (by omega)⟩
  have HFT : Hid (∀ W, HidC Tryd.prog 18 #[.agg #[.int .u8 6, .int .i64 u, .int .u64 0]] W fun e w' => e = .returned (.bool true) ∧ Touch W w' []) := fun W => ⟨rofits_val 6 u 0 (by omega) ⟨by decide, by decide⟩ (by decide +kernel) W⟩
  have HIN : Hid (∀ W, HidC Tryd.prog 4 #[.int .i64 g] W fun e w' => e = .returned (.tuple #[.int .u64 (numV g), .bool true]) ∧ W = w') := fun W => ⟨rint_ok g (by omega) (by omega) W⟩
  obtain ⟨x0, x1, x2⟩ := qb.cells
  have hu0 : decide (u < 0) = false := decide_eq_false (by omega)
  have hu5 : decide (4 ≤ u) = false := decide_eq_false (by omega)
  have HW : Hid (∀ w2, Touch Q w2 [] → ∀ W, W = (w2.alloc (.cells #[.int .u64 4607182418800017408, .bool false, .int .i64 0] 43)).alloc (.cells #[.int .u64 0, .bool true, .int .i64 0] 43) → Touch w W [] ∧ BoxC W w.heap.size 6 u 0 ∧ RObV W b 3 s o n g (.slice va _ vc) _ ∧ W.heap[w.heap.size + 1]? = some (.cells #[.int .u64 0, .bool false, .int .i64 0] 43 (0, 0)) ∧ W.heap[w2.heap.size]? = some (.cells #[.int .u64 4607182418800017408, .bool false, .int .i64 0] 43 (0, 0)) ∧ W.heap[w2.heap.size + 1]? = some (.cells #[.int .u64 0, .bool true, .int .i64 0] 43 (0, 0)) ∧ w.heap.size + 2 ≤ w2.heap.size) := fun w2 t W hW => by
    have tA : Touch Q W [] := by rw [hW]; exact (t.alloc _).alloc _
    have h1 := heap_alloc_new w2 (.cells #[.int .u64 4607182418800017408, .bool false, .int .i64 0] 43)
    have h2 := heap_alloc_new (w2.alloc (.cells #[.int .u64 4607182418800017408, .bool false, .int .i64 0] 43)) (.cells #[.int .u64 0, .bool true, .int .i64 0] 43)
    have s1 : (w2.alloc (.cells #[.int .u64 4607182418800017408, .bool false, .int .i64 0] 43)).heap.size = w2.heap.size + 1 := by simp
    have h3 : W.heap[w2.heap.size]? = some (.cells #[.int .u64 4607182418800017408, .bool false, .int .i64 0] 43 (0, 0)) := by rw [hW]; exact (((Touch.refl _ []).alloc _).block _ (lt_of_heap h1) (by simp)).trans h1
    rw [s1, ← hW] at h2
    have := t.size
    exact ⟨qt.trans tA (by simp), qb.touch tA (by simp), hob.touch tA (by simp) (by simp), (tA.block _ (lt_of_heap qa) (by simp)).trans qa, h3, h2, by omega⟩
  have HRW : Hid (VRow w _ _) := h.row
  have HBL : Hid (b < w.heap.size) := hblt
  clear qb qa qt qs hob h
  go_enter Tryd.func8, Tryd.ntmps8
  go_wp2_with fail
  rw [HQ.out]
  clear HQ
  go_wp2_with fail
  refine HTK.out.mono ?_
  rintro e _ ⟨rfl, rfl⟩
  clear HTK
  go_wp2_with fail
  refine (HFT.out _).out.mono ?_
  rintro e w2 ⟨rfl, t2⟩
  clear HFT x0 x1 x2
  obtain ⟨W, hW⟩ : ∃ W, W = (w2.alloc (.cells #[.int .u64 4607182418800017408, .bool false, .int .i64 0] 43)).alloc (.cells #[.int .u64 0, .bool true, .int .i64 0] 43) := ⟨_, rfl⟩
  obtain ⟨tW, bW, oW, aW, yW, zW, sW⟩ := HW.out w2 t2 W hW
  obtain ⟨x0, x1, x2⟩ := bW.cells
  obtain ⟨y0, y1, y2, y3, y4, y5⟩ := oW.cells
  have yf := oW.fr 3
  have yg := oW.fr 4
  have yh := oW.fr 5
  have q0 : W.cell? ⟨w.heap.size + 1, 0, none⟩ = some (.int .u64 0) := by unfold World.cell?; rw [aW]; rfl
  have q1 : W.cell? ⟨w.heap.size + 1, 1, none⟩ = some (.bool false) := by unfold World.cell?; rw [aW]; rfl
  have q2 : W.cell? ⟨w.heap.size + 1, 2, none⟩ = some (.int .i64 0) := by unfold World.cell?; rw [aW]; rfl
  have r0 : W.cell? ⟨w2.heap.size, 0, none⟩ = some (.int .u64 4607182418800017408) := by unfold World.cell?; rw [yW]; rfl
  have r1 : W.cell? ⟨w2.heap.size, 1, none⟩ = some (.bool false) := by unfold World.cell?; rw [yW]; rfl
  have r2 : W.cell? ⟨w2.heap.size, 2, none⟩ = some (.int .i64 0) := by unfold World.cell?; rw [yW]; rfl
  have u0 : W.cell? ⟨w2.heap.size + 1, 0, none⟩ = some (.int .u64 0) := by unfold World.cell?; rw [zW]; rfl
  have u1 : W.cell? ⟨w2.heap.size + 1, 1, none⟩ = some (.bool true) := by unfold World.cell?; rw [zW]; rfl
  have u2 : W.cell? ⟨w2.heap.size + 1, 2, none⟩ = some (.int .i64 0) := by unfold World.cell?; rw [zW]; rfl
  have qf0 : W.frozen? ⟨w.heap.size + 1, 0, none⟩ = false := by unfold World.frozen?; rw [aW]; simp
  have qf1 : W.frozen? ⟨w.heap.size + 1, 1, none⟩ = false := by unfold World.frozen?; rw [aW]; simp
  have qf2 : W.frozen? ⟨w.heap.size + 1, 2, none⟩ = false := by unfold World.frozen?; rw [aW]; simp
  have n1 : b ≠ w.heap.size + 1 := by omega
  have n2 : b ≠ w2.heap.size := by omega
  have n3 : b ≠ w2.heap.size + 1 := by omega
  have n4 : w.heap.size + 1 ≠ w2.heap.size := by omega
  have n5 : w.heap.size ≠ b := by omega
  have n6 : w2.heap.size + 1 ≠ b := by omega
  have n7 : w2.heap.size ≠ b := by omega
  have n8 : w.heap.size + 1 ≠ b := by omega
  obtain ⟨g2, off, rfl, hg2, _⟩ := SRow.at (l := x :: t) HRW.out 0 (by simp)
  have hle := oW.le _ _ _ rfl
  have c0 := (SRow.at (l := x :: t) oW.row 0 (by simp))
  obtain ⟨g3, off3, e3, _, cc⟩ := c0
  simp only [Option.some.injEq, Addr.mk.injEq, and_true] at e3
  obtain ⟨rfl, rfl⟩ := e3
  have cx := cc 0 (by omega)
  simp only [Nat.zero_mul, Nat.add_zero] at cx
  have cx' : W.cell? ⟨g2, off, none⟩ = some (.int .u64 x) := cx
  have hnb := oW.nb (by simp) g2 rfl
  clear cc cx
  have hlen : ((x :: t).length : Int) = (t.length : Int) + 1 := by simp
  have hl1 : (x :: t).length = t.length + 1 := by simp
  rw [hl1] at hle
  obtain ⟨tv, htv⟩ : ∃ tv : Value, tv = if vc = 1 then .slice (some ⟨g2, off, none⟩) 0 0 else .slice (some ⟨g2, off + 1, none⟩) t.length (vc - 1) := ⟨_, rfl⟩
  have hvr : ∀ V, VRow V (.slice (some ⟨g2, off, none⟩) (x :: t).length vc) (x :: t) → VRow V tv t := fun V hv => by
    rw [htv]
    by_cases hv1 : vc = 1
    · rw [if_pos hv1]
      have : t = [] := by cases t with | nil => rfl | cons a b => simp at hle; omega
      subst this
      exact ⟨_, _, rfl, fun h => absurd rfl h⟩
    · rw [if_neg hv1]; exact row_tail hv _
  have hvb : ∀ y, tv.ownBlock = some y → y = g2 := fun y hy => by
    rw [htv] at hy
    split at hy <;> (simp [Value.ownBlock] at hy; omega)
  have hvl : ∀ a m c, tv = .slice a m c → m ≤ c := fun a m c e => by
    rw [htv] at e
    split at e <;> (simp only [Value.slice.injEq] at e; omega)
  have HTV : Hid _ := htv
  clear htv
  have HFIN : Hid (∀ W0, Touch W W0 [] → ∀ x' y z, (∃ v', RObV ((((W0.setCell ⟨b, 5, none⟩ tv).setCell ⟨w.heap.size + 1, 0, none⟩ x').setCell ⟨w.heap.size + 1, 1, none⟩ y).setCell ⟨w.heap.size + 1, 2, none⟩ z) b 3 s o n g v' t ∧ ∀ y, v'.ownBlock = some y → w.heap.size ≤ y ∨ (Value.slice (some ⟨g2, off, none⟩) (t.length + 1) vc).ownBlock = some y) ∧ Touch w ((((W0.setCell ⟨b, 5, none⟩ tv).setCell ⟨w.heap.size + 1, 0, none⟩ x').setCell ⟨w.heap.size + 1, 1, none⟩ y).setCell ⟨w.heap.size + 1, 2, none⟩ z) [b] ∧ ((((W0.setCell ⟨b, 5, none⟩ tv).setCell ⟨w.heap.size + 1, 0, none⟩ x').setCell ⟨w.heap.size + 1, 1, none⟩ y).setCell ⟨w.heap.size + 1, 2, none⟩ z).heap[w.heap.size + 1]? = some (.cells #[x', y, z] 43 (0, 0))) := fun W0 t0 x' y z => by
    have r := (oW.touch t0 (by simp) (by simp)).setv (hvr _ (oW.touch t0 (by simp) (by simp)).row) (fun _ y hy => by rw [hvb y hy]; exact hnb) hvl
    have t : Touch W (W0.setCell ⟨b, 5, none⟩ tv) [b] := (t0.mono (by simp)).setCell (.inl (by simp)) _
    have hA := (t.block _ (lt_of_heap aW) (by simp; omega)).trans aW
    have tS : Touch (W0.setCell ⟨b, 5, none⟩ tv) ((((W0.setCell ⟨b, 5, none⟩ tv).setCell ⟨w.heap.size + 1, 0, none⟩ x').setCell ⟨w.heap.size + 1, 1, none⟩ y).setCell ⟨w.heap.size + 1, 2, none⟩ z) [w.heap.size + 1] := (((Touch.refl _ _).setCell (.inl (by simp)) _).setCell (.inl (by simp)) _).setCell (.inl (by simp)) _
    refine ⟨⟨_, r.touch tS (by simp; omega) (fun hne y hx hs => by have := hvb y hx; simp at hs; omega), fun q hq => .inr (by rw [hvb q hq]; rfl)⟩, ((tW.mono (by simp)).trans t (fun x hx => .inl hx)).trans tS (fun x hx => .inr (by simp at hx; omega)), ?_⟩
    rw [heap_setCell_same _ _ _ _ _ _ (heap_setCell_same _ _ _ _ _ _ (heap_setCell_same _ _ _ _ _ _ hA))]
    rfl
  clear tW bW oW aW yW zW sW HW t2
  subst hW
  go_wp2_with fail
  refine (HIN.out _).out.mono ?_
  rintro e _ ⟨rfl, rfl⟩
  clear HIN
  generalize hX : (w2.alloc (.cells #[.int .u64 4607182418800017408, .bool false, .int .i64 0] 43)).alloc (.cells #[.int .u64 0, .bool true, .int .i64 0] 43) = W at *
  have hX' := hX
  clear hX hX'
  by_cases hv1 : vc = 1
  · subst hv1
    have hE : tv = .slice (some ⟨g2, off, none⟩) 0 0 := by rw [HTV.out]; rfl
    have ht0 : t = [] := by cases t with | nil => rfl | cons a b => simp at hle
    subst ht0
    subst hE
    go_wp2_with fail
    obtain ⟨⟨v', h8⟩, h9, h10⟩ := HFIN.out W (Touch.refl W []) (.int .u64 x) (.bool false) (.int .i64 0)
    refine bodyPost_ret (v := .agg #[.int .u64 x, .bool false, .int .i64 0]) ?_ rfl ⟨rfl, ⟨v', h8⟩, h9⟩
    rw [res_cellC rfl]
    obtain ⟨z0, z1, z2⟩ := ans_cells h10
    simp [go_sem, z0, z1, z2]
  · have hne1 : vc ≠ 1 := hv1
    have hE : tv = .slice (some ⟨g2, off + 1, none⟩) t.length (vc - 1) := by rw [HTV.out, if_neg hv1]
    subst hE
    go_wp2_with fail
    obtain ⟨⟨v', h8⟩, h9, h10⟩ := HFIN.out W (Touch.refl W []) (.int .u64 x) (.bool false) (.int .i64 0)
    refine bodyPost_ret (v := .agg #[.int .u64 x, .bool false, .int .i64 0]) ?_ rfl ⟨rfl, ⟨v', h8⟩, h9⟩
    rw [res_cellC rfl]
    obtain ⟨z0, z1, z2⟩ := ans_cells h10
    simp [go_sem, z0, z1, z2]

set_option maxRecDepth 100000 in
set_option maxHeartbeats 4000000 in
theorem rdv_enter {w : World} {b : Nat} {s u o n g : Int} {V : Int} {v : Value} {l : List Int} (hV : Wf64 V) (hR : rightB V = true) (hg0 : 0 ≤ g) (hg : g ≤ 1000) (hl : (l.length : Int) < s) (hlm : l.length ≤ 900) (hu : 0 ≤ u ∧ u < 4) (h : RObV w b 3 s o n g v l) :
    Calls Tryd.prog 8 #[.pointer (some ⟨b, 0, none⟩), .agg #[.int .u8 5, .int .i64 u, .int .u64 V]] w (DoV w b v 4607182418800017408 false 3 s o n g (l ++ [V])) := by
  have d1 : decide ((l.length : Int) ≥ s) = false := decide_eq_false (by omega)
  have d2 : decide (s ≤ (l.length : Int)) = false := decide_eq_false (by omega)
  obtain ⟨va, vc, rfl⟩ := h.row.form
  obtain ⟨Q, hQ⟩ : ∃ Q, Q = (w.alloc (.cells #[.int .u8 5, .int .i64 u, .int .u64 V] 30)).alloc (.cells #[.int .u64 0, .bool false, .int .i64 0] 43) := ⟨_, rfl⟩
  obtain ⟨qb, qa, qt, qs⟩ := dov_Q w 5 u V Q hQ
  have HQ : Hid ((w.alloc (.cells #[.int .u8 5, .int .i64 u, .int .u64 V] 30)).alloc (.cells #[.int .u64 0, .bool false, .int .i64 0] 43) = Q) := hQ.symm
  clear hQ
  have hblt := lt_of_heap h.st
  have hob := h.touch qt (by simp) (by simp)
  have HTK : HidC _ _ _ _ _ := ⟨rtakes_kind hob.cells.1 5 (by omega)⟩
  have HFT : Hid (∀ W, HidC Tryd.prog 18 #[.agg #[.int .u8 5, .int .i64 u, .int .u64 V]] W fun e w' => e = .returned (.bool true) ∧ Touch W w' []) := fun W => ⟨rofits_val 5 u V (by omega) hV hR W⟩
  have HIN : Hid (∀ W, HidC Tryd.prog 4 #[.int .i64 g] W fun e w' => e = .returned (.tuple #[.int .u64 (numV g), .bool true]) ∧ W = w') := fun W => ⟨rint_ok g (by omega) (by omega) W⟩
  obtain ⟨x0, x1, x2⟩ := qb.cells
  have hu0 : decide (u < 0) = false := decide_eq_false (by omega)
  have hu5 : decide (4 ≤ u) = false := decide_eq_false (by omega)
  have HW : Hid (∀ w2, Touch Q w2 [] → ∀ W, W = (w2.alloc (.cells #[.int .u64 4607182418800017408, .bool false, .int .i64 0] 43)).alloc (.cells #[.int .u64 0, .bool true, .int .i64 0] 43) → Touch w W [] ∧ BoxC W w.heap.size 5 u V ∧ RObV W b 3 s o n g (.slice va _ vc) _ ∧ W.heap[w.heap.size + 1]? = some (.cells #[.int .u64 0, .bool false, .int .i64 0] 43 (0, 0)) ∧ W.heap[w2.heap.size]? = some (.cells #[.int .u64 4607182418800017408, .bool false, .int .i64 0] 43 (0, 0)) ∧ W.heap[w2.heap.size + 1]? = some (.cells #[.int .u64 0, .bool true, .int .i64 0] 43 (0, 0)) ∧ w.heap.size + 2 ≤ w2.heap.size) := fun w2 t W hW => by
    have tA : Touch Q W [] := by rw [hW]; exact (t.alloc _).alloc _
    have h1 := heap_alloc_new w2 (.cells #[.int .u64 4607182418800017408, .bool false, .int .i64 0] 43)
    have h2 := heap_alloc_new (w2.alloc (.cells #[.int .u64 4607182418800017408, .bool false, .int .i64 0] 43)) (.cells #[.int .u64 0, .bool true, .int .i64 0] 43)
    have s1 : (w2.alloc (.cells #[.int .u64 4607182418800017408, .bool false, .int .i64 0] 43)).heap.size = w2.heap.size + 1 := by simp
    have h3 : W.heap[w2.heap.size]? = some (.cells #[.int .u64 4607182418800017408, .bool false, .int .i64 0] 43 (0, 0)) := by rw [hW]; exact (((Touch.refl _ []).alloc _).block _ (lt_of_heap h1) (by simp)).trans h1
    rw [s1, ← hW] at h2
    have := t.size
    exact ⟨qt.trans tA (by simp), qb.touch tA (by simp), hob.touch tA (by simp) (by simp), (tA.block _ (lt_of_heap qa) (by simp)).trans qa, h3, h2, by omega⟩
  have HRW : Hid (VRow w _ _) := h.row
  have HBL : Hid (b < w.heap.size) := hblt
  clear qb qa qt qs hob h hV hR
  go_enter Tryd.func8, Tryd.ntmps8
  go_wp2_with fail
  rw [HQ.out]
  clear HQ
  go_wp2_with fail
  refine HTK.out.mono ?_
  rintro e _ ⟨rfl, rfl⟩
  clear HTK
  go_wp2_with fail
  refine (HFT.out _).out.mono ?_
  rintro e w2 ⟨rfl, t2⟩
  clear HFT x0 x1 x2
  obtain ⟨W, hW⟩ : ∃ W, W = (w2.alloc (.cells #[.int .u64 4607182418800017408, .bool false, .int .i64 0] 43)).alloc (.cells #[.int .u64 0, .bool true, .int .i64 0] 43) := ⟨_, rfl⟩
  obtain ⟨tW, bW, oW, aW, yW, zW, sW⟩ := HW.out w2 t2 W hW
  obtain ⟨x0, x1, x2⟩ := bW.cells
  obtain ⟨y0, y1, y2, y3, y4, y5⟩ := oW.cells
  have yf := oW.fr 3
  have yg := oW.fr 4
  have yh := oW.fr 5
  have q0 : W.cell? ⟨w.heap.size + 1, 0, none⟩ = some (.int .u64 0) := by unfold World.cell?; rw [aW]; rfl
  have q1 : W.cell? ⟨w.heap.size + 1, 1, none⟩ = some (.bool false) := by unfold World.cell?; rw [aW]; rfl
  have q2 : W.cell? ⟨w.heap.size + 1, 2, none⟩ = some (.int .i64 0) := by unfold World.cell?; rw [aW]; rfl
  have r0 : W.cell? ⟨w2.heap.size, 0, none⟩ = some (.int .u64 4607182418800017408) := by unfold World.cell?; rw [yW]; rfl
  have r1 : W.cell? ⟨w2.heap.size, 1, none⟩ = some (.bool false) := by unfold World.cell?; rw [yW]; rfl
  have r2 : W.cell? ⟨w2.heap.size, 2, none⟩ = some (.int .i64 0) := by unfold World.cell?; rw [yW]; rfl
  have u0 : W.cell? ⟨w2.heap.size + 1, 0, none⟩ = some (.int .u64 0) := by unfold World.cell?; rw [zW]; rfl
  have u1 : W.cell? ⟨w2.heap.size + 1, 1, none⟩ = some (.bool true) := by unfold World.cell?; rw [zW]; rfl
  have u2 : W.cell? ⟨w2.heap.size + 1, 2, none⟩ = some (.int .i64 0) := by unfold World.cell?; rw [zW]; rfl
  have qf0 : W.frozen? ⟨w.heap.size + 1, 0, none⟩ = false := by unfold World.frozen?; rw [aW]; simp
  have qf1 : W.frozen? ⟨w.heap.size + 1, 1, none⟩ = false := by unfold World.frozen?; rw [aW]; simp
  have qf2 : W.frozen? ⟨w.heap.size + 1, 2, none⟩ = false := by unfold World.frozen?; rw [aW]; simp
  have n1 : b ≠ w.heap.size + 1 := by omega
  have n2 : b ≠ w2.heap.size := by omega
  have n3 : b ≠ w2.heap.size + 1 := by omega
  have n4 : w.heap.size + 1 ≠ w2.heap.size := by omega
  have n5 : w.heap.size ≠ b := by omega
  have n6 : w2.heap.size + 1 ≠ b := by omega
  have n7 : w2.heap.size ≠ b := by omega
  have n8 : w.heap.size + 1 ≠ b := by omega
  have HOWR : Hid (∀ W1, Touch W W1 [] → VRow W1 (.slice va l.length vc) l) := fun W1 t => SRow.keep oW.row t (by simp)
  have HOW : Hid (∀ W1, Touch W W1 [] → (W1.cell? ⟨b, 5, none⟩ = some (.slice va l.length vc) ∧ W1.frozen? ⟨b, 5, none⟩ = false) ∧ W1.cell? ⟨w.heap.size, 2, none⟩ = some (.int .u64 V) ∧ (W1.cell? ⟨w2.heap.size, 0, none⟩ = some (.int .u64 4607182418800017408) ∧ W1.cell? ⟨w2.heap.size, 1, none⟩ = some (.bool false) ∧ W1.cell? ⟨w2.heap.size, 2, none⟩ = some (.int .i64 0)) ∧ (W1.cell? ⟨w.heap.size + 1, 0, none⟩ = some (.int .u64 0) ∧ W1.cell? ⟨w.heap.size + 1, 1, none⟩ = some (.bool false) ∧ W1.cell? ⟨w.heap.size + 1, 2, none⟩ = some (.int .i64 0)) ∧ (W1.frozen? ⟨w.heap.size + 1, 0, none⟩ = false ∧ W1.frozen? ⟨w.heap.size + 1, 1, none⟩ = false ∧ W1.frozen? ⟨w.heap.size + 1, 2, none⟩ = false)) := fun W1 t => by
    have k := oW.touch t (by simp) (by simp)
    have kb := bW.touch t (by simp)
    have ka := (t.block _ (lt_of_heap aW) (by simp)).trans aW
    have ky := (t.block _ (lt_of_heap yW) (by simp)).trans yW
    exact ⟨⟨k.cells.2.2.2.2.2, k.fr 5⟩, kb.cells.2.2, ans_cells ky, ans_cells ka, ⟨by unfold World.frozen?; rw [ka]; simp, by unfold World.frozen?; rw [ka]; simp, by unfold World.frozen?; rw [ka]; simp⟩⟩
  have HSW : Hid (w.heap.size + 2 ≤ W.heap.size) := by show _ ≤ _; have := lt_of_heap yW; omega
  have HFIN : Hid (∀ (W0 : World) (ev : Value), Touch W W0 [] → VRow W0 ev (l ++ [V]) → (l ++ [V] ≠ [] → ∀ x, ev.ownBlock = some x → x ≠ b) → (∀ a m c, ev = .slice a m c → m ≤ c) → (∀ x, ev.ownBlock = some x → W.heap.size ≤ x) → ∀ x y z, (∃ v', RObV ((((W0.setCell ⟨b, 5, none⟩ ev).setCell ⟨w.heap.size + 1, 0, none⟩ x).setCell ⟨w.heap.size + 1, 1, none⟩ y).setCell ⟨w.heap.size + 1, 2, none⟩ z) b 3 s o n g v' (l ++ [V]) ∧ ∀ y, v'.ownBlock = some y → w.heap.size ≤ y ∨ (Value.slice va l.length vc).ownBlock = some y) ∧ Touch w ((((W0.setCell ⟨b, 5, none⟩ ev).setCell ⟨w.heap.size + 1, 0, none⟩ x).setCell ⟨w.heap.size + 1, 1, none⟩ y).setCell ⟨w.heap.size + 1, 2, none⟩ z) [b] ∧ ((((W0.setCell ⟨b, 5, none⟩ ev).setCell ⟨w.heap.size + 1, 0, none⟩ x).setCell ⟨w.heap.size + 1, 1, none⟩ y).setCell ⟨w.heap.size + 1, 2, none⟩ z).heap[w.heap.size + 1]? = some (.cells #[x, y, z] 43 (0, 0))) := fun W0 ev t0 hev hnv hlv hbv x y z => by
    have r := (oW.touch t0 (by simp) (by simp)).setv hev hnv hlv
    have t : Touch W (W0.setCell ⟨b, 5, none⟩ ev) [b] := (t0.mono (by simp)).setCell (.inl (by simp)) _
    have hA := (t.block _ (lt_of_heap aW) (by simp; omega)).trans aW
    have tS : Touch (W0.setCell ⟨b, 5, none⟩ ev) ((((W0.setCell ⟨b, 5, none⟩ ev).setCell ⟨w.heap.size + 1, 0, none⟩ x).setCell ⟨w.heap.size + 1, 1, none⟩ y).setCell ⟨w.heap.size + 1, 2, none⟩ z) [w.heap.size + 1] := (((Touch.refl _ _).setCell (.inl (by simp)) _).setCell (.inl (by simp)) _).setCell (.inl (by simp)) _
    refine ⟨⟨_, r.touch tS (by simp; omega) (fun hne x hx hs => by have := hbv x hx; have := HSW.out; simp at hs; omega), fun q hq => .inl (by have := hbv q hq; have := HSW.out; omega)⟩, ((tW.mono (by simp)).trans t (fun x hx => .inl hx)).trans tS (fun x hx => .inr (by simp at hx; omega)), ?_⟩
    rw [heap_setCell_same _ _ _ _ _ _ (heap_setCell_same _ _ _ _ _ _ (heap_setCell_same _ _ _ _ _ _ hA))]
    rfl
  clear tW bW oW aW yW zW sW HW t2
  subst hW
  go_wp2_with fail
  refine (HIN.out _).out.mono ?_
  rintro e _ ⟨rfl, rfl⟩
  clear HIN
  generalize hX : (w2.alloc (.cells #[.int .u64 4607182418800017408, .bool false, .int .i64 0] 43)).alloc (.cells #[.int .u64 0, .bool true, .int .i64 0] 43) = W at *
  have hX' := hX
  clear hX hX'
  go_wp2_with fail
  go_quiet (fail)
  go_wp2_with fail
  generalize hq : W.drewN _ = W0 at *
  have tq : Touch W W0 [] := by rw [← hq]; exact (Touch.refl W []).drewN _
  clear hq q0 q1 q2 r0 r1 r2 u0 u1 u2 qf0 qf1 qf2 yf yg yh x0 x1 x2 y0 y1 y2 y3 y4 y5
  have hlq : l.length = l.length := rfl
  have hb1000 : l.length ≤ 1000 := by omega
  have hl1000 : l.length ≤ 1000 := by omega
  have hr5 : ∀ V1, Touch W0 V1 [] → VRow V1 (.slice va l.length vc) l := fun V1 t => HOWR.out V1 (tq.trans t (by simp))
  have pb : ∀ V1, Touch W0 V1 [] → V1.cell? ⟨b, 5, none⟩ = some (.slice va l.length vc) ∧ V1.frozen? ⟨b, 5, none⟩ = false := fun V1 t => (HOW.out V1 (tq.trans t (by simp))).1
  have px : ∀ V1, Touch W0 V1 [] → V1.cell? ⟨w.heap.size, 2, none⟩ = some (.int .u64 V) := fun V1 t => (HOW.out V1 (tq.trans t (by simp))).2.1
  have tA : Touch W0 (W0.alloc (.cells #[] 24)).drew [] := ((Touch.refl _ []).alloc _).drew
  obtain ⟨aA, cA, vA, rA, oA, uA⟩ := app_two (V := (W0.alloc (.cells #[] 24)).drew) tA (e := W0.heap.size) (Nat.le_refl _) (ownsRow_touch (empty_row W0 24 1) ((Touch.refl _ []).drew) (by simp)) (hr5 _ tA) hlq hb1000
  obtain ⟨bA, dA, xA, sA, pA, qA⟩ := app_more (uA.alloc (.cells #[.int .u64 V] 24)) (ownsRow_touch oA ((Touch.refl vA []).alloc _) (by simp)) hl1000 (vrow_of (own_one vA 0 (Nat.zero_le _) V)) rfl (by decide)
  have hsB : (W0.alloc (.cells #[] 24)).heap.size = W0.heap.size + 1 := by simp
  have tB : Touch W0 ((W0.alloc (.cells #[] 24)).alloc (.cells #[.int .u64 V] 24)).drew [] := (((Touch.refl _ []).alloc _).alloc _).drew
  have hEB : valOwn ((W0.alloc (.cells #[] 24)).alloc (.cells #[.int .u64 V] 24)).drew W0.heap.size (.slice (some ⟨W0.heap.size, 0, none⟩) 0 0) [] := ownsRow_touch (empty_row W0 24 1) (((Touch.refl _ []).alloc _).drew) (by simp)
  obtain ⟨aB, cB, vB, rB, oB, uB⟩ := app_two (V := ((W0.alloc (.cells #[] 24)).alloc (.cells #[.int .u64 V] 24)).drew) tB (e := W0.heap.size) (Nat.le_refl _) hEB (hr5 _ tB) hlq hb1000
  have hpB : valOwn ((W0.alloc (.cells #[] 24)).alloc (.cells #[.int .u64 V] 24)) 0 (.slice (some ⟨W0.heap.size + 1, 0, none⟩) 1 1) [V] := by have := own_one (W0.alloc (.cells #[] 24)) 0 (Nat.zero_le _) V; rw [hsB] at this; exact this
  have tBv : Touch ((W0.alloc (.cells #[] 24)).alloc (.cells #[.int .u64 V] 24)) vB [W0.heap.size] := by
    obtain ⟨a', c', V', e1, _, e3, _⟩ := val_app hEB (by simp) tB.size (hr5 _ tB) hlq hb1000 35
    simp only [List.length_nil, Nat.zero_add] at e1
    rw [rB] at e1
    simp only [Result.ok.injEq] at e1
    rw [e1.2]
    exact ((Touch.refl _ _).drew).trans e3 (fun x hx => .inl hx)
  obtain ⟨bB, dB, xB, sB, pB, qB⟩ := app_more uB oB hl1000 (vrow_of (ownsRow_touch hpB tBv (fun g hg hs => by simp [Value.ownBlock] at hg; simp at hs; omega))) rfl (by decide)
  have hsC : (W0.alloc (.cells #[.int .u64 V] 24)).heap.size = W0.heap.size + 1 := by simp
  have tC : Touch W0 ((W0.alloc (.cells #[.int .u64 V] 24)).alloc (.cells #[] 24)).drew [] := (((Touch.refl _ []).alloc _).alloc _).drew
  have hEC : valOwn ((W0.alloc (.cells #[.int .u64 V] 24)).alloc (.cells #[] 24)).drew (W0.heap.size + 1) (.slice (some ⟨W0.heap.size + 1, 0, none⟩) 0 0) [] := by have := empty_row (W0.alloc (.cells #[.int .u64 V] 24)) 24 1; rw [hsC] at this; exact ownsRow_touch this ((Touch.refl _ []).drew) (by simp)
  obtain ⟨aC, cC, vC, rC, oC, uC⟩ := app_two (V := ((W0.alloc (.cells #[.int .u64 V] 24)).alloc (.cells #[] 24)).drew) tC (e := W0.heap.size + 1) (by omega) (own_base hEC (by omega)) (hr5 _ tC) hlq hb1000
  have tCv : Touch (W0.alloc (.cells #[.int .u64 V] 24)) vC [] := by
    obtain ⟨a', c', V', e1, _, e3, _⟩ := val_app hEC (by simp) (by simp) (hr5 _ tC) hlq hb1000 35
    simp only [List.length_nil, Nat.zero_add] at e1
    rw [rC] at e1
    simp only [Result.ok.injEq] at e1
    rw [e1.2]
    exact (((Touch.refl _ []).alloc _).drew).trans e3 (fun x hx => .inr (by simp [Value.ownBlock] at hx; omega))
  obtain ⟨bC, dC, xC, sC, pC, qC⟩ := app_more uC oC hl1000 (vrow_of (ownsRow_touch (own_one W0 0 (Nat.zero_le _) V) tCv (by simp))) rfl (by decide)
  have tY : Touch W0 (W0.alloc (.cells #[.int .u64 V] 24)).drew [] := ((Touch.refl _ []).alloc _).drew
  have kl1 := (pb _ ((Touch.refl W0 []).drew)).1
  have kl2 := (pb _ tA).1
  have kl3 := (pb _ tY).1
  have kl4 := (pb _ tB).1
  have kl5 := (pb _ tC).1
  have e1 := px _ ((Touch.refl W0 []).drew)
  have e2 := px _ tA
  have e3 := px _ uA
  have e4 := px _ tY
  have e5 := px _ tB
  have e6 := px _ tC
  obtain ⟨jA, iA⟩ := pb _ qA
  obtain ⟨jB, iB⟩ := pb _ qB
  obtain ⟨jC, iC⟩ := pb _ qC
  have HKA : Hid _ := (HOW.out _ (tq.trans qA (by simp))).2.2
  have HKB : Hid _ := (HOW.out _ (tq.trans qB (by simp))).2.2
  have HKC : Hid _ := (HOW.out _ (tq.trans qC (by simp))).2.2
  have hsz := tq.size
  have hend : ∀ (xV : World) (bV : Option Addr) (dV : Nat), Touch W0 xV [] → valOwn xV W0.heap.size (.slice bV (l.length + 1) dV) (l ++ [V]) → ∀ x y z, _ := fun xV bV dV t p x y z => HFIN.out xV (.slice bV (l.length + 1) dV) (tq.trans t (by simp)) (by have := vrow_of p; exact this) (fun _ x hx => by have := own_ge p x hx; have := HSW.out; have := HBL.out; omega) (fun a m c e => by obtain ⟨_, q⟩ := own_form p; simp only [Value.slice.injEq] at e; rcases q with ⟨_, q, _⟩ | ⟨_, _, q, _⟩ <;> omega) (fun x hx => by have := own_ge p x hx; omega) x y z
  have HEA : Hid _ := hend xA bA dA qA pA
  have HEB : Hid _ := hend xB bB dB qB pB
  have HEC : Hid _ := hend xC bC dC qC pC
  clear hend hsz hr5 pb px tA oA uA pA qA hsB tB hEB oB uB hpB tBv pB qB hsC tC hEC oC uC tCv pC qC tY hlq hl1000 hb1000 tq HFIN HOW HOWR
  go_region_law (first | (refine step_append_run (by rfl) (.tmp 122) (.tmp 126) 35 35 (by rfl) (by rfl) (.slice (some ⟨W0.heap.size, 0, none⟩) 0 0) (.slice va l.length vc) (.slice aA l.length cA) vA (by rfl) (by rfl) rA ?_) | (refine step_append_run (by rfl) (.tmp 122) (.tmp 126) 35 35 (by rfl) (by rfl) (.slice (some ⟨W0.heap.size, 0, none⟩) 0 0) (.slice va l.length vc) (.slice aB l.length cB) vB (by rfl) (by rfl) rB ?_) | (refine step_append_run (by rfl) (.tmp 122) (.tmp 126) 35 35 (by rfl) (by rfl) (.slice (some ⟨W0.heap.size + 1, 0, none⟩) 0 0) (.slice va l.length vc) (.slice aC l.length cC) vC (by rfl) (by rfl) rC ?_) | (refine step_append_run (by rfl) (.tmp 127) (.tmp 130) 35 35 (by rfl) (by rfl) (.slice aA l.length cA) (.slice (some ⟨vA.heap.size, 0, none⟩) 1 1) (.slice bA (l.length + 1) dA) xA (by rfl) (by rfl) sA ?_) | (refine step_append_run (by rfl) (.tmp 127) (.tmp 130) 35 35 (by rfl) (by rfl) (.slice aB l.length cB) (.slice (some ⟨W0.heap.size + 1, 0, none⟩) 1 1) (.slice bB (l.length + 1) dB) xB (by rfl) (by rfl) sB ?_) | (refine step_append_run (by rfl) (.tmp 127) (.tmp 130) 35 35 (by rfl) (by rfl) (.slice aC l.length cC) (.slice (some ⟨W0.heap.size, 0, none⟩) 1 1) (.slice bC (l.length + 1) dC) xC (by rfl) (by rfl) sC ?_))
  all_goals first
    |
      (obtain ⟨⟨r0, r1, r2⟩, ⟨q0, q1, q2⟩, ⟨qf0, qf1, qf2⟩⟩ := HKA.out
       go_wp2_with fail
       obtain ⟨⟨v', h8⟩, h9, h10⟩ := HEA.out (.int .u64 4607182418800017408) (.bool false) (.int .i64 0)
       refine bodyPost_ret (v := .agg #[.int .u64 4607182418800017408, .bool false, .int .i64 0]) ?_ rfl ⟨rfl, ⟨v', h8⟩, h9⟩
       rw [res_cellC rfl]
       obtain ⟨z0, z1, z2⟩ := ans_cells h10
       simp [go_sem, z0, z1, z2])
    |
      (obtain ⟨⟨r0, r1, r2⟩, ⟨q0, q1, q2⟩, ⟨qf0, qf1, qf2⟩⟩ := HKB.out
       go_wp2_with fail
       obtain ⟨⟨v', h8⟩, h9, h10⟩ := HEB.out (.int .u64 4607182418800017408) (.bool false) (.int .i64 0)
       refine bodyPost_ret (v := .agg #[.int .u64 4607182418800017408, .bool false, .int .i64 0]) ?_ rfl ⟨rfl, ⟨v', h8⟩, h9⟩
       rw [res_cellC rfl]
       obtain ⟨z0, z1, z2⟩ := ans_cells h10
       simp [go_sem, z0, z1, z2])
    |
      (obtain ⟨⟨r0, r1, r2⟩, ⟨q0, q1, q2⟩, ⟨qf0, qf1, qf2⟩⟩ := HKC.out
       go_wp2_with fail
       obtain ⟨⟨v', h8⟩, h9, h10⟩ := HEC.out (.int .u64 4607182418800017408) (.bool false) (.int .i64 0)
       refine bodyPost_ret (v := .agg #[.int .u64 4607182418800017408, .bool false, .int .i64 0]) ?_ rfl ⟨rfl, ⟨v', h8⟩, h9⟩
       rw [res_cellC rfl]
       obtain ⟨z0, z1, z2⟩ := ans_cells h10
       simp [go_sem, z0, z1, z2])

end Go.Proofs.YtkpgfchglaemgaaDoor
