/-
  package spec, the document's: Step BY ITS CONTRACT, what can't be done.
-/
import Derived.Test.YtkpgfchglaemgaaDoorSsR0
namespace Go.Proofs.YtkpgfchglaemgaaDoor
set_option linter.unusedVariables false
set_option linter.unusedSimpArgs false
open Go.RowKit
attribute [local go_sem] Oper.semAt_some

set_option maxRecDepth 100000 in
set_option maxHeartbeats 4000000 in
theorem rs_low {w : World} {sa oa ap : Option Addr} {sc oc cp : Nat} {l : List InsD} {D : WD} (h : StIn w sa oa ap sc oc cp l D) (hb : D.pc < 0) :
    Calls Tryd.prog 25 #[.slice ap l.length cp, stV D (.slice sa D.st.length sc) (.slice oa D.out.length oc)] w (StpP w (3, D)) := by
  obtain ⟨pc, S, l0, l1, l2, l3, O, fu⟩ := D
  obtain ⟨hs, ho, hl, hll, hsl, hol, hwf, hsw⟩ := h
  simp only at *
  have hQb : StB ((w.alloc (.cells #[.int .i64 pc, .slice sa S.length sc, .int .u64 l0, .int .u64 l1, .int .u64 l2, .int .u64 l3, .slice oa O.length oc] 38)).alloc (.cells #[.int .i64 0, .slice none 0 0, .int .u64 0, .int .u64 0, .int .u64 0, .int .u64 0, .slice none 0 0] 38)) w.heap.size ⟨pc, S, l0, l1, l2, l3, O, fu⟩ (.slice sa S.length sc) (.slice oa O.length oc) := StB.touch (⟨heap_alloc_new w _⟩ : StB (w.alloc (.cells #[.int .i64 pc, .slice sa S.length sc, .int .u64 l0, .int .u64 l1, .int .u64 l2, .int .u64 l3, .slice oa O.length oc] 38)) w.heap.size ⟨pc, S, l0, l1, l2, l3, O, fu⟩ (.slice sa S.length sc) (.slice oa O.length oc)) ((Touch.refl _ []).alloc _) (by simp)
  have hQr : StB ((w.alloc (.cells #[.int .i64 pc, .slice sa S.length sc, .int .u64 l0, .int .u64 l1, .int .u64 l2, .int .u64 l3, .slice oa O.length oc] 38)).alloc (.cells #[.int .i64 0, .slice none 0 0, .int .u64 0, .int .u64 0, .int .u64 0, .int .u64 0, .slice none 0 0] 38)) (w.heap.size + 1) zWD (.slice none 0 0) (.slice none 0 0) := ⟨by
    have := heap_alloc_new (w.alloc (.cells #[.int .i64 pc, .slice sa S.length sc, .int .u64 l0, .int .u64 l1, .int .u64 l2, .int .u64 l3, .slice oa O.length oc] 38)) (.cells #[.int .i64 0, .slice none 0 0, .int .u64 0, .int .u64 0, .int .u64 0, .int .u64 0, .slice none 0 0] 38)
    simpa using this⟩
  have tQ : Touch w ((w.alloc (.cells #[.int .i64 pc, .slice sa S.length sc, .int .u64 l0, .int .u64 l1, .int .u64 l2, .int .u64 l3, .slice oa O.length oc] 38)).alloc (.cells #[.int .i64 0, .slice none 0 0, .int .u64 0, .int .u64 0, .int .u64 0, .int .u64 0, .slice none 0 0] 38)) [] := ((Touch.refl w []).alloc _).alloc _
  have hQs : ((w.alloc (.cells #[.int .i64 pc, .slice sa S.length sc, .int .u64 l0, .int .u64 l1, .int .u64 l2, .int .u64 l3, .slice oa O.length oc] 38)).alloc (.cells #[.int .i64 0, .slice none 0 0, .int .u64 0, .int .u64 0, .int .u64 0, .int .u64 0, .slice none 0 0] 38)).heap.size = w.heap.size + 2 := by simp
  obtain ⟨x0, x1, x2, x3, x4, x5, x6⟩ := hQb.cells
  simp only at x0 x1 x2 x3 x4 x5 x6
  have HQB : Hid _ := hQb
  have HQR : Hid _ := hQr
  have HTQ : Hid _ := tQ
  have HQS : Hid _ := hQs
  clear hQb hQr tQ hQs
  have HTH : Hid _ := st_there HQR.out
  have HP : Hid _ := bad_fin HQR.out HTQ.out (Nat.le_succ _) 3 (by decide) ⟨pc, S, l0, l1, l2, l3, O, fu⟩
  go_enter Tryd.func25, Tryd.ntmps25
  go_wp2_with (refine wpList_store_mid rfl 38 _ _ rfl (w.heap.size + 1) 0 (stA zWD (.slice none 0 0) (.slice none 0 0)) ?_ ?_ ?_ ?_ ?_ ?_; rfl; rfl; exact HTH.out; exact Tryd.size_state; exact st_one _ _ _ _ _ _ _; refine wpList_nameR fun W8 hW8 => ?_; have H8 : Hid _ := HP.out W8 hW8; clear hW8 HTH HP)
  obtain ⟨b8, r8⟩ := H8.out
  refine bodyPost_ret (v := .tuple #[stV zWD (.slice none 0 0) (.slice none 0 0), .int .i64 3]) (res_cell_slot (v := stV zWD (.slice none 0 0) (.slice none 0 0)) (a := ⟨w.heap.size + 1, 0, none⟩) Tryd.results25 _ _ _ rfl ?_) rfl r8
  obtain ⟨z0', z1', z2', z3', z4', z5', z6'⟩ := b8.cells
  simp [go_sem, z0', z1', z2', z3', z4', z5', z6']

set_option maxRecDepth 100000 in
set_option maxHeartbeats 4000000 in
theorem rs_high {w : World} {sa oa ap : Option Addr} {sc oc cp : Nat} {l : List InsD} {D : WD} (h : StIn w sa oa ap sc oc cp l D) (hb : 0 ≤ D.pc) (hb2 : (l.length : Int) ≤ D.pc) :
    Calls Tryd.prog 25 #[.slice ap l.length cp, stV D (.slice sa D.st.length sc) (.slice oa D.out.length oc)] w (StpP w (3, D)) := by
  obtain ⟨pc, S, l0, l1, l2, l3, O, fu⟩ := D
  obtain ⟨hs, ho, hl, hll, hsl, hol, hwf, hsw⟩ := h
  simp only at *
  have hQb : StB ((w.alloc (.cells #[.int .i64 pc, .slice sa S.length sc, .int .u64 l0, .int .u64 l1, .int .u64 l2, .int .u64 l3, .slice oa O.length oc] 38)).alloc (.cells #[.int .i64 0, .slice none 0 0, .int .u64 0, .int .u64 0, .int .u64 0, .int .u64 0, .slice none 0 0] 38)) w.heap.size ⟨pc, S, l0, l1, l2, l3, O, fu⟩ (.slice sa S.length sc) (.slice oa O.length oc) := StB.touch (⟨heap_alloc_new w _⟩ : StB (w.alloc (.cells #[.int .i64 pc, .slice sa S.length sc, .int .u64 l0, .int .u64 l1, .int .u64 l2, .int .u64 l3, .slice oa O.length oc] 38)) w.heap.size ⟨pc, S, l0, l1, l2, l3, O, fu⟩ (.slice sa S.length sc) (.slice oa O.length oc)) ((Touch.refl _ []).alloc _) (by simp)
  have hQr : StB ((w.alloc (.cells #[.int .i64 pc, .slice sa S.length sc, .int .u64 l0, .int .u64 l1, .int .u64 l2, .int .u64 l3, .slice oa O.length oc] 38)).alloc (.cells #[.int .i64 0, .slice none 0 0, .int .u64 0, .int .u64 0, .int .u64 0, .int .u64 0, .slice none 0 0] 38)) (w.heap.size + 1) zWD (.slice none 0 0) (.slice none 0 0) := ⟨by
    have := heap_alloc_new (w.alloc (.cells #[.int .i64 pc, .slice sa S.length sc, .int .u64 l0, .int .u64 l1, .int .u64 l2, .int .u64 l3, .slice oa O.length oc] 38)) (.cells #[.int .i64 0, .slice none 0 0, .int .u64 0, .int .u64 0, .int .u64 0, .int .u64 0, .slice none 0 0] 38)
    simpa using this⟩
  have tQ : Touch w ((w.alloc (.cells #[.int .i64 pc, .slice sa S.length sc, .int .u64 l0, .int .u64 l1, .int .u64 l2, .int .u64 l3, .slice oa O.length oc] 38)).alloc (.cells #[.int .i64 0, .slice none 0 0, .int .u64 0, .int .u64 0, .int .u64 0, .int .u64 0, .slice none 0 0] 38)) [] := ((Touch.refl w []).alloc _).alloc _
  have hQs : ((w.alloc (.cells #[.int .i64 pc, .slice sa S.length sc, .int .u64 l0, .int .u64 l1, .int .u64 l2, .int .u64 l3, .slice oa O.length oc] 38)).alloc (.cells #[.int .i64 0, .slice none 0 0, .int .u64 0, .int .u64 0, .int .u64 0, .int .u64 0, .slice none 0 0] 38)).heap.size = w.heap.size + 2 := by simp
  obtain ⟨x0, x1, x2, x3, x4, x5, x6⟩ := hQb.cells
  simp only at x0 x1 x2 x3 x4 x5 x6
  have HQB : Hid _ := hQb
  have HQR : Hid _ := hQr
  have HTQ : Hid _ := tQ
  have HQS : Hid _ := hQs
  clear hQb hQr tQ hQs
  have HTH : Hid _ := st_there HQR.out
  have HP : Hid _ := bad_fin HQR.out HTQ.out (Nat.le_succ _) 3 (by decide) ⟨pc, S, l0, l1, l2, l3, O, fu⟩
  go_enter Tryd.func25, Tryd.ntmps25
  go_wp2_with (refine wpList_store_mid rfl 38 _ _ rfl (w.heap.size + 1) 0 (stA zWD (.slice none 0 0) (.slice none 0 0)) ?_ ?_ ?_ ?_ ?_ ?_; rfl; rfl; exact HTH.out; exact Tryd.size_state; exact st_one _ _ _ _ _ _ _; refine wpList_nameR fun W8 hW8 => ?_; have H8 : Hid _ := HP.out W8 hW8; clear hW8 HTH HP)
  obtain ⟨b8, r8⟩ := H8.out
  refine bodyPost_ret (v := .tuple #[stV zWD (.slice none 0 0) (.slice none 0 0), .int .i64 3]) (res_cell_slot (v := stV zWD (.slice none 0 0) (.slice none 0 0)) (a := ⟨w.heap.size + 1, 0, none⟩) Tryd.results25 _ _ _ rfl ?_) rfl r8
  obtain ⟨z0', z1', z2', z3', z4', z5', z6'⟩ := b8.cells
  simp [go_sem, z0', z1', z2', z3', z4', z5', z6']

set_option maxRecDepth 100000 in
set_option maxHeartbeats 4000000 in
theorem rs_wrong {w : World} {sa oa ap : Option Addr} {sc oc cp : Nat} {l : List InsD} {D : WD} (h : StIn w sa oa ap sc oc cp l D) (hk : ∃ k : Nat, D.pc = k) (hk1 : D.pc < l.length) (hri : rightI (l.getD D.pc.toNat ⟨0, 0, 0⟩) = false) :
    Calls Tryd.prog 25 #[.slice ap l.length cp, stV D (.slice sa D.st.length sc) (.slice oa D.out.length oc)] w (StpP w (3, D)) := by
  obtain ⟨pc, S, l0, l1, l2, l3, O, fu⟩ := D
  obtain ⟨hs, ho, hl, hll, hsl, hol, hwf, hsw⟩ := h
  simp only at *
  have hQb : StB ((w.alloc (.cells #[.int .i64 pc, .slice sa S.length sc, .int .u64 l0, .int .u64 l1, .int .u64 l2, .int .u64 l3, .slice oa O.length oc] 38)).alloc (.cells #[.int .i64 0, .slice none 0 0, .int .u64 0, .int .u64 0, .int .u64 0, .int .u64 0, .slice none 0 0] 38)) w.heap.size ⟨pc, S, l0, l1, l2, l3, O, fu⟩ (.slice sa S.length sc) (.slice oa O.length oc) := StB.touch (⟨heap_alloc_new w _⟩ : StB (w.alloc (.cells #[.int .i64 pc, .slice sa S.length sc, .int .u64 l0, .int .u64 l1, .int .u64 l2, .int .u64 l3, .slice oa O.length oc] 38)) w.heap.size ⟨pc, S, l0, l1, l2, l3, O, fu⟩ (.slice sa S.length sc) (.slice oa O.length oc)) ((Touch.refl _ []).alloc _) (by simp)
  have hQr : StB ((w.alloc (.cells #[.int .i64 pc, .slice sa S.length sc, .int .u64 l0, .int .u64 l1, .int .u64 l2, .int .u64 l3, .slice oa O.length oc] 38)).alloc (.cells #[.int .i64 0, .slice none 0 0, .int .u64 0, .int .u64 0, .int .u64 0, .int .u64 0, .slice none 0 0] 38)) (w.heap.size + 1) zWD (.slice none 0 0) (.slice none 0 0) := ⟨by
    have := heap_alloc_new (w.alloc (.cells #[.int .i64 pc, .slice sa S.length sc, .int .u64 l0, .int .u64 l1, .int .u64 l2, .int .u64 l3, .slice oa O.length oc] 38)) (.cells #[.int .i64 0, .slice none 0 0, .int .u64 0, .int .u64 0, .int .u64 0, .int .u64 0, .slice none 0 0] 38)
    simpa using this⟩
  have tQ : Touch w ((w.alloc (.cells #[.int .i64 pc, .slice sa S.length sc, .int .u64 l0, .int .u64 l1, .int .u64 l2, .int .u64 l3, .slice oa O.length oc] 38)).alloc (.cells #[.int .i64 0, .slice none 0 0, .int .u64 0, .int .u64 0, .int .u64 0, .int .u64 0, .slice none 0 0] 38)) [] := ((Touch.refl w []).alloc _).alloc _
  have hQs : ((w.alloc (.cells #[.int .i64 pc, .slice sa S.length sc, .int .u64 l0, .int .u64 l1, .int .u64 l2, .int .u64 l3, .slice oa O.length oc] 38)).alloc (.cells #[.int .i64 0, .slice none 0 0, .int .u64 0, .int .u64 0, .int .u64 0, .int .u64 0, .slice none 0 0] 38)).heap.size = w.heap.size + 2 := by simp
  obtain ⟨x0, x1, x2, x3, x4, x5, x6⟩ := hQb.cells
  simp only at x0 x1 x2 x3 x4 x5 x6
  have HQB : Hid _ := hQb
  have HQR : Hid _ := hQr
  have HTQ : Hid _ := tQ
  have HQS : Hid _ := hQs
  obtain ⟨k, rfl⟩ := hk
  have hk2 : k < l.length := by omega
  obtain ⟨g, off, rfl, hg, c0, c1, c2⟩ := ins_cells hl k hk2
  have hiw : InsD.Wf l[k] := hwf _ (List.getElem_mem hk2)
  have hi : l[k] = l.getD k ⟨0, 0, 0⟩ := by simp [List.getD_eq_getElem?_getD, List.getElem?_eq_getElem hk2]
  simp only [Int.toNat_natCast] at hri
  rw [hi] at c0 c1 c2 hiw
  generalize l.getD k ⟨0, 0, 0⟩ = i at *
  obtain ⟨o, a, v⟩ := i
  simp only at c0 c1 c2 hri
  have HI : Hid (∀ W, Touch w W [] → W.cell? ⟨g, off + k * 3, none⟩ = some (.int .u8 o) ∧ W.cell? ⟨g, off + k * 3 + 1, none⟩ = some (.int .i64 a) ∧ W.cell? ⟨g, off + k * 3 + 2, none⟩ = some (.int .u64 v)) := fun W t => ⟨(t.cell (p := ⟨g, _, none⟩) hg (by simp)).trans c0, (t.cell (p := ⟨g, _, none⟩) hg (by simp)).trans c1, (t.cell (p := ⟨g, _, none⟩) hg (by simp)).trans c2⟩
  have hk0 : (0 : Int) ≤ k := by omega
  have hk1 : (k : Int) < l.length := by omega
  obtain ⟨d0, d1, d2⟩ := HI.out _ HTQ.out
  have HRT : Hid (∀ W, HidC Tryd.prog 21 #[.agg #[.int .u8 o, .int .i64 a, .int .u64 v]] W fun e w' => e = .returned (.bool false) ∧ Touch W w' []) := fun W => ⟨by have := rrightI_any _ hiw W; rw [hri] at this; exact this⟩
  clear hiw c0 c1 c2 hg hi hwf hsw
  clear hQb hQr tQ hQs
  go_enter Tryd.func25, Tryd.ntmps25
  go_wp2_with fail
  generalize ((w.alloc (.cells #[.int .i64 k, .slice sa S.length sc, .int .u64 l0, .int .u64 l1, .int .u64 l2, .int .u64 l3, .slice oa O.length oc] 38)).alloc (.cells #[.int .i64 0, .slice none 0 0, .int .u64 0, .int .u64 0, .int .u64 0, .int .u64 0, .slice none 0 0] 38)) = Q at *
  refine (HRT.out _).out.mono ?_
  rintro e w1 ⟨rfl, t1⟩
  have T1 : Hid (Touch w w1 []) := HTQ.out.trans t1 (by simp)
  have R1 : Hid _ := HQR.out.touch t1 (by simp)
  have hb1 := HQB.out.touch t1 (by simp)
  have B1 : Hid _ := hb1
  have hsz1 : w.heap.size + 2 ≤ w1.heap.size := by have := t1.size; have := HQS.out; omega
  obtain ⟨z0, z1, z2, z3, z4, z5, z6⟩ := hb1.cells
  obtain ⟨e0, e1, e2⟩ := HI.out _ T1.out
  simp only at z0 z1 z2 z3 z4 z5 z6
  clear x0 x1 x2 x3 x4 x5 x6 d0 d1 d2 t1 hb1 HRT HTQ HQR HQB
  have HTH : Hid _ := st_there R1.out
  have HP : Hid _ := bad_fin R1.out T1.out (Nat.le_succ _) 3 (by decide) ⟨k, S, l0, l1, l2, l3, O, fu⟩
  go_wp2_with (refine wpList_store_mid rfl 38 _ _ rfl (w.heap.size + 1) 0 (stA zWD (.slice none 0 0) (.slice none 0 0)) ?_ ?_ ?_ ?_ ?_ ?_; rfl; rfl; exact HTH.out; exact Tryd.size_state; exact st_one _ _ _ _ _ _ _; refine wpList_nameR fun W8 hW8 => ?_; have H8 : Hid _ := HP.out W8 hW8; clear hW8 HTH HP)
  obtain ⟨b8, r8⟩ := H8.out
  refine bodyPost_ret (v := .tuple #[stV zWD (.slice none 0 0) (.slice none 0 0), .int .i64 3]) (res_cell_slot (v := stV zWD (.slice none 0 0) (.slice none 0 0)) (a := ⟨w.heap.size + 1, 0, none⟩) Tryd.results25 _ _ _ rfl ?_) rfl r8
  obtain ⟨z0', z1', z2', z3', z4', z5', z6'⟩ := b8.cells
  simp [go_sem, z0', z1', z2', z3', z4', z5', z6']

set_option maxRecDepth 100000 in
set_option maxHeartbeats 4000000 in
theorem rs_notplain {w : World} {sa oa ap : Option Addr} {sc oc cp : Nat} {l : List InsD} {D : WD} (h : StIn w sa oa ap sc oc cp l D) (hk : ∃ k : Nat, D.pc = k) (hk1 : D.pc < l.length) (hri : rightI (l.getD D.pc.toNat ⟨0, 0, 0⟩) = true) (hpl : plainO (l.getD D.pc.toNat ⟨0, 0, 0⟩).op = false) :
    Calls Tryd.prog 25 #[.slice ap l.length cp, stV D (.slice sa D.st.length sc) (.slice oa D.out.length oc)] w (StpP w (3, D)) := by
  obtain ⟨pc, S, l0, l1, l2, l3, O, fu⟩ := D
  obtain ⟨hs, ho, hl, hll, hsl, hol, hwf, hsw⟩ := h
  simp only at *
  have hQb : StB ((w.alloc (.cells #[.int .i64 pc, .slice sa S.length sc, .int .u64 l0, .int .u64 l1, .int .u64 l2, .int .u64 l3, .slice oa O.length oc] 38)).alloc (.cells #[.int .i64 0, .slice none 0 0, .int .u64 0, .int .u64 0, .int .u64 0, .int .u64 0, .slice none 0 0] 38)) w.heap.size ⟨pc, S, l0, l1, l2, l3, O, fu⟩ (.slice sa S.length sc) (.slice oa O.length oc) := StB.touch (⟨heap_alloc_new w _⟩ : StB (w.alloc (.cells #[.int .i64 pc, .slice sa S.length sc, .int .u64 l0, .int .u64 l1, .int .u64 l2, .int .u64 l3, .slice oa O.length oc] 38)) w.heap.size ⟨pc, S, l0, l1, l2, l3, O, fu⟩ (.slice sa S.length sc) (.slice oa O.length oc)) ((Touch.refl _ []).alloc _) (by simp)
  have hQr : StB ((w.alloc (.cells #[.int .i64 pc, .slice sa S.length sc, .int .u64 l0, .int .u64 l1, .int .u64 l2, .int .u64 l3, .slice oa O.length oc] 38)).alloc (.cells #[.int .i64 0, .slice none 0 0, .int .u64 0, .int .u64 0, .int .u64 0, .int .u64 0, .slice none 0 0] 38)) (w.heap.size + 1) zWD (.slice none 0 0) (.slice none 0 0) := ⟨by
    have := heap_alloc_new (w.alloc (.cells #[.int .i64 pc, .slice sa S.length sc, .int .u64 l0, .int .u64 l1, .int .u64 l2, .int .u64 l3, .slice oa O.length oc] 38)) (.cells #[.int .i64 0, .slice none 0 0, .int .u64 0, .int .u64 0, .int .u64 0, .int .u64 0, .slice none 0 0] 38)
    simpa using this⟩
  have tQ : Touch w ((w.alloc (.cells #[.int .i64 pc, .slice sa S.length sc, .int .u64 l0, .int .u64 l1, .int .u64 l2, .int .u64 l3, .slice oa O.length oc] 38)).alloc (.cells #[.int .i64 0, .slice none 0 0, .int .u64 0, .int .u64 0, .int .u64 0, .int .u64 0, .slice none 0 0] 38)) [] := ((Touch.refl w []).alloc _).alloc _
  have hQs : ((w.alloc (.cells #[.int .i64 pc, .slice sa S.length sc, .int .u64 l0, .int .u64 l1, .int .u64 l2, .int .u64 l3, .slice oa O.length oc] 38)).alloc (.cells #[.int .i64 0, .slice none 0 0, .int .u64 0, .int .u64 0, .int .u64 0, .int .u64 0, .slice none 0 0] 38)).heap.size = w.heap.size + 2 := by simp
  obtain ⟨x0, x1, x2, x3, x4, x5, x6⟩ := hQb.cells
  simp only at x0 x1 x2 x3 x4 x5 x6
  have HQB : Hid _ := hQb
  have HQR : Hid _ := hQr
  have HTQ : Hid _ := tQ
  have HQS : Hid _ := hQs
  obtain ⟨k, rfl⟩ := hk
  have hk2 : k < l.length := by omega
  obtain ⟨g, off, rfl, hg, c0, c1, c2⟩ := ins_cells hl k hk2
  have hiw : InsD.Wf l[k] := hwf _ (List.getElem_mem hk2)
  have hi : l[k] = l.getD k ⟨0, 0, 0⟩ := by simp [List.getD_eq_getElem?_getD, List.getElem?_eq_getElem hk2]
  simp only [Int.toNat_natCast] at hri hpl
  rw [hi] at c0 c1 c2 hiw
  generalize l.getD k ⟨0, 0, 0⟩ = i at *
  obtain ⟨o, a, v⟩ := i
  simp only at c0 c1 c2 hri hpl
  have HI : Hid (∀ W, Touch w W [] → W.cell? ⟨g, off + k * 3, none⟩ = some (.int .u8 o) ∧ W.cell? ⟨g, off + k * 3 + 1, none⟩ = some (.int .i64 a) ∧ W.cell? ⟨g, off + k * 3 + 2, none⟩ = some (.int .u64 v)) := fun W t => ⟨(t.cell (p := ⟨g, _, none⟩) hg (by simp)).trans c0, (t.cell (p := ⟨g, _, none⟩) hg (by simp)).trans c1, (t.cell (p := ⟨g, _, none⟩) hg (by simp)).trans c2⟩
  have hk0 : (0 : Int) ≤ k := by omega
  have hk1 : (k : Int) < l.length := by omega
  obtain ⟨d0, d1, d2⟩ := HI.out _ HTQ.out
  have HRT : Hid (∀ W, HidC Tryd.prog 21 #[.agg #[.int .u8 o, .int .i64 a, .int .u64 v]] W fun e w' => e = .returned (.bool true) ∧ Touch W w' []) := fun W => ⟨by have := rrightI_any _ hiw W; rw [hri] at this; exact this⟩
  have HPL : Hid (∀ W, HidC Tryd.prog 42 #[.int .u8 o] W fun e w' => e = .returned (.bool false) ∧ W = w') := fun W => ⟨by have := rplain_any o W; rw [hpl] at this; exact this⟩
  clear hiw c0 c1 c2 hg hi hwf hsw
  clear hQb hQr tQ hQs
  go_enter Tryd.func25, Tryd.ntmps25
  go_wp2_with fail
  generalize ((w.alloc (.cells #[.int .i64 k, .slice sa S.length sc, .int .u64 l0, .int .u64 l1, .int .u64 l2, .int .u64 l3, .slice oa O.length oc] 38)).alloc (.cells #[.int .i64 0, .slice none 0 0, .int .u64 0, .int .u64 0, .int .u64 0, .int .u64 0, .slice none 0 0] 38)) = Q at *
  refine (HRT.out _).out.mono ?_
  rintro e w1 ⟨rfl, t1⟩
  have T1 : Hid (Touch w w1 []) := HTQ.out.trans t1 (by simp)
  have R1 : Hid _ := HQR.out.touch t1 (by simp)
  have hb1 := HQB.out.touch t1 (by simp)
  have B1 : Hid _ := hb1
  have hsz1 : w.heap.size + 2 ≤ w1.heap.size := by have := t1.size; have := HQS.out; omega
  obtain ⟨z0, z1, z2, z3, z4, z5, z6⟩ := hb1.cells
  obtain ⟨e0, e1, e2⟩ := HI.out _ T1.out
  simp only at z0 z1 z2 z3 z4 z5 z6
  clear x0 x1 x2 x3 x4 x5 x6 d0 d1 d2 t1 hb1 HRT HTQ HQR HQB
  go_wp2_with fail
  refine (HPL.out _).out.mono ?_
  rintro e _ ⟨rfl, rfl⟩
  clear HPL
  have HTH : Hid _ := st_there R1.out
  have HP : Hid _ := bad_fin R1.out T1.out (Nat.le_succ _) 3 (by decide) ⟨k, S, l0, l1, l2, l3, O, fu⟩
  go_wp2_with (refine wpList_store_mid rfl 38 _ _ rfl (w.heap.size + 1) 0 (stA zWD (.slice none 0 0) (.slice none 0 0)) ?_ ?_ ?_ ?_ ?_ ?_; rfl; rfl; exact HTH.out; exact Tryd.size_state; exact st_one _ _ _ _ _ _ _; refine wpList_nameR fun W8 hW8 => ?_; have H8 : Hid _ := HP.out W8 hW8; clear hW8 HTH HP)
  obtain ⟨b8, r8⟩ := H8.out
  refine bodyPost_ret (v := .tuple #[stV zWD (.slice none 0 0) (.slice none 0 0), .int .i64 3]) (res_cell_slot (v := stV zWD (.slice none 0 0) (.slice none 0 0)) (a := ⟨w.heap.size + 1, 0, none⟩) Tryd.results25 _ _ _ rfl ?_) rfl r8
  obtain ⟨z0', z1', z2', z3', z4', z5', z6'⟩ := b8.cells
  simp [go_sem, z0', z1', z2', z3', z4', z5', z6']

set_option maxRecDepth 100000 in
set_option maxHeartbeats 4000000 in
theorem rs_nofit {w : World} {sa oa ap : Option Addr} {sc oc cp : Nat} {l : List InsD} {D : WD} (h : StIn w sa oa ap sc oc cp l D) (hk : ∃ k : Nat, D.pc = k) (hk1 : D.pc < l.length) (hri : rightI (l.getD D.pc.toNat ⟨0, 0, 0⟩) = true) (hpl : plainO (l.getD D.pc.toNat ⟨0, 0, 0⟩).op = true) (hft : fitsW (l.getD D.pc.toNat ⟨0, 0, 0⟩).op D.st.length = false) :
    Calls Tryd.prog 25 #[.slice ap l.length cp, stV D (.slice sa D.st.length sc) (.slice oa D.out.length oc)] w (StpP w (12, D)) := by
  obtain ⟨pc, S, l0, l1, l2, l3, O, fu⟩ := D
  obtain ⟨hs, ho, hl, hll, hsl, hol, hwf, hsw⟩ := h
  simp only at *
  have hQb : StB ((w.alloc (.cells #[.int .i64 pc, .slice sa S.length sc, .int .u64 l0, .int .u64 l1, .int .u64 l2, .int .u64 l3, .slice oa O.length oc] 38)).alloc (.cells #[.int .i64 0, .slice none 0 0, .int .u64 0, .int .u64 0, .int .u64 0, .int .u64 0, .slice none 0 0] 38)) w.heap.size ⟨pc, S, l0, l1, l2, l3, O, fu⟩ (.slice sa S.length sc) (.slice oa O.length oc) := StB.touch (⟨heap_alloc_new w _⟩ : StB (w.alloc (.cells #[.int .i64 pc, .slice sa S.length sc, .int .u64 l0, .int .u64 l1, .int .u64 l2, .int .u64 l3, .slice oa O.length oc] 38)) w.heap.size ⟨pc, S, l0, l1, l2, l3, O, fu⟩ (.slice sa S.length sc) (.slice oa O.length oc)) ((Touch.refl _ []).alloc _) (by simp)
  have hQr : StB ((w.alloc (.cells #[.int .i64 pc, .slice sa S.length sc, .int .u64 l0, .int .u64 l1, .int .u64 l2, .int .u64 l3, .slice oa O.length oc] 38)).alloc (.cells #[.int .i64 0, .slice none 0 0, .int .u64 0, .int .u64 0, .int .u64 0, .int .u64 0, .slice none 0 0] 38)) (w.heap.size + 1) zWD (.slice none 0 0) (.slice none 0 0) := ⟨by
    have := heap_alloc_new (w.alloc (.cells #[.int .i64 pc, .slice sa S.length sc, .int .u64 l0, .int .u64 l1, .int .u64 l2, .int .u64 l3, .slice oa O.length oc] 38)) (.cells #[.int .i64 0, .slice none 0 0, .int .u64 0, .int .u64 0, .int .u64 0, .int .u64 0, .slice none 0 0] 38)
    simpa using this⟩
  have tQ : Touch w ((w.alloc (.cells #[.int .i64 pc, .slice sa S.length sc, .int .u64 l0, .int .u64 l1, .int .u64 l2, .int .u64 l3, .slice oa O.length oc] 38)).alloc (.cells #[.int .i64 0, .slice none 0 0, .int .u64 0, .int .u64 0, .int .u64 0, .int .u64 0, .slice none 0 0] 38)) [] := ((Touch.refl w []).alloc _).alloc _
  have hQs : ((w.alloc (.cells #[.int .i64 pc, .slice sa S.length sc, .int .u64 l0, .int .u64 l1, .int .u64 l2, .int .u64 l3, .slice oa O.length oc] 38)).alloc (.cells #[.int .i64 0, .slice none 0 0, .int .u64 0, .int .u64 0, .int .u64 0, .int .u64 0, .slice none 0 0] 38)).heap.size = w.heap.size + 2 := by simp
  obtain ⟨x0, x1, x2, x3, x4, x5, x6⟩ := hQb.cells
  simp only at x0 x1 x2 x3 x4 x5 x6
  have HQB : Hid _ := hQb
  have HQR : Hid _ := hQr
  have HTQ : Hid _ := tQ
  have HQS : Hid _ := hQs
  obtain ⟨k, rfl⟩ := hk
  have hk2 : k < l.length := by omega
  obtain ⟨g, off, rfl, hg, c0, c1, c2⟩ := ins_cells hl k hk2
  have hiw : InsD.Wf l[k] := hwf _ (List.getElem_mem hk2)
  have hi : l[k] = l.getD k ⟨0, 0, 0⟩ := by simp [List.getD_eq_getElem?_getD, List.getElem?_eq_getElem hk2]
  simp only [Int.toNat_natCast] at hri hpl hft
  rw [hi] at c0 c1 c2 hiw
  generalize l.getD k ⟨0, 0, 0⟩ = i at *
  obtain ⟨o, a, v⟩ := i
  simp only at c0 c1 c2 hri hpl hft
  have HI : Hid (∀ W, Touch w W [] → W.cell? ⟨g, off + k * 3, none⟩ = some (.int .u8 o) ∧ W.cell? ⟨g, off + k * 3 + 1, none⟩ = some (.int .i64 a) ∧ W.cell? ⟨g, off + k * 3 + 2, none⟩ = some (.int .u64 v)) := fun W t => ⟨(t.cell (p := ⟨g, _, none⟩) hg (by simp)).trans c0, (t.cell (p := ⟨g, _, none⟩) hg (by simp)).trans c1, (t.cell (p := ⟨g, _, none⟩) hg (by simp)).trans c2⟩
  have hk0 : (0 : Int) ≤ k := by omega
  have hk1 : (k : Int) < l.length := by omega
  obtain ⟨d0, d1, d2⟩ := HI.out _ HTQ.out
  have HRT : Hid (∀ W, HidC Tryd.prog 21 #[.agg #[.int .u8 o, .int .i64 a, .int .u64 v]] W fun e w' => e = .returned (.bool true) ∧ Touch W w' []) := fun W => ⟨by have := rrightI_any _ hiw W; rw [hri] at this; exact this⟩
  have HPL : Hid (∀ W, HidC Tryd.prog 42 #[.int .u8 o] W fun e w' => e = .returned (.bool true) ∧ W = w') := fun W => ⟨by have := rplain_any o W; rw [hpl] at this; exact this⟩
  have HFT : Hid (∀ W, HidC Tryd.prog 40 #[.int .u8 o, .agg #[.int .i64 k, .slice sa S.length sc, .int .u64 l0, .int .u64 l1, .int .u64 l2, .int .u64 l3, .slice oa O.length oc]] W fun e w' => e = .returned (.int .i64 12) ∧ Touch W w' []) := fun W => ⟨by have := rfits_any (w := W) (vo := .slice oa O.length oc) (ao := sa) (cap := sc) (D := ⟨k, S, l0, l1, l2, l3, O, fu⟩) hsl o; rw [if_neg (by rw [hft]; decide)] at this; exact this⟩
  clear hiw c0 c1 c2 hg hi hwf hsw
  clear hQb hQr tQ hQs
  go_enter Tryd.func25, Tryd.ntmps25
  go_wp2_with fail
  generalize ((w.alloc (.cells #[.int .i64 k, .slice sa S.length sc, .int .u64 l0, .int .u64 l1, .int .u64 l2, .int .u64 l3, .slice oa O.length oc] 38)).alloc (.cells #[.int .i64 0, .slice none 0 0, .int .u64 0, .int .u64 0, .int .u64 0, .int .u64 0, .slice none 0 0] 38)) = Q at *
  refine (HRT.out _).out.mono ?_
  rintro e w1 ⟨rfl, t1⟩
  have T1 : Hid (Touch w w1 []) := HTQ.out.trans t1 (by simp)
  have R1 : Hid _ := HQR.out.touch t1 (by simp)
  have hb1 := HQB.out.touch t1 (by simp)
  have B1 : Hid _ := hb1
  have hsz1 : w.heap.size + 2 ≤ w1.heap.size := by have := t1.size; have := HQS.out; omega
  obtain ⟨z0, z1, z2, z3, z4, z5, z6⟩ := hb1.cells
  obtain ⟨e0, e1, e2⟩ := HI.out _ T1.out
  simp only at z0 z1 z2 z3 z4 z5 z6
  clear x0 x1 x2 x3 x4 x5 x6 d0 d1 d2 t1 hb1 HRT HTQ HQR HQB
  have tX : Touch w1 (w1.alloc (.cells #[.int .u8 o, .int .i64 a, .int .u64 v] 62)) [] := (Touch.refl w1 []).alloc _
  have hxx : IxB (w1.alloc (.cells #[.int .u8 o, .int .i64 a, .int .u64 v] 62)) w1.heap.size ⟨o, a, v⟩ := ⟨heap_alloc_new w1 _⟩
  obtain ⟨m0, m1, m2⟩ := hxx.cells
  obtain ⟨y0, y1, y2, y3, y4, y5, y6⟩ := (B1.out.touch tX (by simp)).cells
  simp only at y0 y1 y2 y3 y4 y5 y6 m0 m1 m2
  have TX : Hid _ := T1.out.trans tX (by simp)
  have RX : Hid _ := R1.out.touch tX (by simp)
  clear tX hxx
  go_wp2_with fail
  refine (HPL.out _).out.mono ?_
  rintro e _ ⟨rfl, rfl⟩
  clear HPL
  go_wp2_with fail
  clear z0 z1 z2 z3 z4 z5 z6 e0 e1 e2
  generalize hX : w1.alloc (.cells #[.int .u8 o, .int .i64 a, .int .u64 v] 62) = X at *
  have hX' := hX
  clear hX hX'
  refine (HFT.out _).out.mono ?_
  rintro e w2 ⟨rfl, t2⟩
  have T2 : Hid _ := TX.out.trans t2 (by simp)
  have R2 : Hid _ := RX.out.touch t2 (by simp)
  clear HFT t2
  have HTH : Hid _ := st_there R2.out
  have HP : Hid _ := bad_fin R2.out T2.out (Nat.le_succ _) 12 (by decide) ⟨k, S, l0, l1, l2, l3, O, fu⟩
  go_wp2_with (refine wpList_store_mid rfl 38 _ _ rfl (w.heap.size + 1) 0 (stA zWD (.slice none 0 0) (.slice none 0 0)) ?_ ?_ ?_ ?_ ?_ ?_; rfl; rfl; exact HTH.out; exact Tryd.size_state; exact st_one _ _ _ _ _ _ _; refine wpList_nameR fun W8 hW8 => ?_; have H8 : Hid _ := HP.out W8 hW8; clear hW8 HTH HP)
  obtain ⟨b8, r8⟩ := H8.out
  refine bodyPost_ret (v := .tuple #[stV zWD (.slice none 0 0) (.slice none 0 0), .int .i64 12]) (res_cell_slot (v := stV zWD (.slice none 0 0) (.slice none 0 0)) (a := ⟨w.heap.size + 1, 0, none⟩) Tryd.results25 _ _ _ rfl ?_) rfl r8
  obtain ⟨z0', z1', z2', z3', z4', z5', z6'⟩ := b8.cells
  simp [go_sem, z0', z1', z2', z3', z4', z5', z6']

end Go.Proofs.YtkpgfchglaemgaaDoor
