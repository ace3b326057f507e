/-
  package spec, the document's: Step BY ITS CONTRACT, some arms.
-/
import Derived.Test.YtkpgfchglaemgaaDoorSsR0
namespace Go.Proofs.YtkpgfchglaemgaaDoor
set_option linter.unusedVariables false
set_option linter.unusedSimpArgs false
open Go.RowKit
attribute [local go_sem] Oper.semAt_some

set_option maxRecDepth 100000 in
set_option maxHeartbeats 12000000 in
theorem rs_nop {w : World} {sa oa ap : Option Addr} {sc oc cp : Nat} {l : List InsD} {D : WD} (h : StIn w sa oa ap sc oc cp l D) {k : Nat} (hk : k < l.length) (hpc : D.pc = k) {a v : Int} (hi : l[k] = ⟨0, a, v⟩) (hri : rightI ⟨0, a, v⟩ = true) (hf : fitsW 0 D.st.length = true) :
    Calls Tryd.prog 25 #[.slice ap l.length cp, stV D (.slice sa D.st.length sc) (.slice oa D.out.length oc)] w (StpP w (0, { D with pc := D.pc + 1 })) := by
  obtain ⟨pc, S, l0, l1, l2, l3, O, fu⟩ := D
  simp only at hpc hf ⊢
  subst hpc
  obtain ⟨hs, ho, hl, hll, hsl, hol, hwf, hsw⟩ := h
  simp only at hs ho hsl hol hsw
  obtain ⟨D, hD⟩ : ∃ D : WD, D = ⟨k, S, l0, l1, l2, l3, O, fu⟩ := ⟨_, rfl⟩
  have hQb : StB ((w.alloc (.cells #[.int .i64 k, .slice sa S.length sc, .int .u64 l0, .int .u64 l1, .int .u64 l2, .int .u64 l3, .slice oa O.length oc] 38)).alloc (.cells #[.int .i64 0, .slice none 0 0, .int .u64 0, .int .u64 0, .int .u64 0, .int .u64 0, .slice none 0 0] 38)) w.heap.size ⟨k, S, l0, l1, l2, l3, O, fu⟩ (.slice sa S.length sc) (.slice oa O.length oc) := StB.touch (⟨heap_alloc_new w _⟩ : StB (w.alloc (.cells #[.int .i64 k, .slice sa S.length sc, .int .u64 l0, .int .u64 l1, .int .u64 l2, .int .u64 l3, .slice oa O.length oc] 38)) w.heap.size ⟨k, S, l0, l1, l2, l3, O, fu⟩ (.slice sa S.length sc) (.slice oa O.length oc)) ((Touch.refl _ []).alloc _) (by simp)
  have hQr : StB ((w.alloc (.cells #[.int .i64 k, .slice sa S.length sc, .int .u64 l0, .int .u64 l1, .int .u64 l2, .int .u64 l3, .slice oa O.length oc] 38)).alloc (.cells #[.int .i64 0, .slice none 0 0, .int .u64 0, .int .u64 0, .int .u64 0, .int .u64 0, .slice none 0 0] 38)) (w.heap.size + 1) zWD (.slice none 0 0) (.slice none 0 0) := ⟨by
    have := heap_alloc_new (w.alloc (.cells #[.int .i64 k, .slice sa S.length sc, .int .u64 l0, .int .u64 l1, .int .u64 l2, .int .u64 l3, .slice oa O.length oc] 38)) (.cells #[.int .i64 0, .slice none 0 0, .int .u64 0, .int .u64 0, .int .u64 0, .int .u64 0, .slice none 0 0] 38)
    simpa using this⟩
  have tQ : Touch w ((w.alloc (.cells #[.int .i64 k, .slice sa S.length sc, .int .u64 l0, .int .u64 l1, .int .u64 l2, .int .u64 l3, .slice oa O.length oc] 38)).alloc (.cells #[.int .i64 0, .slice none 0 0, .int .u64 0, .int .u64 0, .int .u64 0, .int .u64 0, .slice none 0 0] 38)) [] := ((Touch.refl w []).alloc _).alloc _
  have hQs : ((w.alloc (.cells #[.int .i64 k, .slice sa S.length sc, .int .u64 l0, .int .u64 l1, .int .u64 l2, .int .u64 l3, .slice oa O.length oc] 38)).alloc (.cells #[.int .i64 0, .slice none 0 0, .int .u64 0, .int .u64 0, .int .u64 0, .int .u64 0, .slice none 0 0] 38)).heap.size = w.heap.size + 2 := by simp
  have HWF : Hid _ := hwf
  have hiw : InsD.Wf ⟨0, a, v⟩ := hi ▸ hwf _ (List.getElem_mem hk)
  have HRT : Hid (∀ W, HidC Tryd.prog 21 #[.agg #[.int .u8 0, .int .i64 a, .int .u64 v]] W fun e w' => e = .returned (.bool true) ∧ Touch W w' []) := fun W => ⟨by have := rrightI_any _ hiw W; rw [hri] at this; exact this⟩
  have HPL : Hid (∀ W, HidC Tryd.prog 42 #[.int .u8 0] W fun e w' => e = .returned (.bool true) ∧ W = w') := fun W => ⟨rplain_any 0 W⟩
  have HFT : Hid (∀ W, HidC Tryd.prog 40 #[.int .u8 0, .agg #[.int .i64 k, .slice sa S.length sc, .int .u64 l0, .int .u64 l1, .int .u64 l2, .int .u64 l3, .slice oa O.length oc]] W fun e w' => e = .returned (.int .i64 0) ∧ Touch W w' []) := fun W => ⟨by have := rfits_any (w := W) (vo := .slice oa O.length oc) (ao := sa) (cap := sc) (D := ⟨k, S, l0, l1, l2, l3, O, fu⟩) hsl 0; rw [if_pos hf] at this; exact this⟩
  have HCP : Hid (∀ W, Touch w W [] → HidC Tryd.prog 20 #[.agg #[.int .i64 k, .slice sa S.length sc, .int .u64 l0, .int .u64 l1, .int .u64 l2, .int .u64 l3, .slice oa O.length oc]] W (CopP W ⟨k, S, l0, l1, l2, l3, O, fu⟩)) := fun W t => ⟨rcopied_any (D := ⟨k, S, l0, l1, l2, l3, O, fu⟩) (SRow.keep hs t (by simp)) (SRow.keep ho t (by simp)) hsl hol⟩
  have HEF : Hid (∀ W, HidC Tryd.prog 43 #[.int .u8 0] W fun e w' => e = .returned (.tuple #[.int .i64 0, .int .i64 0]) ∧ W = w') := fun W => ⟨reff_any 0 W⟩
  obtain ⟨g, off, rfl, hg, c0, c1, c2⟩ := ins_cells hl k hk
  rw [hi] at c0 c1 c2
  simp only at c0 c1 c2
  have HI : Hid (∀ W, Touch w W [] → W.cell? ⟨g, off + k * 3, none⟩ = some (.int .u8 0) ∧ W.cell? ⟨g, off + k * 3 + 1, none⟩ = some (.int .i64 a) ∧ W.cell? ⟨g, off + k * 3 + 2, none⟩ = some (.int .u64 v)) := fun W t => ⟨(t.cell (p := ⟨g, _, none⟩) hg (by simp)).trans c0, (t.cell (p := ⟨g, _, none⟩) hg (by simp)).trans c1, (t.cell (p := ⟨g, _, none⟩) hg (by simp)).trans c2⟩
  have hk0 : (0 : Int) ≤ k := by omega
  have hk1 : (k : Int) < l.length := by omega
  obtain ⟨d0, d1, d2⟩ := HI.out _ tQ
  obtain ⟨x0, x1, x2, x3, x4, x5, x6⟩ := hQb.cells
  simp only at x0 x1 x2 x3 x4 x5 x6
  have HQB : Hid _ := hQb
  have HQR : Hid _ := hQr
  have HTQ : Hid _ := tQ
  have HQS : Hid _ := hQs
  have HSW : Hid _ := hsw
  have HSL : Hid (S.length ≤ 1000) := hsl
  have HOL : Hid (O.length ≤ 1000) := hol
  have HF : Hid _ := hf
  have HRI : Hid _ := hri
  clear hQb hQr tQ hQs hsw hsl hol hf hri hwf hiw hs ho hl hi c0 c1 c2 hg
  go_enter Tryd.func25, Tryd.ntmps25
  go_wp2_with fail
  generalize ((w.alloc (.cells #[.int .i64 k, .slice sa S.length sc, .int .u64 l0, .int .u64 l1, .int .u64 l2, .int .u64 l3, .slice oa O.length oc] 38)).alloc (.cells #[.int .i64 0, .slice none 0 0, .int .u64 0, .int .u64 0, .int .u64 0, .int .u64 0, .slice none 0 0] 38)) = Q at *
  go_wp2_with fail
  refine (HRT.out _).out.mono ?_
  rintro e w1 ⟨rfl, t1⟩
  have T1 : Touch w w1 [] := HTQ.out.trans t1 (by simp)
  have hb1 := HQB.out.touch t1 (by simp)
  have hr1 := HQR.out.touch t1 (by simp)
  have hsz1 : w.heap.size + 2 ≤ w1.heap.size := by have := t1.size; have := HQS.out; omega
  have tX : Touch w1 (w1.alloc (.cells #[.int .u8 0, .int .i64 a, .int .u64 v] 62)) [] := (Touch.refl w1 []).alloc _
  have hbX := hb1.touch tX (by simp)
  have HRX : Hid _ := hr1.touch tX (by simp)
  have HXX : Hid (IxB (w1.alloc (.cells #[.int .u8 0, .int .i64 a, .int .u64 v] 62)) w1.heap.size ⟨0, a, v⟩) := ⟨heap_alloc_new w1 _⟩
  have HTX : Hid _ := T1.trans tX (by simp)
  have HXS : Hid ((w1.alloc (.cells #[.int .u8 0, .int .i64 a, .int .u64 v] 62)).heap.size = w1.heap.size + 1) := by show _ = _; simp
  obtain ⟨m0, m1, m2⟩ := HXX.out.cells
  obtain ⟨y0, y1, y2, y3, y4, y5, y6⟩ := hbX.cells
  obtain ⟨z0, z1, z2, z3, z4, z5, z6⟩ := hb1.cells
  obtain ⟨e0, e1, e2⟩ := HI.out _ T1
  simp only at y0 y1 y2 y3 y4 y5 y6 z0 z1 z2 z3 z4 z5 z6 m0 m1 m2
  have HBX : Hid _ := hbX
  have HW1 : Hid _ := hsz1
  clear x0 x1 x2 x3 x4 x5 x6 d0 d1 d2 hb1 hr1 hbX tX T1 t1 HTQ HQB HQR HRT
  go_wp2_with fail
  refine (HPL.out _).out.mono ?_
  rintro e _ ⟨rfl, rfl⟩
  clear HPL
  go_wp2_with fail
  clear z0 z1 z2 z3 z4 z5 z6 e0 e1 e2
  generalize hX : w1.alloc (.cells #[.int .u8 0, .int .i64 a, .int .u64 v] 62) = X at *
  have hX' := hX
  clear hX hX'
  refine (HFT.out _).out.mono ?_
  rintro e w2 ⟨rfl, t2⟩
  clear HFT
  have T2 : Touch w w2 [] := HTX.out.trans t2 (by simp)
  have hb2 := HBX.out.touch t2 (by simp)
  obtain ⟨z0, z1, z2, z3, z4, z5, z6⟩ := hb2.cells
  have HCP2 : HidC _ _ _ _ _ := HCP.out w2 T2
  have HB2 : Hid _ := hb2
  have HR2 : Hid _ := HRX.out.touch t2 (by simp)
  have HX2 : Hid _ := HXX.out.touch t2 (by simp)
  have HT2 : Hid _ := T2
  have HS2 : Hid (w1.heap.size + 1 ≤ w2.heap.size) := by show _ ≤ _; have := t2.size; have := HXS.out; omega
  clear y0 y1 y2 y3 y4 y5 y6 m0 m1 m2 HBX HRX HXX HTX HXS HCP t2 hb2 T2
  simp only at z0 z1 z2 z3 z4 z5 z6
  go_wp2_with fail
  refine HCP2.out.mono ?_
  rintro e w3 ⟨vs, vo, he3, o3, u3, n3, t3⟩
  have he3' : e = .returned (.agg #[.int .i64 k, vs, .int .u64 l0, .int .u64 l1, .int .u64 l2, .int .u64 l3, vo]) := he3
  subst he3'
  clear he3
  obtain ⟨va, vc, rfl⟩ := owns_slice o3
  obtain ⟨ua, uc, rfl⟩ := owns_slice u3
  clear HCP2 z0 z1 z2 z3 z4 z5 z6
  have hb3 := HB2.out.touch t3 (by simp)
  have hsz3 := t3.size
  have HTH : Hid _ := st_there hb3
  have HM : Hid (∀ W4, W4 = w3.setCells w.heap.size 0 (stA ⟨k, S, l0, l1, l2, l3, O, fu⟩ (.slice va S.length vc) (.slice ua O.length uc)).toList → StMid w W4 w.heap.size (w.heap.size + 1) w1.heap.size w2.heap.size ⟨k, S, l0, l1, l2, l3, O, fu⟩ ⟨0, a, v⟩ (.slice va S.length vc) (.slice ua O.length uc)) := fun W4 hW4 => by
    obtain ⟨g1, tp⟩ := st_sets hb3 ⟨k, S, l0, l1, l2, l3, O, fu⟩ (.slice va S.length vc) (.slice ua O.length uc) W4 hW4
    have h1 := HW1.out
    have h2 := HS2.out
    exact ⟨g1, (HR2.out.touch t3 (by simp)).touch tp (by simp), (HX2.out.touch t3 (by simp)).touch tp (by simp; omega), ownsRow_touch o3 tp (fun g hg hs => by have := own_ge o3 g hg; simp at hs; omega), ownsRow_touch u3 tp (fun g hg hs => by have := own_ge u3 g hg; simp at hs; omega), n3, (HT2.out.trans t3 (by simp)).trans tp (fun x hx => .inr (by simp at hx; omega)), Nat.le_refl _, by omega, by omega, by omega, by omega, by omega, by omega, by omega, Nat.le_trans hsz3 tp.size⟩
  clear hb3 hsz3 o3 u3 n3 t3 HB2 HR2 HX2 HT2 HW1 HS2
  go_wp2_with (refine wpList_store_mid rfl 38 _ _ rfl w.heap.size 0 (stA ⟨k, S, l0, l1, l2, l3, O, fu⟩ (.slice va S.length vc) (.slice ua O.length uc)) ?_ ?_ ?_ ?_ ?_ ?_; rfl; rfl; exact HTH.out; exact Tryd.size_state; exact st_one _ _ _ _ _ _ _; refine wpList_nameR fun W4 hW4 => ?_; have hm := HM.out W4 hW4; have HM4 : Hid _ := hm; obtain ⟨z0, z1, z2, z3, z4, z5, z6⟩ := hm.hb.cells; obtain ⟨m0, m1, m2⟩ := hm.hx.cells; simp only at z0 z1 z2 z3 z4 z5 z6 m0 m1 m2; have f0 := hm.hb.fr 0; have f1 := hm.hb.fr 1; clear hW4 hm HTH HM)
  refine (HEF.out _).out.mono ?_
  rintro e w5 ⟨rfl, rfl⟩
  clear HEF
  have hwk : IntKind.i64.wrap ((k : Int) + 1) = (k : Int) + 1 := by rw [IntKind.wrap_i64]; omega
  have hfo := own_form HM4.out.hs
  have hn12 : S.length ≤ 1000 := HSL.out
  have hwm : IntKind.i64.wrap ((S.length : Int) - 0) = (S.length : Int) := by rw [IntKind.wrap_i64]; omega
  have HM7 : Hid _ := HM4.out.setp (k + 1)
  simp only at HM7
  have HTH : Hid _ := st_there HM7.out.hr
  have HP : Hid _ := HM7.out.fin
  clear HSL HF
  generalize S.length = n at *
  rcases hfo.2 with ⟨rfl, rfl, rfl⟩ | ⟨g2, rfl, hnc, hcm⟩
  · clear hfo
    go_wp2_with (refine wpList_store_mid rfl 38 _ _ rfl (w.heap.size + 1) 0 (stA ⟨k + 1, S, l0, l1, l2, l3, O, fu⟩ (.slice none 0 0) (.slice ua O.length uc)) ?_ ?_ ?_ ?_ ?_ ?_; rfl; rfl; exact HTH.out; exact Tryd.size_state; exact st_one _ _ _ _ _ _ _; refine wpList_nameR fun W8 hW8 => ?_; have H8 : Hid _ := HP.out W8 hW8; clear hW8 HTH HP)
    obtain ⟨b8, r8⟩ := H8.out
    refine bodyPost_ret (v := .tuple #[stV ⟨k + 1, S, l0, l1, l2, l3, O, fu⟩ (.slice none 0 0) (.slice ua O.length uc), .int .i64 0]) (res_cell_slot (v := stV ⟨k + 1, S, l0, l1, l2, l3, O, fu⟩ (.slice none 0 0) (.slice ua O.length uc)) (a := ⟨w.heap.size + 1, 0, none⟩) Tryd.results25 _ _ _ rfl ?_) rfl r8
    obtain ⟨z0', z1', z2', z3', z4', z5', z6'⟩ := b8.cells
    simp [go_sem, z0', z1', z2', z3', z4', z5', z6']
  · clear hfo
    have hn0 : (0 : Int) ≤ n := by omega
    have hnc2 : (n : Int) ≤ vc := by omega
    by_cases hcc : vc = n
    · subst hcc
      go_wp2_with (refine wpList_store_mid rfl 38 _ _ rfl (w.heap.size + 1) 0 (stA ⟨k + 1, S, l0, l1, l2, l3, O, fu⟩ (.slice (some ⟨g2, 0, none⟩) vc vc) (.slice ua O.length uc)) ?_ ?_ ?_ ?_ ?_ ?_; rfl; rfl; exact HTH.out; exact Tryd.size_state; exact st_one _ _ _ _ _ _ _; refine wpList_nameR fun W8 hW8 => ?_; have H8 : Hid _ := HP.out W8 hW8; clear hW8 HTH HP)
      obtain ⟨b8, r8⟩ := H8.out
      refine bodyPost_ret (v := .tuple #[stV ⟨k + 1, S, l0, l1, l2, l3, O, fu⟩ (.slice (some ⟨g2, 0, none⟩) vc vc) (.slice ua O.length uc), .int .i64 0]) (res_cell_slot (v := stV ⟨k + 1, S, l0, l1, l2, l3, O, fu⟩ (.slice (some ⟨g2, 0, none⟩) vc vc) (.slice ua O.length uc)) (a := ⟨w.heap.size + 1, 0, none⟩) Tryd.results25 _ _ _ rfl ?_) rfl r8
      obtain ⟨z0', z1', z2', z3', z4', z5', z6'⟩ := b8.cells
      simp [go_sem, z0', z1', z2', z3', z4', z5', z6']
    · skip
      go_wp2_with (refine wpList_store_mid rfl 38 _ _ rfl (w.heap.size + 1) 0 (stA ⟨k + 1, S, l0, l1, l2, l3, O, fu⟩ (.slice (some ⟨g2, 0, none⟩) n vc) (.slice ua O.length uc)) ?_ ?_ ?_ ?_ ?_ ?_; rfl; rfl; exact HTH.out; exact Tryd.size_state; exact st_one _ _ _ _ _ _ _; refine wpList_nameR fun W8 hW8 => ?_; have H8 : Hid _ := HP.out W8 hW8; clear hW8 HTH HP)
      obtain ⟨b8, r8⟩ := H8.out
      refine bodyPost_ret (v := .tuple #[stV ⟨k + 1, S, l0, l1, l2, l3, O, fu⟩ (.slice (some ⟨g2, 0, none⟩) n vc) (.slice ua O.length uc), .int .i64 0]) (res_cell_slot (v := stV ⟨k + 1, S, l0, l1, l2, l3, O, fu⟩ (.slice (some ⟨g2, 0, none⟩) n vc) (.slice ua O.length uc)) (a := ⟨w.heap.size + 1, 0, none⟩) Tryd.results25 _ _ _ rfl ?_) rfl r8
      obtain ⟨z0', z1', z2', z3', z4', z5', z6'⟩ := b8.cells
      simp [go_sem, z0', z1', z2', z3', z4', z5', z6']

set_option maxRecDepth 100000 in
set_option maxHeartbeats 12000000 in
theorem rs_jump {w : World} {sa oa ap : Option Addr} {sc oc cp : Nat} {l : List InsD} {D : WD} (h : StIn w sa oa ap sc oc cp l D) {k : Nat} (hk : k < l.length) (hpc : D.pc = k) {a v : Int} (hi : l[k] = ⟨19, a, v⟩) (hri : rightI ⟨19, a, v⟩ = true) (hf : fitsW 19 D.st.length = true) (hin : a ≤ l.length) :
    Calls Tryd.prog 25 #[.slice ap l.length cp, stV D (.slice sa D.st.length sc) (.slice oa D.out.length oc)] w (StpP w (0, { D with pc := a })) := by
  obtain ⟨pc, S, l0, l1, l2, l3, O, fu⟩ := D
  simp only at hpc hf ⊢
  subst hpc
  obtain ⟨hs, ho, hl, hll, hsl, hol, hwf, hsw⟩ := h
  simp only at hs ho hsl hol hsw
  obtain ⟨D, hD⟩ : ∃ D : WD, D = ⟨k, S, l0, l1, l2, l3, O, fu⟩ := ⟨_, rfl⟩
  have hQb : StB ((w.alloc (.cells #[.int .i64 k, .slice sa S.length sc, .int .u64 l0, .int .u64 l1, .int .u64 l2, .int .u64 l3, .slice oa O.length oc] 38)).alloc (.cells #[.int .i64 0, .slice none 0 0, .int .u64 0, .int .u64 0, .int .u64 0, .int .u64 0, .slice none 0 0] 38)) w.heap.size ⟨k, S, l0, l1, l2, l3, O, fu⟩ (.slice sa S.length sc) (.slice oa O.length oc) := StB.touch (⟨heap_alloc_new w _⟩ : StB (w.alloc (.cells #[.int .i64 k, .slice sa S.length sc, .int .u64 l0, .int .u64 l1, .int .u64 l2, .int .u64 l3, .slice oa O.length oc] 38)) w.heap.size ⟨k, S, l0, l1, l2, l3, O, fu⟩ (.slice sa S.length sc) (.slice oa O.length oc)) ((Touch.refl _ []).alloc _) (by simp)
  have hQr : StB ((w.alloc (.cells #[.int .i64 k, .slice sa S.length sc, .int .u64 l0, .int .u64 l1, .int .u64 l2, .int .u64 l3, .slice oa O.length oc] 38)).alloc (.cells #[.int .i64 0, .slice none 0 0, .int .u64 0, .int .u64 0, .int .u64 0, .int .u64 0, .slice none 0 0] 38)) (w.heap.size + 1) zWD (.slice none 0 0) (.slice none 0 0) := ⟨by
    have := heap_alloc_new (w.alloc (.cells #[.int .i64 k, .slice sa S.length sc, .int .u64 l0, .int .u64 l1, .int .u64 l2, .int .u64 l3, .slice oa O.length oc] 38)) (.cells #[.int .i64 0, .slice none 0 0, .int .u64 0, .int .u64 0, .int .u64 0, .int .u64 0, .slice none 0 0] 38)
    simpa using this⟩
  have tQ : Touch w ((w.alloc (.cells #[.int .i64 k, .slice sa S.length sc, .int .u64 l0, .int .u64 l1, .int .u64 l2, .int .u64 l3, .slice oa O.length oc] 38)).alloc (.cells #[.int .i64 0, .slice none 0 0, .int .u64 0, .int .u64 0, .int .u64 0, .int .u64 0, .slice none 0 0] 38)) [] := ((Touch.refl w []).alloc _).alloc _
  have hQs : ((w.alloc (.cells #[.int .i64 k, .slice sa S.length sc, .int .u64 l0, .int .u64 l1, .int .u64 l2, .int .u64 l3, .slice oa O.length oc] 38)).alloc (.cells #[.int .i64 0, .slice none 0 0, .int .u64 0, .int .u64 0, .int .u64 0, .int .u64 0, .slice none 0 0] 38)).heap.size = w.heap.size + 2 := by simp
  have HWF : Hid _ := hwf
  have hiw : InsD.Wf ⟨19, a, v⟩ := hi ▸ hwf _ (List.getElem_mem hk)
  have HRT : Hid (∀ W, HidC Tryd.prog 21 #[.agg #[.int .u8 19, .int .i64 a, .int .u64 v]] W fun e w' => e = .returned (.bool true) ∧ Touch W w' []) := fun W => ⟨by have := rrightI_any _ hiw W; rw [hri] at this; exact this⟩
  have HPL : Hid (∀ W, HidC Tryd.prog 42 #[.int .u8 19] W fun e w' => e = .returned (.bool true) ∧ W = w') := fun W => ⟨rplain_any 19 W⟩
  have HFT : Hid (∀ W, HidC Tryd.prog 40 #[.int .u8 19, .agg #[.int .i64 k, .slice sa S.length sc, .int .u64 l0, .int .u64 l1, .int .u64 l2, .int .u64 l3, .slice oa O.length oc]] W fun e w' => e = .returned (.int .i64 0) ∧ Touch W w' []) := fun W => ⟨by have := rfits_any (w := W) (vo := .slice oa O.length oc) (ao := sa) (cap := sc) (D := ⟨k, S, l0, l1, l2, l3, O, fu⟩) hsl 19; rw [if_pos hf] at this; exact this⟩
  have HCP : Hid (∀ W, Touch w W [] → HidC Tryd.prog 20 #[.agg #[.int .i64 k, .slice sa S.length sc, .int .u64 l0, .int .u64 l1, .int .u64 l2, .int .u64 l3, .slice oa O.length oc]] W (CopP W ⟨k, S, l0, l1, l2, l3, O, fu⟩)) := fun W t => ⟨rcopied_any (D := ⟨k, S, l0, l1, l2, l3, O, fu⟩) (SRow.keep hs t (by simp)) (SRow.keep ho t (by simp)) hsl hol⟩
  have HEF : Hid (∀ W, HidC Tryd.prog 43 #[.int .u8 19] W fun e w' => e = .returned (.tuple #[.int .i64 0, .int .i64 0]) ∧ W = w') := fun W => ⟨reff_any 19 W⟩
  obtain ⟨g, off, rfl, hg, c0, c1, c2⟩ := ins_cells hl k hk
  rw [hi] at c0 c1 c2
  simp only at c0 c1 c2
  have HI : Hid (∀ W, Touch w W [] → W.cell? ⟨g, off + k * 3, none⟩ = some (.int .u8 19) ∧ W.cell? ⟨g, off + k * 3 + 1, none⟩ = some (.int .i64 a) ∧ W.cell? ⟨g, off + k * 3 + 2, none⟩ = some (.int .u64 v)) := fun W t => ⟨(t.cell (p := ⟨g, _, none⟩) hg (by simp)).trans c0, (t.cell (p := ⟨g, _, none⟩) hg (by simp)).trans c1, (t.cell (p := ⟨g, _, none⟩) hg (by simp)).trans c2⟩
  have hk0 : (0 : Int) ≤ k := by omega
  have hk1 : (k : Int) < l.length := by omega
  obtain ⟨d0, d1, d2⟩ := HI.out _ tQ
  obtain ⟨x0, x1, x2, x3, x4, x5, x6⟩ := hQb.cells
  simp only at x0 x1 x2 x3 x4 x5 x6
  have HQB : Hid _ := hQb
  have HQR : Hid _ := hQr
  have HTQ : Hid _ := tQ
  have HQS : Hid _ := hQs
  have HSW : Hid _ := hsw
  have HSL : Hid (S.length ≤ 1000) := hsl
  have HOL : Hid (O.length ≤ 1000) := hol
  have HF : Hid _ := hf
  have HRI : Hid _ := hri
  clear hQb hQr tQ hQs hsw hsl hol hf hri hwf hiw hs ho hl hi c0 c1 c2 hg
  go_enter Tryd.func25, Tryd.ntmps25
  go_wp2_with fail
  generalize ((w.alloc (.cells #[.int .i64 k, .slice sa S.length sc, .int .u64 l0, .int .u64 l1, .int .u64 l2, .int .u64 l3, .slice oa O.length oc] 38)).alloc (.cells #[.int .i64 0, .slice none 0 0, .int .u64 0, .int .u64 0, .int .u64 0, .int .u64 0, .slice none 0 0] 38)) = Q at *
  go_wp2_with fail
  refine (HRT.out _).out.mono ?_
  rintro e w1 ⟨rfl, t1⟩
  have T1 : Touch w w1 [] := HTQ.out.trans t1 (by simp)
  have hb1 := HQB.out.touch t1 (by simp)
  have hr1 := HQR.out.touch t1 (by simp)
  have hsz1 : w.heap.size + 2 ≤ w1.heap.size := by have := t1.size; have := HQS.out; omega
  have tX : Touch w1 (w1.alloc (.cells #[.int .u8 19, .int .i64 a, .int .u64 v] 62)) [] := (Touch.refl w1 []).alloc _
  have hbX := hb1.touch tX (by simp)
  have HRX : Hid _ := hr1.touch tX (by simp)
  have HXX : Hid (IxB (w1.alloc (.cells #[.int .u8 19, .int .i64 a, .int .u64 v] 62)) w1.heap.size ⟨19, a, v⟩) := ⟨heap_alloc_new w1 _⟩
  have HTX : Hid _ := T1.trans tX (by simp)
  have HXS : Hid ((w1.alloc (.cells #[.int .u8 19, .int .i64 a, .int .u64 v] 62)).heap.size = w1.heap.size + 1) := by show _ = _; simp
  obtain ⟨m0, m1, m2⟩ := HXX.out.cells
  obtain ⟨y0, y1, y2, y3, y4, y5, y6⟩ := hbX.cells
  obtain ⟨z0, z1, z2, z3, z4, z5, z6⟩ := hb1.cells
  obtain ⟨e0, e1, e2⟩ := HI.out _ T1
  simp only at y0 y1 y2 y3 y4 y5 y6 z0 z1 z2 z3 z4 z5 z6 m0 m1 m2
  have HBX : Hid _ := hbX
  have HW1 : Hid _ := hsz1
  clear x0 x1 x2 x3 x4 x5 x6 d0 d1 d2 hb1 hr1 hbX tX T1 t1 HTQ HQB HQR HRT
  go_wp2_with fail
  refine (HPL.out _).out.mono ?_
  rintro e _ ⟨rfl, rfl⟩
  clear HPL
  go_wp2_with fail
  clear z0 z1 z2 z3 z4 z5 z6 e0 e1 e2
  generalize hX : w1.alloc (.cells #[.int .u8 19, .int .i64 a, .int .u64 v] 62) = X at *
  have hX' := hX
  clear hX hX'
  refine (HFT.out _).out.mono ?_
  rintro e w2 ⟨rfl, t2⟩
  clear HFT
  have T2 : Touch w w2 [] := HTX.out.trans t2 (by simp)
  have hb2 := HBX.out.touch t2 (by simp)
  obtain ⟨z0, z1, z2, z3, z4, z5, z6⟩ := hb2.cells
  have HCP2 : HidC _ _ _ _ _ := HCP.out w2 T2
  have HB2 : Hid _ := hb2
  have HR2 : Hid _ := HRX.out.touch t2 (by simp)
  have HX2 : Hid _ := HXX.out.touch t2 (by simp)
  have HT2 : Hid _ := T2
  have HS2 : Hid (w1.heap.size + 1 ≤ w2.heap.size) := by show _ ≤ _; have := t2.size; have := HXS.out; omega
  clear y0 y1 y2 y3 y4 y5 y6 m0 m1 m2 HBX HRX HXX HTX HXS HCP t2 hb2 T2
  simp only at z0 z1 z2 z3 z4 z5 z6
  go_wp2_with fail
  refine HCP2.out.mono ?_
  rintro e w3 ⟨vs, vo, he3, o3, u3, n3, t3⟩
  have he3' : e = .returned (.agg #[.int .i64 k, vs, .int .u64 l0, .int .u64 l1, .int .u64 l2, .int .u64 l3, vo]) := he3
  subst he3'
  clear he3
  obtain ⟨va, vc, rfl⟩ := owns_slice o3
  obtain ⟨ua, uc, rfl⟩ := owns_slice u3
  clear HCP2 z0 z1 z2 z3 z4 z5 z6
  have hb3 := HB2.out.touch t3 (by simp)
  have hsz3 := t3.size
  have HTH : Hid _ := st_there hb3
  have HM : Hid (∀ W4, W4 = w3.setCells w.heap.size 0 (stA ⟨k, S, l0, l1, l2, l3, O, fu⟩ (.slice va S.length vc) (.slice ua O.length uc)).toList → StMid w W4 w.heap.size (w.heap.size + 1) w1.heap.size w2.heap.size ⟨k, S, l0, l1, l2, l3, O, fu⟩ ⟨19, a, v⟩ (.slice va S.length vc) (.slice ua O.length uc)) := fun W4 hW4 => by
    obtain ⟨g1, tp⟩ := st_sets hb3 ⟨k, S, l0, l1, l2, l3, O, fu⟩ (.slice va S.length vc) (.slice ua O.length uc) W4 hW4
    have h1 := HW1.out
    have h2 := HS2.out
    exact ⟨g1, (HR2.out.touch t3 (by simp)).touch tp (by simp), (HX2.out.touch t3 (by simp)).touch tp (by simp; omega), ownsRow_touch o3 tp (fun g hg hs => by have := own_ge o3 g hg; simp at hs; omega), ownsRow_touch u3 tp (fun g hg hs => by have := own_ge u3 g hg; simp at hs; omega), n3, (HT2.out.trans t3 (by simp)).trans tp (fun x hx => .inr (by simp at hx; omega)), Nat.le_refl _, by omega, by omega, by omega, by omega, by omega, by omega, by omega, Nat.le_trans hsz3 tp.size⟩
  clear hb3 hsz3 o3 u3 n3 t3 HB2 HR2 HX2 HT2 HW1 HS2
  go_wp2_with (refine wpList_store_mid rfl 38 _ _ rfl w.heap.size 0 (stA ⟨k, S, l0, l1, l2, l3, O, fu⟩ (.slice va S.length vc) (.slice ua O.length uc)) ?_ ?_ ?_ ?_ ?_ ?_; rfl; rfl; exact HTH.out; exact Tryd.size_state; exact st_one _ _ _ _ _ _ _; refine wpList_nameR fun W4 hW4 => ?_; have hm := HM.out W4 hW4; have HM4 : Hid _ := hm; obtain ⟨z0, z1, z2, z3, z4, z5, z6⟩ := hm.hb.cells; obtain ⟨m0, m1, m2⟩ := hm.hx.cells; simp only at z0 z1 z2 z3 z4 z5 z6 m0 m1 m2; have f0 := hm.hb.fr 0; have f1 := hm.hb.fr 1; clear hW4 hm HTH HM)
  refine (HEF.out _).out.mono ?_
  rintro e w5 ⟨rfl, rfl⟩
  clear HEF
  have hg1 : decide (a > (l.length : Int)) = false := decide_eq_false (by omega)
  have hwk : IntKind.i64.wrap ((k : Int) + 1) = (k : Int) + 1 := by rw [IntKind.wrap_i64]; omega
  have hfo := own_form HM4.out.hs
  have hn12 : S.length ≤ 1000 := HSL.out
  have hwm : IntKind.i64.wrap ((S.length : Int) - 0) = (S.length : Int) := by rw [IntKind.wrap_i64]; omega
  have HM7 : Hid (StMid w (((W4.setCell ⟨w.heap.size, 0, none⟩ (.int .i64 (k + 1))).setCell ⟨w.heap.size, 0, none⟩ (.int .i64 a)).setCell ⟨w.heap.size, 1, none⟩ (.slice va S.length vc)) w.heap.size (w.heap.size + 1) w1.heap.size w2.heap.size ⟨a, S, l0, l1, l2, l3, O, fu⟩ ⟨19, a, v⟩ (.slice va S.length vc) (.slice ua O.length uc)) := ((HM4.out.setp (k + 1)).setp a).newst (HM4.out.setp (k + 1) |>.setp a).hs (Touch.refl _ _) (fun g hg => .inl hg)
  have HTH : Hid _ := st_there HM7.out.hr
  have HP : Hid _ := HM7.out.fin
  clear HSL HF
  generalize S.length = n at *
  rcases hfo.2 with ⟨rfl, rfl, rfl⟩ | ⟨g2, rfl, hnc, hcm⟩
  · clear hfo
    go_wp2_with (refine wpList_store_mid rfl 38 _ _ rfl (w.heap.size + 1) 0 (stA ⟨a, S, l0, l1, l2, l3, O, fu⟩ (.slice none 0 0) (.slice ua O.length uc)) ?_ ?_ ?_ ?_ ?_ ?_; rfl; rfl; exact HTH.out; exact Tryd.size_state; exact st_one _ _ _ _ _ _ _; refine wpList_nameR fun W8 hW8 => ?_; have H8 : Hid _ := HP.out W8 hW8; clear hW8 HTH HP)
    obtain ⟨b8, r8⟩ := H8.out
    refine bodyPost_ret (v := .tuple #[stV ⟨a, S, l0, l1, l2, l3, O, fu⟩ (.slice none 0 0) (.slice ua O.length uc), .int .i64 0]) (res_cell_slot (v := stV ⟨a, S, l0, l1, l2, l3, O, fu⟩ (.slice none 0 0) (.slice ua O.length uc)) (a := ⟨w.heap.size + 1, 0, none⟩) Tryd.results25 _ _ _ rfl ?_) rfl r8
    obtain ⟨z0', z1', z2', z3', z4', z5', z6'⟩ := b8.cells
    simp [go_sem, z0', z1', z2', z3', z4', z5', z6']
  · clear hfo
    have hn0 : (0 : Int) ≤ n := by omega
    have hnc2 : (n : Int) ≤ vc := by omega
    by_cases hcc : vc = n
    · subst hcc
      go_wp2_with (refine wpList_store_mid rfl 38 _ _ rfl (w.heap.size + 1) 0 (stA ⟨a, S, l0, l1, l2, l3, O, fu⟩ (.slice (some ⟨g2, 0, none⟩) vc vc) (.slice ua O.length uc)) ?_ ?_ ?_ ?_ ?_ ?_; rfl; rfl; exact HTH.out; exact Tryd.size_state; exact st_one _ _ _ _ _ _ _; refine wpList_nameR fun W8 hW8 => ?_; have H8 : Hid _ := HP.out W8 hW8; clear hW8 HTH HP)
      obtain ⟨b8, r8⟩ := H8.out
      refine bodyPost_ret (v := .tuple #[stV ⟨a, S, l0, l1, l2, l3, O, fu⟩ (.slice (some ⟨g2, 0, none⟩) vc vc) (.slice ua O.length uc), .int .i64 0]) (res_cell_slot (v := stV ⟨a, S, l0, l1, l2, l3, O, fu⟩ (.slice (some ⟨g2, 0, none⟩) vc vc) (.slice ua O.length uc)) (a := ⟨w.heap.size + 1, 0, none⟩) Tryd.results25 _ _ _ rfl ?_) rfl r8
      obtain ⟨z0', z1', z2', z3', z4', z5', z6'⟩ := b8.cells
      simp [go_sem, z0', z1', z2', z3', z4', z5', z6']
    · skip
      go_wp2_with (refine wpList_store_mid rfl 38 _ _ rfl (w.heap.size + 1) 0 (stA ⟨a, S, l0, l1, l2, l3, O, fu⟩ (.slice (some ⟨g2, 0, none⟩) n vc) (.slice ua O.length uc)) ?_ ?_ ?_ ?_ ?_ ?_; rfl; rfl; exact HTH.out; exact Tryd.size_state; exact st_one _ _ _ _ _ _ _; refine wpList_nameR fun W8 hW8 => ?_; have H8 : Hid _ := HP.out W8 hW8; clear hW8 HTH HP)
      obtain ⟨b8, r8⟩ := H8.out
      refine bodyPost_ret (v := .tuple #[stV ⟨a, S, l0, l1, l2, l3, O, fu⟩ (.slice (some ⟨g2, 0, none⟩) n vc) (.slice ua O.length uc), .int .i64 0]) (res_cell_slot (v := stV ⟨a, S, l0, l1, l2, l3, O, fu⟩ (.slice (some ⟨g2, 0, none⟩) n vc) (.slice ua O.length uc)) (a := ⟨w.heap.size + 1, 0, none⟩) Tryd.results25 _ _ _ rfl ?_) rfl r8
      obtain ⟨z0', z1', z2', z3', z4', z5', z6'⟩ := b8.cells
      simp [go_sem, z0', z1', z2', z3', z4', z5', z6']

set_option maxRecDepth 100000 in
set_option maxHeartbeats 12000000 in
theorem rs_jno {w : World} {sa oa ap : Option Addr} {sc oc cp : Nat} {l : List InsD} {D : WD} (h : StIn w sa oa ap sc oc cp l D) {k : Nat} (hk : k < l.length) (hpc : D.pc = k) {a v : Int} (hi : l[k] = ⟨19, a, v⟩) (hri : rightI ⟨19, a, v⟩ = true) (hf : fitsW 19 D.st.length = true) (hin : ¬ a ≤ l.length) :
    Calls Tryd.prog 25 #[.slice ap l.length cp, stV D (.slice sa D.st.length sc) (.slice oa D.out.length oc)] w (StpP w (2, D)) := by
  obtain ⟨pc, S, l0, l1, l2, l3, O, fu⟩ := D
  simp only at hpc hf ⊢
  subst hpc
  obtain ⟨hs, ho, hl, hll, hsl, hol, hwf, hsw⟩ := h
  simp only at hs ho hsl hol hsw
  obtain ⟨D, hD⟩ : ∃ D : WD, D = ⟨k, S, l0, l1, l2, l3, O, fu⟩ := ⟨_, rfl⟩
  have hQb : StB ((w.alloc (.cells #[.int .i64 k, .slice sa S.length sc, .int .u64 l0, .int .u64 l1, .int .u64 l2, .int .u64 l3, .slice oa O.length oc] 38)).alloc (.cells #[.int .i64 0, .slice none 0 0, .int .u64 0, .int .u64 0, .int .u64 0, .int .u64 0, .slice none 0 0] 38)) w.heap.size ⟨k, S, l0, l1, l2, l3, O, fu⟩ (.slice sa S.length sc) (.slice oa O.length oc) := StB.touch (⟨heap_alloc_new w _⟩ : StB (w.alloc (.cells #[.int .i64 k, .slice sa S.length sc, .int .u64 l0, .int .u64 l1, .int .u64 l2, .int .u64 l3, .slice oa O.length oc] 38)) w.heap.size ⟨k, S, l0, l1, l2, l3, O, fu⟩ (.slice sa S.length sc) (.slice oa O.length oc)) ((Touch.refl _ []).alloc _) (by simp)
  have hQr : StB ((w.alloc (.cells #[.int .i64 k, .slice sa S.length sc, .int .u64 l0, .int .u64 l1, .int .u64 l2, .int .u64 l3, .slice oa O.length oc] 38)).alloc (.cells #[.int .i64 0, .slice none 0 0, .int .u64 0, .int .u64 0, .int .u64 0, .int .u64 0, .slice none 0 0] 38)) (w.heap.size + 1) zWD (.slice none 0 0) (.slice none 0 0) := ⟨by
    have := heap_alloc_new (w.alloc (.cells #[.int .i64 k, .slice sa S.length sc, .int .u64 l0, .int .u64 l1, .int .u64 l2, .int .u64 l3, .slice oa O.length oc] 38)) (.cells #[.int .i64 0, .slice none 0 0, .int .u64 0, .int .u64 0, .int .u64 0, .int .u64 0, .slice none 0 0] 38)
    simpa using this⟩
  have tQ : Touch w ((w.alloc (.cells #[.int .i64 k, .slice sa S.length sc, .int .u64 l0, .int .u64 l1, .int .u64 l2, .int .u64 l3, .slice oa O.length oc] 38)).alloc (.cells #[.int .i64 0, .slice none 0 0, .int .u64 0, .int .u64 0, .int .u64 0, .int .u64 0, .slice none 0 0] 38)) [] := ((Touch.refl w []).alloc _).alloc _
  have hQs : ((w.alloc (.cells #[.int .i64 k, .slice sa S.length sc, .int .u64 l0, .int .u64 l1, .int .u64 l2, .int .u64 l3, .slice oa O.length oc] 38)).alloc (.cells #[.int .i64 0, .slice none 0 0, .int .u64 0, .int .u64 0, .int .u64 0, .int .u64 0, .slice none 0 0] 38)).heap.size = w.heap.size + 2 := by simp
  have HWF : Hid _ := hwf
  have hiw : InsD.Wf ⟨19, a, v⟩ := hi ▸ hwf _ (List.getElem_mem hk)
  have HRT : Hid (∀ W, HidC Tryd.prog 21 #[.agg #[.int .u8 19, .int .i64 a, .int .u64 v]] W fun e w' => e = .returned (.bool true) ∧ Touch W w' []) := fun W => ⟨by have := rrightI_any _ hiw W; rw [hri] at this; exact this⟩
  have HPL : Hid (∀ W, HidC Tryd.prog 42 #[.int .u8 19] W fun e w' => e = .returned (.bool true) ∧ W = w') := fun W => ⟨rplain_any 19 W⟩
  have HFT : Hid (∀ W, HidC Tryd.prog 40 #[.int .u8 19, .agg #[.int .i64 k, .slice sa S.length sc, .int .u64 l0, .int .u64 l1, .int .u64 l2, .int .u64 l3, .slice oa O.length oc]] W fun e w' => e = .returned (.int .i64 0) ∧ Touch W w' []) := fun W => ⟨by have := rfits_any (w := W) (vo := .slice oa O.length oc) (ao := sa) (cap := sc) (D := ⟨k, S, l0, l1, l2, l3, O, fu⟩) hsl 19; rw [if_pos hf] at this; exact this⟩
  have HCP : Hid (∀ W, Touch w W [] → HidC Tryd.prog 20 #[.agg #[.int .i64 k, .slice sa S.length sc, .int .u64 l0, .int .u64 l1, .int .u64 l2, .int .u64 l3, .slice oa O.length oc]] W (CopP W ⟨k, S, l0, l1, l2, l3, O, fu⟩)) := fun W t => ⟨rcopied_any (D := ⟨k, S, l0, l1, l2, l3, O, fu⟩) (SRow.keep hs t (by simp)) (SRow.keep ho t (by simp)) hsl hol⟩
  have HEF : Hid (∀ W, HidC Tryd.prog 43 #[.int .u8 19] W fun e w' => e = .returned (.tuple #[.int .i64 0, .int .i64 0]) ∧ W = w') := fun W => ⟨reff_any 19 W⟩
  obtain ⟨g, off, rfl, hg, c0, c1, c2⟩ := ins_cells hl k hk
  rw [hi] at c0 c1 c2
  simp only at c0 c1 c2
  have HI : Hid (∀ W, Touch w W [] → W.cell? ⟨g, off + k * 3, none⟩ = some (.int .u8 19) ∧ W.cell? ⟨g, off + k * 3 + 1, none⟩ = some (.int .i64 a) ∧ W.cell? ⟨g, off + k * 3 + 2, none⟩ = some (.int .u64 v)) := fun W t => ⟨(t.cell (p := ⟨g, _, none⟩) hg (by simp)).trans c0, (t.cell (p := ⟨g, _, none⟩) hg (by simp)).trans c1, (t.cell (p := ⟨g, _, none⟩) hg (by simp)).trans c2⟩
  have hk0 : (0 : Int) ≤ k := by omega
  have hk1 : (k : Int) < l.length := by omega
  obtain ⟨d0, d1, d2⟩ := HI.out _ tQ
  obtain ⟨x0, x1, x2, x3, x4, x5, x6⟩ := hQb.cells
  simp only at x0 x1 x2 x3 x4 x5 x6
  have HQB : Hid _ := hQb
  have HQR : Hid _ := hQr
  have HTQ : Hid _ := tQ
  have HQS : Hid _ := hQs
  have HSW : Hid _ := hsw
  have HSL : Hid (S.length ≤ 1000) := hsl
  have HOL : Hid (O.length ≤ 1000) := hol
  have HF : Hid _ := hf
  have HRI : Hid _ := hri
  clear hQb hQr tQ hQs hsw hsl hol hf hri hwf hiw hs ho hl hi c0 c1 c2 hg
  go_enter Tryd.func25, Tryd.ntmps25
  go_wp2_with fail
  generalize ((w.alloc (.cells #[.int .i64 k, .slice sa S.length sc, .int .u64 l0, .int .u64 l1, .int .u64 l2, .int .u64 l3, .slice oa O.length oc] 38)).alloc (.cells #[.int .i64 0, .slice none 0 0, .int .u64 0, .int .u64 0, .int .u64 0, .int .u64 0, .slice none 0 0] 38)) = Q at *
  go_wp2_with fail
  refine (HRT.out _).out.mono ?_
  rintro e w1 ⟨rfl, t1⟩
  have T1 : Touch w w1 [] := HTQ.out.trans t1 (by simp)
  have hb1 := HQB.out.touch t1 (by simp)
  have hr1 := HQR.out.touch t1 (by simp)
  have hsz1 : w.heap.size + 2 ≤ w1.heap.size := by have := t1.size; have := HQS.out; omega
  have tX : Touch w1 (w1.alloc (.cells #[.int .u8 19, .int .i64 a, .int .u64 v] 62)) [] := (Touch.refl w1 []).alloc _
  have hbX := hb1.touch tX (by simp)
  have HRX : Hid _ := hr1.touch tX (by simp)
  have HXX : Hid (IxB (w1.alloc (.cells #[.int .u8 19, .int .i64 a, .int .u64 v] 62)) w1.heap.size ⟨19, a, v⟩) := ⟨heap_alloc_new w1 _⟩
  have HTX : Hid _ := T1.trans tX (by simp)
  have HXS : Hid ((w1.alloc (.cells #[.int .u8 19, .int .i64 a, .int .u64 v] 62)).heap.size = w1.heap.size + 1) := by show _ = _; simp
  obtain ⟨m0, m1, m2⟩ := HXX.out.cells
  obtain ⟨y0, y1, y2, y3, y4, y5, y6⟩ := hbX.cells
  obtain ⟨z0, z1, z2, z3, z4, z5, z6⟩ := hb1.cells
  obtain ⟨e0, e1, e2⟩ := HI.out _ T1
  simp only at y0 y1 y2 y3 y4 y5 y6 z0 z1 z2 z3 z4 z5 z6 m0 m1 m2
  have HBX : Hid _ := hbX
  have HW1 : Hid _ := hsz1
  clear x0 x1 x2 x3 x4 x5 x6 d0 d1 d2 hb1 hr1 hbX tX T1 t1 HTQ HQB HQR HRT
  go_wp2_with fail
  refine (HPL.out _).out.mono ?_
  rintro e _ ⟨rfl, rfl⟩
  clear HPL
  go_wp2_with fail
  clear z0 z1 z2 z3 z4 z5 z6 e0 e1 e2
  generalize hX : w1.alloc (.cells #[.int .u8 19, .int .i64 a, .int .u64 v] 62) = X at *
  have hX' := hX
  clear hX hX'
  refine (HFT.out _).out.mono ?_
  rintro e w2 ⟨rfl, t2⟩
  clear HFT
  have T2 : Touch w w2 [] := HTX.out.trans t2 (by simp)
  have hb2 := HBX.out.touch t2 (by simp)
  obtain ⟨z0, z1, z2, z3, z4, z5, z6⟩ := hb2.cells
  have HCP2 : HidC _ _ _ _ _ := HCP.out w2 T2
  have HB2 : Hid _ := hb2
  have HR2 : Hid _ := HRX.out.touch t2 (by simp)
  have HX2 : Hid _ := HXX.out.touch t2 (by simp)
  have HT2 : Hid _ := T2
  have HS2 : Hid (w1.heap.size + 1 ≤ w2.heap.size) := by show _ ≤ _; have := t2.size; have := HXS.out; omega
  clear y0 y1 y2 y3 y4 y5 y6 m0 m1 m2 HBX HRX HXX HTX HXS HCP t2 hb2 T2
  simp only at z0 z1 z2 z3 z4 z5 z6
  go_wp2_with fail
  refine HCP2.out.mono ?_
  rintro e w3 ⟨vs, vo, he3, o3, u3, n3, t3⟩
  have he3' : e = .returned (.agg #[.int .i64 k, vs, .int .u64 l0, .int .u64 l1, .int .u64 l2, .int .u64 l3, vo]) := he3
  subst he3'
  clear he3
  obtain ⟨va, vc, rfl⟩ := owns_slice o3
  obtain ⟨ua, uc, rfl⟩ := owns_slice u3
  clear HCP2 z0 z1 z2 z3 z4 z5 z6
  have hb3 := HB2.out.touch t3 (by simp)
  have hsz3 := t3.size
  have HTH : Hid _ := st_there hb3
  have HM : Hid (∀ W4, W4 = w3.setCells w.heap.size 0 (stA ⟨k, S, l0, l1, l2, l3, O, fu⟩ (.slice va S.length vc) (.slice ua O.length uc)).toList → StMid w W4 w.heap.size (w.heap.size + 1) w1.heap.size w2.heap.size ⟨k, S, l0, l1, l2, l3, O, fu⟩ ⟨19, a, v⟩ (.slice va S.length vc) (.slice ua O.length uc)) := fun W4 hW4 => by
    obtain ⟨g1, tp⟩ := st_sets hb3 ⟨k, S, l0, l1, l2, l3, O, fu⟩ (.slice va S.length vc) (.slice ua O.length uc) W4 hW4
    have h1 := HW1.out
    have h2 := HS2.out
    exact ⟨g1, (HR2.out.touch t3 (by simp)).touch tp (by simp), (HX2.out.touch t3 (by simp)).touch tp (by simp; omega), ownsRow_touch o3 tp (fun g hg hs => by have := own_ge o3 g hg; simp at hs; omega), ownsRow_touch u3 tp (fun g hg hs => by have := own_ge u3 g hg; simp at hs; omega), n3, (HT2.out.trans t3 (by simp)).trans tp (fun x hx => .inr (by simp at hx; omega)), Nat.le_refl _, by omega, by omega, by omega, by omega, by omega, by omega, by omega, Nat.le_trans hsz3 tp.size⟩
  clear hb3 hsz3 o3 u3 n3 t3 HB2 HR2 HX2 HT2 HW1 HS2
  go_wp2_with (refine wpList_store_mid rfl 38 _ _ rfl w.heap.size 0 (stA ⟨k, S, l0, l1, l2, l3, O, fu⟩ (.slice va S.length vc) (.slice ua O.length uc)) ?_ ?_ ?_ ?_ ?_ ?_; rfl; rfl; exact HTH.out; exact Tryd.size_state; exact st_one _ _ _ _ _ _ _; refine wpList_nameR fun W4 hW4 => ?_; have hm := HM.out W4 hW4; have HM4 : Hid _ := hm; obtain ⟨z0, z1, z2, z3, z4, z5, z6⟩ := hm.hb.cells; obtain ⟨m0, m1, m2⟩ := hm.hx.cells; simp only at z0 z1 z2 z3 z4 z5 z6 m0 m1 m2; have f0 := hm.hb.fr 0; have f1 := hm.hb.fr 1; clear hW4 hm HTH HM)
  refine (HEF.out _).out.mono ?_
  rintro e w5 ⟨rfl, rfl⟩
  clear HEF
  have hg1 : decide (a > (l.length : Int)) = true := decide_eq_true (by omega)
  have hwk : IntKind.i64.wrap ((k : Int) + 1) = (k : Int) + 1 := by rw [IntKind.wrap_i64]; omega
  have hfo := own_form HM4.out.hs
  have hn12 : S.length ≤ 1000 := HSL.out
  have hwm : IntKind.i64.wrap ((S.length : Int) - 0) = (S.length : Int) := by rw [IntKind.wrap_i64]; omega
  have HM5 : Hid _ := HM4.out.setp (k + 1)
  simp only at HM5
  have HTH : Hid _ := st_there HM5.out.hr
  have HP : Hid _ := HM5.out.bad 2 (by decide) ⟨k, S, l0, l1, l2, l3, O, fu⟩
  clear HSL HF
  generalize S.length = n at *
  rcases hfo.2 with ⟨rfl, rfl, rfl⟩ | ⟨g2, rfl, hnc, hcm⟩
  · clear hfo
    go_wp2_with (refine wpList_store_mid rfl 38 _ _ rfl (w.heap.size + 1) 0 (stA zWD (.slice none 0 0) (.slice none 0 0)) ?_ ?_ ?_ ?_ ?_ ?_; rfl; rfl; exact HTH.out; exact Tryd.size_state; exact st_one _ _ _ _ _ _ _; refine wpList_nameR fun W8 hW8 => ?_; have H8 : Hid _ := HP.out W8 hW8; clear hW8 HTH HP)
    obtain ⟨b8, r8⟩ := H8.out
    refine bodyPost_ret (v := .tuple #[stV zWD (.slice none 0 0) (.slice none 0 0), .int .i64 2]) (res_cell_slot (v := stV zWD (.slice none 0 0) (.slice none 0 0)) (a := ⟨w.heap.size + 1, 0, none⟩) Tryd.results25 _ _ _ rfl ?_) rfl r8
    obtain ⟨z0', z1', z2', z3', z4', z5', z6'⟩ := b8.cells
    simp [go_sem, z0', z1', z2', z3', z4', z5', z6']
  · clear hfo
    have hn0 : (0 : Int) ≤ n := by omega
    have hnc2 : (n : Int) ≤ vc := by omega
    by_cases hcc : vc = n
    · subst hcc
      go_wp2_with (refine wpList_store_mid rfl 38 _ _ rfl (w.heap.size + 1) 0 (stA zWD (.slice none 0 0) (.slice none 0 0)) ?_ ?_ ?_ ?_ ?_ ?_; rfl; rfl; exact HTH.out; exact Tryd.size_state; exact st_one _ _ _ _ _ _ _; refine wpList_nameR fun W8 hW8 => ?_; have H8 : Hid _ := HP.out W8 hW8; clear hW8 HTH HP)
      obtain ⟨b8, r8⟩ := H8.out
      refine bodyPost_ret (v := .tuple #[stV zWD (.slice none 0 0) (.slice none 0 0), .int .i64 2]) (res_cell_slot (v := stV zWD (.slice none 0 0) (.slice none 0 0)) (a := ⟨w.heap.size + 1, 0, none⟩) Tryd.results25 _ _ _ rfl ?_) rfl r8
      obtain ⟨z0', z1', z2', z3', z4', z5', z6'⟩ := b8.cells
      simp [go_sem, z0', z1', z2', z3', z4', z5', z6']
    · skip
      go_wp2_with (refine wpList_store_mid rfl 38 _ _ rfl (w.heap.size + 1) 0 (stA zWD (.slice none 0 0) (.slice none 0 0)) ?_ ?_ ?_ ?_ ?_ ?_; rfl; rfl; exact HTH.out; exact Tryd.size_state; exact st_one _ _ _ _ _ _ _; refine wpList_nameR fun W8 hW8 => ?_; have H8 : Hid _ := HP.out W8 hW8; clear hW8 HTH HP)
      obtain ⟨b8, r8⟩ := H8.out
      refine bodyPost_ret (v := .tuple #[stV zWD (.slice none 0 0) (.slice none 0 0), .int .i64 2]) (res_cell_slot (v := stV zWD (.slice none 0 0) (.slice none 0 0)) (a := ⟨w.heap.size + 1, 0, none⟩) Tryd.results25 _ _ _ rfl ?_) rfl r8
      obtain ⟨z0', z1', z2', z3', z4', z5', z6'⟩ := b8.cells
      simp [go_sem, z0', z1', z2', z3', z4', z5', z6']

end Go.Proofs.YtkpgfchglaemgaaDoor
