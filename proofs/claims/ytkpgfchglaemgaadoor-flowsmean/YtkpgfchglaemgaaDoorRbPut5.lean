/-
  package spec, the document's: touch BY ITS CONTRACT, some arms.
-/
import Derived.Test.YtkpgfchglaemgaaDoorRbBase
namespace Go.Proofs.YtkpgfchglaemgaaDoor
set_option linter.unusedVariables false
set_option linter.unusedSimpArgs false
open Go.RowKit
attribute [local go_sem] Oper.semAt_some

set_option maxRecDepth 100000 in
set_option maxHeartbeats 12000000 in
theorem rt_put5 {w : World} {sa oa ha : Option Addr} {sc oc hc : Nat} {D : WD} {h : List Int} (T : TIn w sa oa ha sc oc hc D h) {v : Int} {j q : Nat} (hj : j < h.length) (hjm : j ≤ 1000) (hq : q + 1 = D.st.length) (hf : fitsW 5 D.st.length = true) :
    Calls Tryd.prog 24 #[.agg #[.int .u8 5, .int .i64 (j : Int), .int .u64 v], stV D (.slice sa D.st.length sc) (.slice oa D.out.length oc), .slice ha h.length hc] w (TchP w (.slice ha h.length hc) 0 { D with st := D.st.take q, pc := D.pc + 1 } (h.set j (D.st.getD q 0))) := by
  obtain ⟨pc, S, l0, l1, l2, l3, O, fu⟩ := D
  obtain ⟨hs, ho, hh, hsl, hol, hhl, hsw, hp0, hp1⟩ := T
  simp only at hs ho hsl hol hsw hp0 hp1 ⊢
  obtain ⟨Q, hQ⟩ : ∃ Q, Q = ((w.alloc (.cells #[.int .u8 5, .int .i64 (j : Int), .int .u64 v] 62)).alloc (.cells #[.int .i64 pc, .slice sa S.length sc, .int .u64 l0, .int .u64 l1, .int .u64 l2, .int .u64 l3, .slice oa O.length oc] 38)).alloc (.cells #[.int .i64 0, .slice none 0 0, .int .u64 0, .int .u64 0, .int .u64 0, .int .u64 0, .slice none 0 0] 38) := ⟨_, rfl⟩
  obtain ⟨qx, qb, qr, qt, qs⟩ := tch_Q w ⟨5, (j : Int), v⟩ ⟨pc, S, l0, l1, l2, l3, O, fu⟩ (.slice sa S.length sc) (.slice oa O.length oc) Q hQ
  have HQ : Hid (((w.alloc (.cells #[.int .u8 5, .int .i64 (j : Int), .int .u64 v] 62)).alloc (.cells #[.int .i64 pc, .slice sa S.length sc, .int .u64 l0, .int .u64 l1, .int .u64 l2, .int .u64 l3, .slice oa O.length oc] 38)).alloc (.cells #[.int .i64 0, .slice none 0 0, .int .u64 0, .int .u64 0, .int .u64 0, .int .u64 0, .slice none 0 0] 38) = Q) := hQ.symm
  clear hQ
  obtain ⟨x0, x1, x2, x3, x4, x5, x6⟩ := qb.cells
  obtain ⟨m0, m1, m2⟩ := qx.cells
  simp only at x0 x1 x2 x3 x4 x5 x6 m0 m1 m2
  have HQB : Hid _ := qb
  have HQR : Hid _ := qr
  have HQX : Hid _ := qx
  have HTQ : Hid _ := qt
  have HQS : Hid _ := qs
  have HSW : Hid _ := hsw
  have HSL : Hid (S.length ≤ 1000) := hsl
  have HOL : Hid (O.length ≤ 1000) := hol
  have HHL : Hid (h.length ≤ 1000) := hhl
  have HHR : Hid _ := hh
  have HCP : Hid (∀ W, Touch w W [] → HidC Tryd.prog 20 #[.agg #[.int .i64 pc, .slice sa S.length sc, .int .u64 l0, .int .u64 l1, .int .u64 l2, .int .u64 l3, .slice oa O.length oc]] W (CopP W ⟨pc, S, l0, l1, l2, l3, O, fu⟩)) := fun W t => ⟨rcopied_any (D := ⟨pc, S, l0, l1, l2, l3, O, fu⟩) (SRow.keep hs t (by simp)) (SRow.keep ho t (by simp)) hsl hol⟩
  have HFT : Hid (∀ W, HidC Tryd.prog 40 #[.int .u8 5, .agg #[.int .i64 pc, .slice sa S.length sc, .int .u64 l0, .int .u64 l1, .int .u64 l2, .int .u64 l3, .slice oa O.length oc]] W fun e w' => e = .returned (.int .i64 0) ∧ Touch W w' []) := fun W => ⟨by have := rfits_any (w := W) (vo := .slice oa O.length oc) (ao := sa) (cap := sc) (D := ⟨pc, S, l0, l1, l2, l3, O, fu⟩) hsl 5; rw [if_pos hf] at this; exact this⟩
  simp only at hq
  have hwv : Wf64 0 := ⟨by decide, by decide⟩
  have HIX : Hid (∀ W, HidC Tryd.prog 41 #[.int .i64 (j : Int), .int .u64 0, .int .i64 h.length] W fun e w' => e = .returned (.tuple #[.int .i64 (j : Int), .int .i64 0]) ∧ W = w') := fun W => ⟨by
    have := rindex_any (j : Int) 0 hwv h.length (by omega) hhl W
    rw [show rIdx (j : Int) 0 h.length = some (j : Int) by unfold rIdx; rw [if_pos (by decide +kernel), show (wholeV (ofB (0 : Int).toNat)).1 = 0 by decide +kernel, Int.add_zero, if_pos (by omega)]] at this
    exact this⟩
  have HQQ : Hid (q + 1 = S.length) := hq
  obtain ⟨Y, hY⟩ : ∃ Y, Y = S.getD q 0 := ⟨_, rfl⟩
  rw [← hY]
  have HYY : Hid (Y = S.getD q 0) := hY
  have HJ : Hid (j < h.length) := hj
  have HF0 : Hid _ := hf
  have hj0 : (0 : Int) ≤ j := by omega
  have hj1 : (j : Int) < h.length := by omega
  clear hwv hY hf hj hq
  clear qb qr qx qt qs hsw hsl hol hhl hs ho hh
  go_enter Tryd.func24, Tryd.ntmps24
  go_wp2_with fail
  rw [HQ.out]
  clear HQ
  go_wp2_with fail
  refine (HFT.out _).out.mono ?_
  rintro e w2 ⟨rfl, t2⟩
  clear HFT x0 x1 x2 x3 x4 x5 x6 m0 m1 m2
  have T2 : Touch w w2 [] := HTQ.out.trans t2 (by simp)
  have hb2 := HQB.out.touch t2 (by simp)
  obtain ⟨z0, z1, z2, z3, z4, z5, z6⟩ := hb2.cells
  simp only at z0 z1 z2 z3 z4 z5 z6
  have HCP2 : HidC _ _ _ _ _ := HCP.out w2 T2
  have HB2 : Hid _ := hb2
  have HR2 : Hid _ := HQR.out.touch t2 (by simp)
  have HX2 : Hid _ := HQX.out.touch t2 (by simp)
  have HT2 : Hid _ := T2
  have HS2 : Hid (w.heap.size + 3 ≤ w2.heap.size) := by show _ ≤ _; have := t2.size; have := HQS.out; omega
  clear HCP t2 hb2 T2 HQB HQR HQX HTQ HQS
  go_wp2_with fail
  refine HCP2.out.mono ?_
  rintro e w3 ⟨vs, vo, he3, o3, u3, n3, t3⟩
  have he3' : e = .returned (.agg #[.int .i64 pc, vs, .int .u64 l0, .int .u64 l1, .int .u64 l2, .int .u64 l3, vo]) := he3
  subst he3'
  clear he3
  obtain ⟨va, vc, rfl⟩ := owns_slice o3
  obtain ⟨ua, uc, rfl⟩ := owns_slice u3
  clear HCP2 z0 z1 z2 z3 z4 z5 z6
  have hb3 := HB2.out.touch t3 (by simp)
  have hsz3 := t3.size
  have HTH : Hid _ := st_there hb3
  have HM : Hid (∀ W4, W4 = w3.setCells (w.heap.size + 1) 0 (stA ⟨pc, S, l0, l1, l2, l3, O, fu⟩ (.slice va S.length vc) (.slice ua O.length uc)).toList → StMid w W4 (w.heap.size + 1) (w.heap.size + 2) w.heap.size w2.heap.size ⟨pc, S, l0, l1, l2, l3, O, fu⟩ ⟨5, (j : Int), v⟩ (.slice va S.length vc) (.slice ua O.length uc)) := fun W4 hW4 => by
    obtain ⟨g1, tp⟩ := st_sets hb3 ⟨pc, S, l0, l1, l2, l3, O, fu⟩ (.slice va S.length vc) (.slice ua O.length uc) W4 hW4
    have h2 := HS2.out
    exact ⟨g1, (HR2.out.touch t3 (by simp)).touch tp (by simp), (HX2.out.touch t3 (by simp)).touch tp (by simp), ownsRow_touch o3 tp (fun g hg hs => by have := own_ge o3 g hg; simp at hs; omega), ownsRow_touch u3 tp (fun g hg hs => by have := own_ge u3 g hg; simp at hs; omega), n3, (HT2.out.trans t3 (by simp)).trans tp (fun x hx => .inr (by simp at hx; omega)), by omega, by omega, by omega, by omega, by omega, by omega, by omega, by omega, Nat.le_trans hsz3 tp.size⟩
  have hfo := own_form o3
  simp only at hfo
  obtain ⟨g2, rfl, hnc, hcm⟩ : ∃ g, va = some ⟨g, 0, none⟩ ∧ S.length ≤ vc ∧ vc ≤ 9223372036854775807 := by
    have := HQQ.out
    rcases hfo.2 with ⟨rfl, h0, rfl⟩ | ⟨g2, rfl, hnc, hcm⟩
    · omega
    · exact ⟨g2, rfl, hnc, hcm⟩
  have hq1 := HQQ.out
  have hnc2 : (S.length : Int) ≤ vc := by omega
  have hq0 : (0 : Int) ≤ q := by omega
  have hqn : (q : Int) < S.length := by omega
  have hsl' := HSL.out
  have hwm : IntKind.i64.wrap ((S.length : Int) - 1) = (q : Int) := by rw [IntKind.wrap_i64]; omega
  have hwm2 : IntKind.i64.wrap ((q : Int) + 1 - 1) = (q : Int) := by rw [IntKind.wrap_i64]; omega
  have hqn2 : (q : Int) + 1 ≤ S.length := by omega
  have hq00 : (0 : Int) ≤ (q : Int) + 1 := by omega
  have htn : ((q : Int) + 1).toNat = q + 1 := by omega
  have hql2 : (q : Int) ≤ vc := by omega

  clear hb3 hsz3 o3 u3 n3 t3 HB2 HR2 HX2 HT2
  go_wp2_with (refine wpList_store_mid rfl 38 _ _ rfl (w.heap.size + 1) 0 (stA ⟨pc, S, l0, l1, l2, l3, O, fu⟩ (.slice (some ⟨g2, 0, none⟩) S.length vc) (.slice ua O.length uc)) ?_ ?_ ?_ ?_ ?_ ?_; rfl; rfl; exact HTH.out; exact Tryd.size_state; exact st_one _ _ _ _ _ _ _; refine wpList_nameR fun W4 hW4 => ?_; have hm := HM.out W4 hW4; have HM4 : Hid _ := hm; obtain ⟨z0, z1, z2, z3, z4, z5, z6⟩ := hm.hb.cells; obtain ⟨m0, m1, m2⟩ := hm.hx.cells; simp only at z0 z1 z2 z3 z4 z5 z6 m0 m1 m2; have f0 := hm.hb.fr 0; have f1 := hm.hb.fr 1; clear hW4 hm HTH HM)
  refine (HIX.out _).out.mono ?_
  rintro e w5 ⟨rfl, rfl⟩
  clear HIX
  have hwk : IntKind.i64.wrap (pc + 1) = pc + 1 := by rw [IntKind.wrap_i64]; omega
  have hN : w.heap.size + 3 ≤ w2.heap.size := HS2.out
  obtain ⟨W5, hW5⟩ : ∃ W, W = W4.setCell ⟨w.heap.size + 1, 0, none⟩ (.int .i64 (pc + 1)) := ⟨_, rfl⟩
  have HM5 : Hid (StMid w W5 (w.heap.size + 1) (w.heap.size + 2) w.heap.size w2.heap.size ⟨pc + 1, S, l0, l1, l2, l3, O, fu⟩ ⟨5, (j : Int), v⟩ (.slice (some ⟨g2, 0, none⟩) S.length vc) (.slice ua O.length uc)) := by rw [hW5]; exact HM4.out.setp (pc + 1)
  have HW5 : Hid (W4.setCell ⟨w.heap.size + 1, 0, none⟩ (.int .i64 (pc + 1)) = W5) := hW5.symm
  clear hW5
  have hs5 : W5.heap.size = W4.heap.size := by rw [← HW5.out]; simp
  -- the heap anew
  have hrow : VRow W5 (.slice ha h.length hc) h := SRow.keep HHR.out HM5.out.t (by simp)
  obtain ⟨aH, cH, w6, rH, oH, tH⟩ := app_new hrow HHL.out
  obtain ⟨gh, rfl, hgc, hgm⟩ : ∃ g, aH = some ⟨g, 0, none⟩ ∧ h.length ≤ cH ∧ cH ≤ 9223372036854775807 := by
    have := HJ.out
    rcases (own_form oH).2 with ⟨rfl, h0, rfl⟩ | ⟨g2, rfl, hnc, hcm⟩
    · omega
    · exact ⟨g2, rfl, hnc, hcm⟩
  have hm6 := HM5.out.touch tH
  have hgc2 : (h.length : Int) ≤ cH := by omega
  have hge := own_ge oH gh rfl
  have hBW := HM5.out.BW
  have y1 := hm6.hb.cells.2.1
  have yY : w6.cell? ⟨g2, q, none⟩ = some (.int .u64 Y) := by rw [HYY.out]; exact own_at hm6.hs q (by omega)
  have yh : w6.cell? ⟨gh, j, none⟩ = some (.int .u64 (h.getD j 0)) := own_at oH j HJ.out
  have yf : w6.frozen? ⟨gh, j, none⟩ = false := World.ownsRow.frozenAt oH j
  obtain ⟨W7, hW7⟩ : ∃ W, W = w6.setCell ⟨gh, j, none⟩ (.int .u64 Y) := ⟨_, rfl⟩
  have t7 : Touch w6 W7 [gh] := by rw [hW7]; exact (Touch.refl w6 [gh]).setCell (.inl (by simp)) _
  have o7 : valOwn W7 W5.heap.size (.slice (some ⟨gh, 0, none⟩) h.length cH) (h.set j Y) := by
    have := (World.ownsRow.stored oH j (.int .u64 Y)).1
    rw [hW7]
    rw [← List.map_set] at this
    show World.ownsRow _ _ _ _ _ (h.set j Y).length _
    rw [List.length_set]
    exact this
  have T7 : Touch W5 W7 [] := tH.trans t7 (fun x hx => .inr (by simp at hx; omega))
  have hm7 := HM5.out.touch T7
  have y7 := hm7.hb.cells.2.1
  have f7 := hm7.hb.fr 1
  have hm8 := hm7.low q (by omega)
  have t8 : Touch W7 (W7.setCell ⟨w.heap.size + 1, 1, none⟩ (.slice (some ⟨g2, 0, none⟩) q vc)) [w.heap.size + 1] := (Touch.refl W7 [w.heap.size + 1]).setCell (.inl (by simp)) _
  have o8 : VRow (W7.setCell ⟨w.heap.size + 1, 1, none⟩ (.slice (some ⟨g2, 0, none⟩) q vc)) (.slice (some ⟨gh, 0, none⟩) (h.set j Y).length cH) (h.set j Y) := by
    rw [List.length_set]
    exact vrow_of (ownsRow_touch o7 t8 (fun g hg hs => by simp [Value.ownBlock] at hg; simp at hs; omega))
  have hfin := StMid.finT (vh := .slice ha h.length hc) hm8 o8 (fun g hg => by simp [Value.ownBlock] at hg; exact ⟨by omega, .inl (by omega)⟩)
  rw [List.length_set] at hfin
  have HTH : Hid _ := st_there hm8.hr
  have HP : Hid _ := hfin
  obtain ⟨p0, p1, p2, p3, p4, p5, p6⟩ := hm6.hb.cells
  simp only at p0 p1 p2 p3 p4 p5 p6
  have p7 := hm6.hb.fr 1
  have hge2 : gh ≠ w.heap.size + 1 := by omega
  have hge3 : w.heap.size + 1 ≠ gh := by omega
  subst hW7
  rw [hs5] at rH
  rw [← HW5.out] at rH
  clear y7 f7 y1 hrow tH oH hm6 hge hBW t7 o7 T7 hm7 hm8 t8 o8 hfin HM5 HSL HF0 HQQ hfo hs5 HW5
  generalize S.length = n at *
  go_wp2_with first | (at_builtin; refine Lib.wpList_append_run _ rfl (.tmp 86) (.tmp 87) _ _ rfl _ _ rfl rfl _ _ rH ?_) | (refine wpList_store_mid rfl 38 _ _ rfl (w.heap.size + 2) 0 (stA ⟨pc + 1, S.take q, l0, l1, l2, l3, O, fu⟩ (.slice (some ⟨g2, 0, none⟩) q vc) (.slice ua O.length uc)) ?_ ?_ ?_ ?_ ?_ ?_; rfl; rfl; exact HTH.out; exact Tryd.size_state; exact st_one _ _ _ _ _ _ _; refine wpList_nameR fun W8 hW8 => ?_; have H8 : Hid _ := HP.out W8 hW8; clear hW8 HTH HP p0 p1 p2 p3 p4 p5 p6)
  obtain ⟨b8, r8⟩ := H8.out
  refine bodyPost_ret (v := .tuple #[stV ⟨pc + 1, S.take q, l0, l1, l2, l3, O, fu⟩ (.slice (some ⟨g2, 0, none⟩) q vc) (.slice ua O.length uc), .slice (some ⟨gh, 0, none⟩) h.length cH, .int .i64 0]) (res_cell_slot2 (v := stV ⟨pc + 1, S.take q, l0, l1, l2, l3, O, fu⟩ (.slice (some ⟨g2, 0, none⟩) q vc) (.slice ua O.length uc)) (a := ⟨w.heap.size + 2, 0, none⟩) Tryd.results24 _ _ _ rfl ?_) rfl r8
  obtain ⟨z0', z1', z2', z3', z4', z5', z6'⟩ := b8.cells
  simp [go_sem, z0', z1', z2', z3', z4', z5', z6']

end Go.Proofs.YtkpgfchglaemgaaDoor
