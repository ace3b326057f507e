/-
  package spec, the document's: touch BY ITS CONTRACT, some arms.
-/
import Derived.Test.YtkpgfchglaemgaaDoorRbBase
namespace Go.Proofs.YtkpgfchglaemgaaDoor
set_option linter.unusedVariables false
set_option linter.unusedSimpArgs false
open Go.RowKit
attribute [local go_sem] Oper.semAt_some

set_option maxRecDepth 100000 in
set_option maxHeartbeats 12000000 in
theorem rt_get4 {w : World} {sa oa ha : Option Addr} {sc oc hc : Nat} {D : WD} {h : List Int} (T : TIn w sa oa ha sc oc hc D h) {v : Int} {j : Nat} (hj : j < h.length) (hjm : j ≤ 1000) (hf : fitsW 4 D.st.length = true) :
    Calls Tryd.prog 24 #[.agg #[.int .u8 4, .int .i64 (j : Int), .int .u64 v], stV D (.slice sa D.st.length sc) (.slice oa D.out.length oc), .slice ha h.length hc] w (TchP w (.slice ha h.length hc) 0 { D with st := D.st ++ [h.getD j 0], pc := D.pc + 1 } h) := by
  obtain ⟨pc, S, l0, l1, l2, l3, O, fu⟩ := D
  obtain ⟨hs, ho, hh, hsl, hol, hhl, hsw, hp0, hp1⟩ := T
  simp only at hs ho hsl hol hsw hp0 hp1 ⊢
  obtain ⟨Q, hQ⟩ : ∃ Q, Q = ((w.alloc (.cells #[.int .u8 4, .int .i64 (j : Int), .int .u64 v] 62)).alloc (.cells #[.int .i64 pc, .slice sa S.length sc, .int .u64 l0, .int .u64 l1, .int .u64 l2, .int .u64 l3, .slice oa O.length oc] 38)).alloc (.cells #[.int .i64 0, .slice none 0 0, .int .u64 0, .int .u64 0, .int .u64 0, .int .u64 0, .slice none 0 0] 38) := ⟨_, rfl⟩
  obtain ⟨qx, qb, qr, qt, qs⟩ := tch_Q w ⟨4, (j : Int), v⟩ ⟨pc, S, l0, l1, l2, l3, O, fu⟩ (.slice sa S.length sc) (.slice oa O.length oc) Q hQ
  have HQ : Hid (((w.alloc (.cells #[.int .u8 4, .int .i64 (j : Int), .int .u64 v] 62)).alloc (.cells #[.int .i64 pc, .slice sa S.length sc, .int .u64 l0, .int .u64 l1, .int .u64 l2, .int .u64 l3, .slice oa O.length oc] 38)).alloc (.cells #[.int .i64 0, .slice none 0 0, .int .u64 0, .int .u64 0, .int .u64 0, .int .u64 0, .slice none 0 0] 38) = Q) := hQ.symm
  clear hQ
  obtain ⟨x0, x1, x2, x3, x4, x5, x6⟩ := qb.cells
  obtain ⟨m0, m1, m2⟩ := qx.cells
  simp only at x0 x1 x2 x3 x4 x5 x6 m0 m1 m2
  have HQB : Hid _ := qb
  have HQR : Hid _ := qr
  have HQX : Hid _ := qx
  have HTQ : Hid _ := qt
  have HQS : Hid _ := qs
  have HSW : Hid _ := hsw
  have HSL : Hid (S.length ≤ 1000) := hsl
  have HOL : Hid (O.length ≤ 1000) := hol
  have HHL : Hid (h.length ≤ 1000) := hhl
  have HHR : Hid _ := hh
  have HCP : Hid (∀ W, Touch w W [] → HidC Tryd.prog 20 #[.agg #[.int .i64 pc, .slice sa S.length sc, .int .u64 l0, .int .u64 l1, .int .u64 l2, .int .u64 l3, .slice oa O.length oc]] W (CopP W ⟨pc, S, l0, l1, l2, l3, O, fu⟩)) := fun W t => ⟨rcopied_any (D := ⟨pc, S, l0, l1, l2, l3, O, fu⟩) (SRow.keep hs t (by simp)) (SRow.keep ho t (by simp)) hsl hol⟩
  have HFT : Hid (∀ W, HidC Tryd.prog 40 #[.int .u8 4, .agg #[.int .i64 pc, .slice sa S.length sc, .int .u64 l0, .int .u64 l1, .int .u64 l2, .int .u64 l3, .slice oa O.length oc]] W fun e w' => e = .returned (.int .i64 0) ∧ Touch W w' []) := fun W => ⟨by have := rfits_any (w := W) (vo := .slice oa O.length oc) (ao := sa) (cap := sc) (D := ⟨pc, S, l0, l1, l2, l3, O, fu⟩) hsl 4; rw [if_pos hf] at this; exact this⟩
  have hwv : Wf64 0 := ⟨by decide, by decide⟩
  have HIX : Hid (∀ W, HidC Tryd.prog 41 #[.int .i64 (j : Int), .int .u64 0, .int .i64 h.length] W fun e w' => e = .returned (.tuple #[.int .i64 (j : Int), .int .i64 0]) ∧ W = w') := fun W => ⟨by
    have := rindex_any (j : Int) 0 hwv h.length (by omega) hhl W
    rw [show rIdx (j : Int) 0 h.length = some (j : Int) by unfold rIdx; rw [if_pos (by decide +kernel), show (wholeV (ofB (0 : Int).toNat)).1 = 0 by decide +kernel, Int.add_zero, if_pos (by omega)]] at this
    exact this⟩
  obtain ⟨gh, offh, rfl, hgh, ch⟩ := hh.at j hj
  obtain ⟨Y, hY⟩ : ∃ Y, Y = h.getD j 0 := ⟨_, rfl⟩
  have chY : w.cell? ⟨gh, offh + j, none⟩ = some (.int .u64 Y) := by have := ch 0 (by omega); rw [Nat.mul_one, Nat.add_zero] at this; rw [this, hY, List.getD_eq_getElem?_getD, List.getElem?_eq_getElem hj]; rfl
  rw [← hY]
  have HHC : Hid (∀ V, Touch w V [] → V.cell? ⟨gh, offh + j, none⟩ = some (.int .u64 Y)) := fun V t => (t.cell (p := ⟨gh, _, none⟩) hgh (by simp)).trans chY
  have HGH : Hid (gh < w.heap.size) := hgh
  have HF0 : Hid _ := hf
  have hj0 : (0 : Int) ≤ j := by omega
  have hj1 : (j : Int) < h.length := by omega
  clear hwv ch chY hY hgh hf
  clear qb qr qx qt qs hsw hsl hol hhl hs ho hh
  go_enter Tryd.func24, Tryd.ntmps24
  go_wp2_with fail
  rw [HQ.out]
  clear HQ
  go_wp2_with fail
  refine (HFT.out _).out.mono ?_
  rintro e w2 ⟨rfl, t2⟩
  clear HFT x0 x1 x2 x3 x4 x5 x6 m0 m1 m2
  have T2 : Touch w w2 [] := HTQ.out.trans t2 (by simp)
  have hb2 := HQB.out.touch t2 (by simp)
  obtain ⟨z0, z1, z2, z3, z4, z5, z6⟩ := hb2.cells
  simp only at z0 z1 z2 z3 z4 z5 z6
  have HCP2 : HidC _ _ _ _ _ := HCP.out w2 T2
  have HB2 : Hid _ := hb2
  have HR2 : Hid _ := HQR.out.touch t2 (by simp)
  have HX2 : Hid _ := HQX.out.touch t2 (by simp)
  have HT2 : Hid _ := T2
  have HS2 : Hid (w.heap.size + 3 ≤ w2.heap.size) := by show _ ≤ _; have := t2.size; have := HQS.out; omega
  clear HCP t2 hb2 T2 HQB HQR HQX HTQ HQS
  go_wp2_with fail
  refine HCP2.out.mono ?_
  rintro e w3 ⟨vs, vo, he3, o3, u3, n3, t3⟩
  have he3' : e = .returned (.agg #[.int .i64 pc, vs, .int .u64 l0, .int .u64 l1, .int .u64 l2, .int .u64 l3, vo]) := he3
  subst he3'
  clear he3
  obtain ⟨va, vc, rfl⟩ := owns_slice o3
  obtain ⟨ua, uc, rfl⟩ := owns_slice u3
  clear HCP2 z0 z1 z2 z3 z4 z5 z6
  have hb3 := HB2.out.touch t3 (by simp)
  have hsz3 := t3.size
  have HTH : Hid _ := st_there hb3
  have HM : Hid (∀ W4, W4 = w3.setCells (w.heap.size + 1) 0 (stA ⟨pc, S, l0, l1, l2, l3, O, fu⟩ (.slice va S.length vc) (.slice ua O.length uc)).toList → StMid w W4 (w.heap.size + 1) (w.heap.size + 2) w.heap.size w2.heap.size ⟨pc, S, l0, l1, l2, l3, O, fu⟩ ⟨4, (j : Int), v⟩ (.slice va S.length vc) (.slice ua O.length uc)) := fun W4 hW4 => by
    obtain ⟨g1, tp⟩ := st_sets hb3 ⟨pc, S, l0, l1, l2, l3, O, fu⟩ (.slice va S.length vc) (.slice ua O.length uc) W4 hW4
    have h2 := HS2.out
    exact ⟨g1, (HR2.out.touch t3 (by simp)).touch tp (by simp), (HX2.out.touch t3 (by simp)).touch tp (by simp), ownsRow_touch o3 tp (fun g hg hs => by have := own_ge o3 g hg; simp at hs; omega), ownsRow_touch u3 tp (fun g hg hs => by have := own_ge u3 g hg; simp at hs; omega), n3, (HT2.out.trans t3 (by simp)).trans tp (fun x hx => .inr (by simp at hx; omega)), by omega, by omega, by omega, by omega, by omega, by omega, by omega, by omega, Nat.le_trans hsz3 tp.size⟩
  have hfo := own_form o3
  simp only at hfo
  clear hb3 hsz3 o3 u3 n3 t3 HB2 HR2 HX2 HT2
  go_wp2_with (refine wpList_store_mid rfl 38 _ _ rfl (w.heap.size + 1) 0 (stA ⟨pc, S, l0, l1, l2, l3, O, fu⟩ (.slice va S.length vc) (.slice ua O.length uc)) ?_ ?_ ?_ ?_ ?_ ?_; rfl; rfl; exact HTH.out; exact Tryd.size_state; exact st_one _ _ _ _ _ _ _; refine wpList_nameR fun W4 hW4 => ?_; have hm := HM.out W4 hW4; have HM4 : Hid _ := hm; obtain ⟨z0, z1, z2, z3, z4, z5, z6⟩ := hm.hb.cells; obtain ⟨m0, m1, m2⟩ := hm.hx.cells; simp only at z0 z1 z2 z3 z4 z5 z6 m0 m1 m2; have f0 := hm.hb.fr 0; have f1 := hm.hb.fr 1; clear hW4 hm HTH HM)
  refine (HIX.out _).out.mono ?_
  rintro e w5 ⟨rfl, rfl⟩
  clear HIX
  have hwk : IntKind.i64.wrap (pc + 1) = pc + 1 := by rw [IntKind.wrap_i64]; omega
  have hn1000 : S.length ≤ 1000 := HSL.out
  have hN : w.heap.size + 3 ≤ w2.heap.size := HS2.out
  obtain ⟨W5, hW5⟩ : ∃ W, W = W4.setCell ⟨w.heap.size + 1, 0, none⟩ (.int .i64 (pc + 1)) := ⟨_, rfl⟩
  have HM5 : Hid (StMid w W5 (w.heap.size + 1) (w.heap.size + 2) w.heap.size w2.heap.size ⟨pc + 1, S, l0, l1, l2, l3, O, fu⟩ ⟨4, (j : Int), v⟩ (.slice va S.length vc) (.slice ua O.length uc)) := by rw [hW5]; exact HM4.out.setp (pc + 1)
  have HW5 : Hid (W4.setCell ⟨w.heap.size + 1, 0, none⟩ (.int .i64 (pc + 1)) = W5) := hW5.symm
  clear hW5
  have hlq : S.length = S.length := rfl
  have hl1000 : (S).length ≤ 1000 := by omega
  have hb1000 : S.length ≤ 1000 := by omega
  have pb : ∀ V, Touch W5 V [] → V.cell? ⟨w.heap.size + 1, 1, none⟩ = some (.slice va S.length vc) ∧ V.frozen? ⟨w.heap.size + 1, 1, none⟩ = false := fun V t => ⟨(HM5.out.touch t).hb.cells.2.1, (HM5.out.touch t).hb.fr 1⟩
  have pm : ∀ V, Touch W5 V [] → V.cell? ⟨w.heap.size, 0, none⟩ = some (.int .u8 4) := fun V t => (HM5.out.touch t).hx.cells.1
  have px : ∀ V, Touch W5 V [] → V.cell? ⟨gh, offh + j, none⟩ = some (.int .u64 Y) := fun V t => HHC.out V (HM5.out.touch t).t
  have hk5 : ∀ V, Touch W5 V [] → VRow V (.slice (some ⟨gh, offh, none⟩) h.length hc) h := fun V t => SRow.keep HHR.out (HM5.out.touch t).t (by simp)
  have hm5 := pm _ (Touch.refl W5 [])
  have tA : Touch W5 (W5.alloc (.cells #[] 24)).drew [] := ((Touch.refl _ []).alloc _).drew
  obtain ⟨aA, cA, vA, rA, oA, uA⟩ := app_two (V := (W5.alloc (.cells #[] 24)).drew) tA (e := W5.heap.size) (Nat.le_refl _) (ownsRow_touch (empty_row W5 24 1) ((Touch.refl _ []).drew) (by simp)) (vrow_of (HM5.out.touch tA).hs) hlq hb1000
  have tA2 : Touch W5 (vA.alloc (.cells #[.int .u64 Y] 24)) [] := uA.alloc _
  obtain ⟨bA, dA, xA, sA, pA, qA⟩ := app_more tA2 (ownsRow_touch oA ((Touch.refl vA []).alloc _) (by simp)) hl1000 (vrow_of (own_one vA 0 (Nat.zero_le _) Y)) rfl (by decide)
  have hsB : (W5.alloc (.cells #[] 24)).heap.size = W5.heap.size + 1 := by simp
  have tB : Touch W5 ((W5.alloc (.cells #[] 24)).alloc (.cells #[.int .u64 Y] 24)).drew [] := (((Touch.refl _ []).alloc _).alloc _).drew
  have hEB : valOwn ((W5.alloc (.cells #[] 24)).alloc (.cells #[.int .u64 Y] 24)).drew W5.heap.size (.slice (some ⟨W5.heap.size, 0, none⟩) 0 0) [] := ownsRow_touch (empty_row W5 24 1) (((Touch.refl _ []).alloc _).drew) (by simp)
  obtain ⟨aB, cB, vB, rB, oB, uB⟩ := app_two (V := ((W5.alloc (.cells #[] 24)).alloc (.cells #[.int .u64 Y] 24)).drew) tB (e := W5.heap.size) (Nat.le_refl _) hEB (vrow_of (HM5.out.touch tB).hs) hlq hb1000
  have hpB : valOwn ((W5.alloc (.cells #[] 24)).alloc (.cells #[.int .u64 Y] 24)) 0 (.slice (some ⟨W5.heap.size + 1, 0, none⟩) 1 1) [Y] := by have := own_one (W5.alloc (.cells #[] 24)) 0 (Nat.zero_le _) Y; rw [hsB] at this; exact this
  have tBv : Touch ((W5.alloc (.cells #[] 24)).alloc (.cells #[.int .u64 Y] 24)) vB [W5.heap.size] := by
    obtain ⟨a', c', V', e1, _, e3, _⟩ := val_app hEB (by simp) tB.size (vrow_of (HM5.out.touch tB).hs) hlq hb1000 35
    simp only [List.length_nil, Nat.zero_add] at e1
    rw [rB] at e1
    simp only [Result.ok.injEq] at e1
    rw [e1.2]
    exact ((Touch.refl _ _).drew).trans e3 (fun x hx => .inl hx)
  obtain ⟨bB, dB, xB, sB, pB, qB⟩ := app_more uB oB hl1000 (vrow_of (ownsRow_touch hpB tBv (fun g hg hs => by simp [Value.ownBlock] at hg; simp at hs; omega))) rfl (by decide)
  have hsC : (W5.alloc (.cells #[.int .u64 Y] 24)).heap.size = W5.heap.size + 1 := by simp
  have tC : Touch W5 ((W5.alloc (.cells #[.int .u64 Y] 24)).alloc (.cells #[] 24)).drew [] := (((Touch.refl _ []).alloc _).alloc _).drew
  have hEC : valOwn ((W5.alloc (.cells #[.int .u64 Y] 24)).alloc (.cells #[] 24)).drew (W5.heap.size + 1) (.slice (some ⟨W5.heap.size + 1, 0, none⟩) 0 0) [] := by have := empty_row (W5.alloc (.cells #[.int .u64 Y] 24)) 24 1; rw [hsC] at this; exact ownsRow_touch this ((Touch.refl _ []).drew) (by simp)
  obtain ⟨aC, cC, vC, rC, oC, uC⟩ := app_two (V := ((W5.alloc (.cells #[.int .u64 Y] 24)).alloc (.cells #[] 24)).drew) tC (e := W5.heap.size + 1) (by omega) (own_base hEC (by omega)) (vrow_of (HM5.out.touch tC).hs) hlq hb1000
  have tCv : Touch (W5.alloc (.cells #[.int .u64 Y] 24)) vC [] := by
    obtain ⟨a', c', V', e1, _, e3, _⟩ := val_app hEC (by simp) (by simp) (vrow_of (HM5.out.touch tC).hs) hlq hb1000 35
    simp only [List.length_nil, Nat.zero_add] at e1
    rw [rC] at e1
    simp only [Result.ok.injEq] at e1
    rw [e1.2]
    exact (((Touch.refl _ []).alloc _).drew).trans e3 (fun x hx => .inr (by simp [Value.ownBlock] at hx; omega))
  obtain ⟨bC, dC, xC, sC, pC, qC⟩ := app_more uC oC hl1000 (vrow_of (ownsRow_touch (own_one W5 0 (Nat.zero_le _) Y) tCv (by simp))) rfl (by decide)
  have HMA : Hid _ := HM5.out.newrow qA pA
  have HMB : Hid _ := HM5.out.newrow qB pB
  have HMC : Hid _ := HM5.out.newrow qC pC
  simp only at HMA HMB HMC
  have hfin : ∀ (V : World) (bV : Option Addr) (dV : Nat), Touch W5 V [] → StMid w (V.setCell ⟨w.heap.size + 1, 1, none⟩ (.slice bV (S.length + 1) dV)) (w.heap.size + 1) (w.heap.size + 2) w.heap.size w2.heap.size ⟨pc + 1, S ++ [Y], l0, l1, l2, l3, O, fu⟩ ⟨4, (j : Int), v⟩ (.slice bV (S.length + 1) dV) (.slice ua O.length uc) → _ := fun V bV dV t hm => StMid.finT (vh := .slice (some ⟨gh, offh, none⟩) h.length hc) hm (SRow.keepB (hk5 V t) ((Touch.refl V [w.heap.size + 1]).setCell (.inl (by simp)) _) (fun _ g hg => by simp [Value.ownBlock] at hg; have := HGH.out; simp; omega)) (fun g hg => ⟨by simp [Value.ownBlock] at hg; have := HGH.out; omega, .inr hg⟩)
  have HFA : Hid _ := hfin xA bA dA qA HMA.out
  have HFB : Hid _ := hfin xB bB dB qB HMB.out
  have HFC : Hid _ := hfin xC bC dC qC HMC.out
  have tY : Touch W5 (W5.alloc (.cells #[.int .u64 Y] 24)).drew [] := ((Touch.refl _ []).alloc _).drew
  have kl1 := (pb _ ((Touch.refl W5 []).drew)).1
  have kl2 := (pb _ tA).1
  have kl3 := (pb _ tY).1
  have kl4 := (pb _ tB).1
  have kl5 := (pb _ tC).1
  have e1 := px _ ((Touch.refl W5 []).drew)
  have e4 := px _ tY
  have e5 := px _ tB
  have e6 := px _ tC
  have e2 := px _ tA
  have e3 := px _ uA
  have hbA := pb _ qA
  have hbB := pb _ qB
  have hbC := pb _ qC
  have HPA : Hid _ := (HM5.out.touch qA).hb.cells
  have HPB : Hid _ := (HM5.out.touch qB).hb.cells
  have HPC : Hid _ := (HM5.out.touch qC).hb.cells
  obtain ⟨jA, iA⟩ := hbA
  obtain ⟨jB, iB⟩ := hbB
  obtain ⟨jC, iC⟩ := hbC
  clear hfin hk5 tY tA oA uA tA2 pA qA hsB hEB tB oB uB hpB tBv pB qB hsC tC hEC oC uC tCv pC qC px pb pm hlq hl1000 HM5 hb1000
  rcases hfo.2 with ⟨rfl, hn0, rfl⟩ | ⟨g2, rfl, hnc, hcm⟩
  · have hnn : S.length = 0 := hn0
    clear hfo HSL HF0 hn0
    generalize S.length = n at *
    subst hnn
    go_wp2_with fail
    rw [HW5.out]
    go_region_law (first | (refine step_append_run (by rfl) (.tmp 71) (.tmp 75) 35 35 (by rfl) (by rfl) (.slice (some ⟨W5.heap.size, 0, none⟩) 0 0) (.slice none 0 0) (.slice aA 0 cA) vA (by rfl) (by rfl) rA ?_) | (refine step_append_run (by rfl) (.tmp 71) (.tmp 75) 35 35 (by rfl) (by rfl) (.slice (some ⟨W5.heap.size, 0, none⟩) 0 0) (.slice none 0 0) (.slice aB 0 cB) vB (by rfl) (by rfl) rB ?_) | (refine step_append_run (by rfl) (.tmp 71) (.tmp 75) 35 35 (by rfl) (by rfl) (.slice (some ⟨W5.heap.size + 1, 0, none⟩) 0 0) (.slice none 0 0) (.slice aC 0 cC) vC (by rfl) (by rfl) rC ?_) | (refine step_append_run (by rfl) (.tmp 76) (.tmp 81) 35 35 (by rfl) (by rfl) (.slice aA 0 cA) (.slice (some ⟨vA.heap.size, 0, none⟩) 1 1) (.slice bA (0 + 1) dA) xA (by rfl) (by rfl) sA ?_) | (refine step_append_run (by rfl) (.tmp 76) (.tmp 81) 35 35 (by rfl) (by rfl) (.slice aB 0 cB) (.slice (some ⟨W5.heap.size + 1, 0, none⟩) 1 1) (.slice bB (0 + 1) dB) xB (by rfl) (by rfl) sB ?_) | (refine step_append_run (by rfl) (.tmp 76) (.tmp 81) 35 35 (by rfl) (by rfl) (.slice aC 0 cC) (.slice (some ⟨W5.heap.size, 0, none⟩) 1 1) (.slice bC (0 + 1) dC) xC (by rfl) (by rfl) sC ?_))
    all_goals first
      |
          (obtain ⟨p0, p1, p2, p3, p4, p5, p6⟩ := HPA.out
           try simp only at p0 p1 p2 p3 p4 p5 p6
           have HTH : Hid _ := st_there HMA.out.hr
           have HP : Hid _ := HFA.out
           go_wp2_with (refine wpList_store_mid rfl 38 _ _ rfl (w.heap.size + 2) 0 (stA ⟨pc + 1, S ++ [Y], l0, l1, l2, l3, O, fu⟩ (.slice bA (0 + 1) dA) (.slice ua O.length uc)) ?_ ?_ ?_ ?_ ?_ ?_; rfl; rfl; exact HTH.out; exact Tryd.size_state; exact st_one _ _ _ _ _ _ _; refine wpList_nameR fun W8 hW8 => ?_; have H8 : Hid _ := HP.out W8 hW8; clear hW8 HTH HP p0 p1 p2 p3 p4 p5 p6)
           obtain ⟨b8, r8⟩ := H8.out
           refine bodyPost_ret (v := .tuple #[stV ⟨pc + 1, S ++ [Y], l0, l1, l2, l3, O, fu⟩ (.slice bA (0 + 1) dA) (.slice ua O.length uc), .slice (some ⟨gh, offh, none⟩) h.length hc, .int .i64 0]) (res_cell_slot2 (v := stV ⟨pc + 1, S ++ [Y], l0, l1, l2, l3, O, fu⟩ (.slice bA (0 + 1) dA) (.slice ua O.length uc)) (a := ⟨w.heap.size + 2, 0, none⟩) Tryd.results24 _ _ _ rfl ?_) rfl r8
           obtain ⟨z0', z1', z2', z3', z4', z5', z6'⟩ := b8.cells
           simp [go_sem, z0', z1', z2', z3', z4', z5', z6'])
      |
          (obtain ⟨p0, p1, p2, p3, p4, p5, p6⟩ := HPB.out
           try simp only at p0 p1 p2 p3 p4 p5 p6
           have HTH : Hid _ := st_there HMB.out.hr
           have HP : Hid _ := HFB.out
           go_wp2_with (refine wpList_store_mid rfl 38 _ _ rfl (w.heap.size + 2) 0 (stA ⟨pc + 1, S ++ [Y], l0, l1, l2, l3, O, fu⟩ (.slice bB (0 + 1) dB) (.slice ua O.length uc)) ?_ ?_ ?_ ?_ ?_ ?_; rfl; rfl; exact HTH.out; exact Tryd.size_state; exact st_one _ _ _ _ _ _ _; refine wpList_nameR fun W8 hW8 => ?_; have H8 : Hid _ := HP.out W8 hW8; clear hW8 HTH HP p0 p1 p2 p3 p4 p5 p6)
           obtain ⟨b8, r8⟩ := H8.out
           refine bodyPost_ret (v := .tuple #[stV ⟨pc + 1, S ++ [Y], l0, l1, l2, l3, O, fu⟩ (.slice bB (0 + 1) dB) (.slice ua O.length uc), .slice (some ⟨gh, offh, none⟩) h.length hc, .int .i64 0]) (res_cell_slot2 (v := stV ⟨pc + 1, S ++ [Y], l0, l1, l2, l3, O, fu⟩ (.slice bB (0 + 1) dB) (.slice ua O.length uc)) (a := ⟨w.heap.size + 2, 0, none⟩) Tryd.results24 _ _ _ rfl ?_) rfl r8
           obtain ⟨z0', z1', z2', z3', z4', z5', z6'⟩ := b8.cells
           simp [go_sem, z0', z1', z2', z3', z4', z5', z6'])
      |
          (obtain ⟨p0, p1, p2, p3, p4, p5, p6⟩ := HPC.out
           try simp only at p0 p1 p2 p3 p4 p5 p6
           have HTH : Hid _ := st_there HMC.out.hr
           have HP : Hid _ := HFC.out
           go_wp2_with (refine wpList_store_mid rfl 38 _ _ rfl (w.heap.size + 2) 0 (stA ⟨pc + 1, S ++ [Y], l0, l1, l2, l3, O, fu⟩ (.slice bC (0 + 1) dC) (.slice ua O.length uc)) ?_ ?_ ?_ ?_ ?_ ?_; rfl; rfl; exact HTH.out; exact Tryd.size_state; exact st_one _ _ _ _ _ _ _; refine wpList_nameR fun W8 hW8 => ?_; have H8 : Hid _ := HP.out W8 hW8; clear hW8 HTH HP p0 p1 p2 p3 p4 p5 p6)
           obtain ⟨b8, r8⟩ := H8.out
           refine bodyPost_ret (v := .tuple #[stV ⟨pc + 1, S ++ [Y], l0, l1, l2, l3, O, fu⟩ (.slice bC (0 + 1) dC) (.slice ua O.length uc), .slice (some ⟨gh, offh, none⟩) h.length hc, .int .i64 0]) (res_cell_slot2 (v := stV ⟨pc + 1, S ++ [Y], l0, l1, l2, l3, O, fu⟩ (.slice bC (0 + 1) dC) (.slice ua O.length uc)) (a := ⟨w.heap.size + 2, 0, none⟩) Tryd.results24 _ _ _ rfl ?_) rfl r8
           obtain ⟨z0', z1', z2', z3', z4', z5', z6'⟩ := b8.cells
           simp [go_sem, z0', z1', z2', z3', z4', z5', z6'])
  · have hnc2 : (S.length : Int) ≤ vc := by omega
    have hn00 : (0 : Int) ≤ S.length := by omega
    clear hfo HSL HF0
    generalize S.length = n at *
    go_wp2_with fail
    rw [HW5.out]
    go_region_law (first | (refine step_append_run (by rfl) (.tmp 71) (.tmp 75) 35 35 (by rfl) (by rfl) (.slice (some ⟨W5.heap.size, 0, none⟩) 0 0) (.slice (some ⟨g2, 0, none⟩) n vc) (.slice aA n cA) vA (by rfl) (by rfl) rA ?_) | (refine step_append_run (by rfl) (.tmp 71) (.tmp 75) 35 35 (by rfl) (by rfl) (.slice (some ⟨W5.heap.size, 0, none⟩) 0 0) (.slice (some ⟨g2, 0, none⟩) n vc) (.slice aB n cB) vB (by rfl) (by rfl) rB ?_) | (refine step_append_run (by rfl) (.tmp 71) (.tmp 75) 35 35 (by rfl) (by rfl) (.slice (some ⟨W5.heap.size + 1, 0, none⟩) 0 0) (.slice (some ⟨g2, 0, none⟩) n vc) (.slice aC n cC) vC (by rfl) (by rfl) rC ?_) | (refine step_append_run (by rfl) (.tmp 76) (.tmp 81) 35 35 (by rfl) (by rfl) (.slice aA n cA) (.slice (some ⟨vA.heap.size, 0, none⟩) 1 1) (.slice bA (n + 1) dA) xA (by rfl) (by rfl) sA ?_) | (refine step_append_run (by rfl) (.tmp 76) (.tmp 81) 35 35 (by rfl) (by rfl) (.slice aB n cB) (.slice (some ⟨W5.heap.size + 1, 0, none⟩) 1 1) (.slice bB (n + 1) dB) xB (by rfl) (by rfl) sB ?_) | (refine step_append_run (by rfl) (.tmp 76) (.tmp 81) 35 35 (by rfl) (by rfl) (.slice aC n cC) (.slice (some ⟨W5.heap.size, 0, none⟩) 1 1) (.slice bC (n + 1) dC) xC (by rfl) (by rfl) sC ?_))
    all_goals first
      |
          (obtain ⟨p0, p1, p2, p3, p4, p5, p6⟩ := HPA.out
           try simp only at p0 p1 p2 p3 p4 p5 p6
           have HTH : Hid _ := st_there HMA.out.hr
           have HP : Hid _ := HFA.out
           go_wp2_with (refine wpList_store_mid rfl 38 _ _ rfl (w.heap.size + 2) 0 (stA ⟨pc + 1, S ++ [Y], l0, l1, l2, l3, O, fu⟩ (.slice bA (n + 1) dA) (.slice ua O.length uc)) ?_ ?_ ?_ ?_ ?_ ?_; rfl; rfl; exact HTH.out; exact Tryd.size_state; exact st_one _ _ _ _ _ _ _; refine wpList_nameR fun W8 hW8 => ?_; have H8 : Hid _ := HP.out W8 hW8; clear hW8 HTH HP p0 p1 p2 p3 p4 p5 p6)
           obtain ⟨b8, r8⟩ := H8.out
           refine bodyPost_ret (v := .tuple #[stV ⟨pc + 1, S ++ [Y], l0, l1, l2, l3, O, fu⟩ (.slice bA (n + 1) dA) (.slice ua O.length uc), .slice (some ⟨gh, offh, none⟩) h.length hc, .int .i64 0]) (res_cell_slot2 (v := stV ⟨pc + 1, S ++ [Y], l0, l1, l2, l3, O, fu⟩ (.slice bA (n + 1) dA) (.slice ua O.length uc)) (a := ⟨w.heap.size + 2, 0, none⟩) Tryd.results24 _ _ _ rfl ?_) rfl r8
           obtain ⟨z0', z1', z2', z3', z4', z5', z6'⟩ := b8.cells
           simp [go_sem, z0', z1', z2', z3', z4', z5', z6'])
      |
          (obtain ⟨p0, p1, p2, p3, p4, p5, p6⟩ := HPB.out
           try simp only at p0 p1 p2 p3 p4 p5 p6
           have HTH : Hid _ := st_there HMB.out.hr
           have HP : Hid _ := HFB.out
           go_wp2_with (refine wpList_store_mid rfl 38 _ _ rfl (w.heap.size + 2) 0 (stA ⟨pc + 1, S ++ [Y], l0, l1, l2, l3, O, fu⟩ (.slice bB (n + 1) dB) (.slice ua O.length uc)) ?_ ?_ ?_ ?_ ?_ ?_; rfl; rfl; exact HTH.out; exact Tryd.size_state; exact st_one _ _ _ _ _ _ _; refine wpList_nameR fun W8 hW8 => ?_; have H8 : Hid _ := HP.out W8 hW8; clear hW8 HTH HP p0 p1 p2 p3 p4 p5 p6)
           obtain ⟨b8, r8⟩ := H8.out
           refine bodyPost_ret (v := .tuple #[stV ⟨pc + 1, S ++ [Y], l0, l1, l2, l3, O, fu⟩ (.slice bB (n + 1) dB) (.slice ua O.length uc), .slice (some ⟨gh, offh, none⟩) h.length hc, .int .i64 0]) (res_cell_slot2 (v := stV ⟨pc + 1, S ++ [Y], l0, l1, l2, l3, O, fu⟩ (.slice bB (n + 1) dB) (.slice ua O.length uc)) (a := ⟨w.heap.size + 2, 0, none⟩) Tryd.results24 _ _ _ rfl ?_) rfl r8
           obtain ⟨z0', z1', z2', z3', z4', z5', z6'⟩ := b8.cells
           simp [go_sem, z0', z1', z2', z3', z4', z5', z6'])
      |
          (obtain ⟨p0, p1, p2, p3, p4, p5, p6⟩ := HPC.out
           try simp only at p0 p1 p2 p3 p4 p5 p6
           have HTH : Hid _ := st_there HMC.out.hr
           have HP : Hid _ := HFC.out
           go_wp2_with (refine wpList_store_mid rfl 38 _ _ rfl (w.heap.size + 2) 0 (stA ⟨pc + 1, S ++ [Y], l0, l1, l2, l3, O, fu⟩ (.slice bC (n + 1) dC) (.slice ua O.length uc)) ?_ ?_ ?_ ?_ ?_ ?_; rfl; rfl; exact HTH.out; exact Tryd.size_state; exact st_one _ _ _ _ _ _ _; refine wpList_nameR fun W8 hW8 => ?_; have H8 : Hid _ := HP.out W8 hW8; clear hW8 HTH HP p0 p1 p2 p3 p4 p5 p6)
           obtain ⟨b8, r8⟩ := H8.out
           refine bodyPost_ret (v := .tuple #[stV ⟨pc + 1, S ++ [Y], l0, l1, l2, l3, O, fu⟩ (.slice bC (n + 1) dC) (.slice ua O.length uc), .slice (some ⟨gh, offh, none⟩) h.length hc, .int .i64 0]) (res_cell_slot2 (v := stV ⟨pc + 1, S ++ [Y], l0, l1, l2, l3, O, fu⟩ (.slice bC (n + 1) dC) (.slice ua O.length uc)) (a := ⟨w.heap.size + 2, 0, none⟩) Tryd.results24 _ _ _ rfl ?_) rfl r8
           obtain ⟨z0', z1', z2', z3', z4', z5', z6'⟩ := b8.cells
           simp [go_sem, z0', z1', z2', z3', z4', z5', z6'])

end Go.Proofs.YtkpgfchglaemgaaDoor
