/-
  package spec, the document's: Step BY ITS CONTRACT, some arms.
-/
import Derived.Test.YtkpgfchglaemgaaDoorSsR0
namespace Go.Proofs.YtkpgfchglaemgaaDoor
set_option linter.unusedVariables false
set_option linter.unusedSimpArgs false
open Go.RowKit
attribute [local go_sem] Oper.semAt_some

set_option maxRecDepth 100000 in
set_option maxHeartbeats 12000000 in
theorem rs_swap {w : World} {sa oa ap : Option Addr} {sc oc cp : Nat} {l : List InsD} {D : WD} (h : StIn w sa oa ap sc oc cp l D) {k : Nat} (hk : k < l.length) (hpc : D.pc = k) {a v : Int} (hi : l[k] = ⟨18, a, v⟩) (hri : rightI ⟨18, a, v⟩ = true) (hf : fitsW 18 D.st.length = true) {q : Nat} (hq : q = D.st.length - 2) {Y Z : Int} (hY : Y = D.st.getD q 0) (hZ : Z = D.st.getD (q + 1) 0) :
    Calls Tryd.prog 25 #[.slice ap l.length cp, stV D (.slice sa D.st.length sc) (.slice oa D.out.length oc)] w (StpP w (0, { D with st := D.st.take q ++ [Z, Y], pc := D.pc + 1 })) := by
  obtain ⟨pc, S, l0, l1, l2, l3, O, fu⟩ := D
  simp only at hpc hf ⊢
  subst hpc
  obtain ⟨hs, ho, hl, hll, hsl, hol, hwf, hsw⟩ := h
  simp only at hs ho hsl hol hsw
  obtain ⟨D, hD⟩ : ∃ D : WD, D = ⟨k, S, l0, l1, l2, l3, O, fu⟩ := ⟨_, rfl⟩
  have hQb : StB ((w.alloc (.cells #[.int .i64 k, .slice sa S.length sc, .int .u64 l0, .int .u64 l1, .int .u64 l2, .int .u64 l3, .slice oa O.length oc] 38)).alloc (.cells #[.int .i64 0, .slice none 0 0, .int .u64 0, .int .u64 0, .int .u64 0, .int .u64 0, .slice none 0 0] 38)) w.heap.size ⟨k, S, l0, l1, l2, l3, O, fu⟩ (.slice sa S.length sc) (.slice oa O.length oc) := StB.touch (⟨heap_alloc_new w _⟩ : StB (w.alloc (.cells #[.int .i64 k, .slice sa S.length sc, .int .u64 l0, .int .u64 l1, .int .u64 l2, .int .u64 l3, .slice oa O.length oc] 38)) w.heap.size ⟨k, S, l0, l1, l2, l3, O, fu⟩ (.slice sa S.length sc) (.slice oa O.length oc)) ((Touch.refl _ []).alloc _) (by simp)
  have hQr : StB ((w.alloc (.cells #[.int .i64 k, .slice sa S.length sc, .int .u64 l0, .int .u64 l1, .int .u64 l2, .int .u64 l3, .slice oa O.length oc] 38)).alloc (.cells #[.int .i64 0, .slice none 0 0, .int .u64 0, .int .u64 0, .int .u64 0, .int .u64 0, .slice none 0 0] 38)) (w.heap.size + 1) zWD (.slice none 0 0) (.slice none 0 0) := ⟨by
    have := heap_alloc_new (w.alloc (.cells #[.int .i64 k, .slice sa S.length sc, .int .u64 l0, .int .u64 l1, .int .u64 l2, .int .u64 l3, .slice oa O.length oc] 38)) (.cells #[.int .i64 0, .slice none 0 0, .int .u64 0, .int .u64 0, .int .u64 0, .int .u64 0, .slice none 0 0] 38)
    simpa using this⟩
  have tQ : Touch w ((w.alloc (.cells #[.int .i64 k, .slice sa S.length sc, .int .u64 l0, .int .u64 l1, .int .u64 l2, .int .u64 l3, .slice oa O.length oc] 38)).alloc (.cells #[.int .i64 0, .slice none 0 0, .int .u64 0, .int .u64 0, .int .u64 0, .int .u64 0, .slice none 0 0] 38)) [] := ((Touch.refl w []).alloc _).alloc _
  have hQs : ((w.alloc (.cells #[.int .i64 k, .slice sa S.length sc, .int .u64 l0, .int .u64 l1, .int .u64 l2, .int .u64 l3, .slice oa O.length oc] 38)).alloc (.cells #[.int .i64 0, .slice none 0 0, .int .u64 0, .int .u64 0, .int .u64 0, .int .u64 0, .slice none 0 0] 38)).heap.size = w.heap.size + 2 := by simp
  have HWF : Hid _ := hwf
  have hiw : InsD.Wf ⟨18, a, v⟩ := hi ▸ hwf _ (List.getElem_mem hk)
  have HRT : Hid (∀ W, HidC Tryd.prog 21 #[.agg #[.int .u8 18, .int .i64 a, .int .u64 v]] W fun e w' => e = .returned (.bool true) ∧ Touch W w' []) := fun W => ⟨by have := rrightI_any _ hiw W; rw [hri] at this; exact this⟩
  have HPL : Hid (∀ W, HidC Tryd.prog 42 #[.int .u8 18] W fun e w' => e = .returned (.bool true) ∧ W = w') := fun W => ⟨rplain_any 18 W⟩
  have HFT : Hid (∀ W, HidC Tryd.prog 40 #[.int .u8 18, .agg #[.int .i64 k, .slice sa S.length sc, .int .u64 l0, .int .u64 l1, .int .u64 l2, .int .u64 l3, .slice oa O.length oc]] W fun e w' => e = .returned (.int .i64 0) ∧ Touch W w' []) := fun W => ⟨by have := rfits_any (w := W) (vo := .slice oa O.length oc) (ao := sa) (cap := sc) (D := ⟨k, S, l0, l1, l2, l3, O, fu⟩) hsl 18; rw [if_pos hf] at this; exact this⟩
  have HCP : Hid (∀ W, Touch w W [] → HidC Tryd.prog 20 #[.agg #[.int .i64 k, .slice sa S.length sc, .int .u64 l0, .int .u64 l1, .int .u64 l2, .int .u64 l3, .slice oa O.length oc]] W (CopP W ⟨k, S, l0, l1, l2, l3, O, fu⟩)) := fun W t => ⟨rcopied_any (D := ⟨k, S, l0, l1, l2, l3, O, fu⟩) (SRow.keep hs t (by simp)) (SRow.keep ho t (by simp)) hsl hol⟩
  have HEF : Hid (∀ W, HidC Tryd.prog 43 #[.int .u8 18] W fun e w' => e = .returned (.tuple #[.int .i64 2, .int .i64 2]) ∧ W = w') := fun W => ⟨reff_any 18 W⟩
  obtain ⟨g, off, rfl, hg, c0, c1, c2⟩ := ins_cells hl k hk
  rw [hi] at c0 c1 c2
  simp only at c0 c1 c2
  have HI : Hid (∀ W, Touch w W [] → W.cell? ⟨g, off + k * 3, none⟩ = some (.int .u8 18) ∧ W.cell? ⟨g, off + k * 3 + 1, none⟩ = some (.int .i64 a) ∧ W.cell? ⟨g, off + k * 3 + 2, none⟩ = some (.int .u64 v)) := fun W t => ⟨(t.cell (p := ⟨g, _, none⟩) hg (by simp)).trans c0, (t.cell (p := ⟨g, _, none⟩) hg (by simp)).trans c1, (t.cell (p := ⟨g, _, none⟩) hg (by simp)).trans c2⟩
  have hk0 : (0 : Int) ≤ k := by omega
  have hk1 : (k : Int) < l.length := by omega
  obtain ⟨d0, d1, d2⟩ := HI.out _ tQ
  obtain ⟨x0, x1, x2, x3, x4, x5, x6⟩ := hQb.cells
  simp only at x0 x1 x2 x3 x4 x5 x6
  have HQB : Hid _ := hQb
  have HQR : Hid _ := hQr
  have HTQ : Hid _ := tQ
  have HQS : Hid _ := hQs
  have HSW : Hid _ := hsw
  have HSL : Hid (S.length ≤ 1000) := hsl
  have HOL : Hid (O.length ≤ 1000) := hol
  have HF : Hid _ := hf
  have HRI : Hid _ := hri
  clear hQb hQr tQ hQs hsw hsl hol hf hri hwf hiw hs ho hl hi c0 c1 c2 hg
  go_enter Tryd.func25, Tryd.ntmps25
  go_wp2_with fail
  generalize ((w.alloc (.cells #[.int .i64 k, .slice sa S.length sc, .int .u64 l0, .int .u64 l1, .int .u64 l2, .int .u64 l3, .slice oa O.length oc] 38)).alloc (.cells #[.int .i64 0, .slice none 0 0, .int .u64 0, .int .u64 0, .int .u64 0, .int .u64 0, .slice none 0 0] 38)) = Q at *
  go_wp2_with fail
  refine (HRT.out _).out.mono ?_
  rintro e w1 ⟨rfl, t1⟩
  have T1 : Touch w w1 [] := HTQ.out.trans t1 (by simp)
  have hb1 := HQB.out.touch t1 (by simp)
  have hr1 := HQR.out.touch t1 (by simp)
  have hsz1 : w.heap.size + 2 ≤ w1.heap.size := by have := t1.size; have := HQS.out; omega
  have tX : Touch w1 (w1.alloc (.cells #[.int .u8 18, .int .i64 a, .int .u64 v] 62)) [] := (Touch.refl w1 []).alloc _
  have hbX := hb1.touch tX (by simp)
  have HRX : Hid _ := hr1.touch tX (by simp)
  have HXX : Hid (IxB (w1.alloc (.cells #[.int .u8 18, .int .i64 a, .int .u64 v] 62)) w1.heap.size ⟨18, a, v⟩) := ⟨heap_alloc_new w1 _⟩
  have HTX : Hid _ := T1.trans tX (by simp)
  have HXS : Hid ((w1.alloc (.cells #[.int .u8 18, .int .i64 a, .int .u64 v] 62)).heap.size = w1.heap.size + 1) := by show _ = _; simp
  obtain ⟨m0, m1, m2⟩ := HXX.out.cells
  obtain ⟨y0, y1, y2, y3, y4, y5, y6⟩ := hbX.cells
  obtain ⟨z0, z1, z2, z3, z4, z5, z6⟩ := hb1.cells
  obtain ⟨e0, e1, e2⟩ := HI.out _ T1
  simp only at y0 y1 y2 y3 y4 y5 y6 z0 z1 z2 z3 z4 z5 z6 m0 m1 m2
  have HBX : Hid _ := hbX
  have HW1 : Hid _ := hsz1
  clear x0 x1 x2 x3 x4 x5 x6 d0 d1 d2 hb1 hr1 hbX tX T1 t1 HTQ HQB HQR HRT
  go_wp2_with fail
  refine (HPL.out _).out.mono ?_
  rintro e _ ⟨rfl, rfl⟩
  clear HPL
  go_wp2_with fail
  clear z0 z1 z2 z3 z4 z5 z6 e0 e1 e2
  generalize hX : w1.alloc (.cells #[.int .u8 18, .int .i64 a, .int .u64 v] 62) = X at *
  have hX' := hX
  clear hX hX'
  refine (HFT.out _).out.mono ?_
  rintro e w2 ⟨rfl, t2⟩
  clear HFT
  have T2 : Touch w w2 [] := HTX.out.trans t2 (by simp)
  have hb2 := HBX.out.touch t2 (by simp)
  obtain ⟨z0, z1, z2, z3, z4, z5, z6⟩ := hb2.cells
  have HCP2 : HidC _ _ _ _ _ := HCP.out w2 T2
  have HB2 : Hid _ := hb2
  have HR2 : Hid _ := HRX.out.touch t2 (by simp)
  have HX2 : Hid _ := HXX.out.touch t2 (by simp)
  have HT2 : Hid _ := T2
  have HS2 : Hid (w1.heap.size + 1 ≤ w2.heap.size) := by show _ ≤ _; have := t2.size; have := HXS.out; omega
  clear y0 y1 y2 y3 y4 y5 y6 m0 m1 m2 HBX HRX HXX HTX HXS HCP t2 hb2 T2
  simp only at z0 z1 z2 z3 z4 z5 z6
  go_wp2_with fail
  refine HCP2.out.mono ?_
  rintro e w3 ⟨vs, vo, he3, o3, u3, n3, t3⟩
  have he3' : e = .returned (.agg #[.int .i64 k, vs, .int .u64 l0, .int .u64 l1, .int .u64 l2, .int .u64 l3, vo]) := he3
  subst he3'
  clear he3
  obtain ⟨va, vc, rfl⟩ := owns_slice o3
  obtain ⟨ua, uc, rfl⟩ := owns_slice u3
  clear HCP2 z0 z1 z2 z3 z4 z5 z6
  have hb3 := HB2.out.touch t3 (by simp)
  have hsz3 := t3.size
  have HTH : Hid _ := st_there hb3
  have HM : Hid (∀ W4, W4 = w3.setCells w.heap.size 0 (stA ⟨k, S, l0, l1, l2, l3, O, fu⟩ (.slice va S.length vc) (.slice ua O.length uc)).toList → StMid w W4 w.heap.size (w.heap.size + 1) w1.heap.size w2.heap.size ⟨k, S, l0, l1, l2, l3, O, fu⟩ ⟨18, a, v⟩ (.slice va S.length vc) (.slice ua O.length uc)) := fun W4 hW4 => by
    obtain ⟨g1, tp⟩ := st_sets hb3 ⟨k, S, l0, l1, l2, l3, O, fu⟩ (.slice va S.length vc) (.slice ua O.length uc) W4 hW4
    have h1 := HW1.out
    have h2 := HS2.out
    exact ⟨g1, (HR2.out.touch t3 (by simp)).touch tp (by simp), (HX2.out.touch t3 (by simp)).touch tp (by simp; omega), ownsRow_touch o3 tp (fun g hg hs => by have := own_ge o3 g hg; simp at hs; omega), ownsRow_touch u3 tp (fun g hg hs => by have := own_ge u3 g hg; simp at hs; omega), n3, (HT2.out.trans t3 (by simp)).trans tp (fun x hx => .inr (by simp at hx; omega)), Nat.le_refl _, by omega, by omega, by omega, by omega, by omega, by omega, by omega, Nat.le_trans hsz3 tp.size⟩
  clear hb3 hsz3 o3 u3 n3 t3 HB2 HR2 HX2 HT2 HW1 HS2
  go_wp2_with (refine wpList_store_mid rfl 38 _ _ rfl w.heap.size 0 (stA ⟨k, S, l0, l1, l2, l3, O, fu⟩ (.slice va S.length vc) (.slice ua O.length uc)) ?_ ?_ ?_ ?_ ?_ ?_; rfl; rfl; exact HTH.out; exact Tryd.size_state; exact st_one _ _ _ _ _ _ _; refine wpList_nameR fun W4 hW4 => ?_; have hm := HM.out W4 hW4; have HM4 : Hid _ := hm; obtain ⟨z0, z1, z2, z3, z4, z5, z6⟩ := hm.hb.cells; obtain ⟨m0, m1, m2⟩ := hm.hx.cells; simp only at z0 z1 z2 z3 z4 z5 z6 m0 m1 m2; have f0 := hm.hb.fr 0; have f1 := hm.hb.fr 1; clear hW4 hm HTH HM)
  refine (HEF.out _).out.mono ?_
  rintro e w5 ⟨rfl, rfl⟩
  clear HEF
  have hwk : IntKind.i64.wrap ((k : Int) + 1) = (k : Int) + 1 := by rw [IntKind.wrap_i64]; omega
  have hfo := own_form HM4.out.hs
  have hn12 : S.length ≤ 1000 := HSL.out
  obtain ⟨W5, hW5⟩ : ∃ W, W = W4.setCell ⟨w.heap.size, 0, none⟩ (.int .i64 (k + 1)) := ⟨_, rfl⟩
  have HM5 : Hid (StMid w W5 w.heap.size (w.heap.size + 1) w1.heap.size w2.heap.size ⟨k + 1, S, l0, l1, l2, l3, O, fu⟩ ⟨18, a, v⟩ (.slice va S.length vc) (.slice ua O.length uc)) := by rw [hW5]; exact HM4.out.setp (k + 1)
  have HW5 : Hid (W4.setCell ⟨w.heap.size, 0, none⟩ (.int .i64 (k + 1)) = W5) := hW5.symm
  clear hW5
  have hpu : (2 : Int) ≤ S.length := by have h := HF.out; unfold fitsW at h; simp only [Bool.and_eq_true, decide_eq_true_eq] at h; exact h.1
  have hwm : IntKind.i64.wrap ((S.length : Int) - 2) = (q : Int) := by rw [IntKind.wrap_i64]; omega
  obtain ⟨g2, rfl, hnc, hcm⟩ : ∃ g, va = some ⟨g, 0, none⟩ ∧ S.length ≤ vc ∧ vc ≤ 9223372036854775807 := by
    rcases hfo.2 with ⟨rfl, h0, rfl⟩ | ⟨g2, rfl, hnc, hcm⟩
    · omega
    · exact ⟨g2, rfl, hnc, hcm⟩
  have hsub : (S.length : Int) - 2 = (q : Int) := by omega
  have hnq : S.length - q = 2 := by omega
  have hqn : (q : Int) ≤ S.length := by omega
  have hqn2 : q ≤ S.length := by omega
  have hqc : (q : Int) ≤ vc := by omega
  have hqc2 : q ≤ vc := by omega
  have hcc : vc ≠ q := by omega
  have hcc2 : ¬ vc = q := hcc
  have hnc2 : (S.length : Int) ≤ vc := by omega
  have hq0 : (0 : Int) ≤ q := by omega
  have hne := HM5.out.BW
  have px : ∀ V, Touch W5 V [] → V.cell? ⟨g2, q, none⟩ = some (.int .u64 Y) := fun V t => by
    have h := (HM5.out.touch t).hs
    rw [hY]; exact own_at h q (by omega)
  have pz : ∀ V, Touch W5 V [] → V.cell? ⟨g2, q + 1, none⟩ = some (.int .u64 Z) := fun V t => by
    have h := (HM5.out.touch t).hs
    rw [hZ]; exact own_at h (q + 1) (by omega)
  have pb : ∀ V, Touch W5 V [] → V.cell? ⟨w.heap.size, 1, none⟩ = some (.slice (some ⟨g2, 0, none⟩) S.length vc) ∧ V.frozen? ⟨w.heap.size, 1, none⟩ = false := fun V t => ⟨(HM5.out.touch t).hb.cells.2.1, (HM5.out.touch t).hb.fr 1⟩
  have hlq : (S.take q).length = q := by rw [List.length_take]; omega
  have hql : q = (S.take q).length := hlq.symm
  have hq1000 : q ≤ 1000 := by omega
  have hl1000 : (S.take q).length ≤ 1000 := by omega
  -- the empty row, its lower values, the two
  have tA : Touch W5 (W5.alloc (.cells #[] 24)).drew [] := ((Touch.refl _ []).alloc _).drew
  obtain ⟨aA, cA, vA, rA, oA, uA⟩ := app_two (V := (W5.alloc (.cells #[] 24)).drew) tA (e := W5.heap.size) (Nat.le_refl _) (ownsRow_touch (empty_row W5 24 1) ((Touch.refl _ []).drew) (by simp)) (vrow_of (own_take (HM5.out.touch tA).hs q hqn2)) hql hq1000
  have tA2 : Touch W5 (vA.alloc (.cells #[.int .u64 Z, .int .u64 Y] 24)) [] := uA.alloc _
  obtain ⟨bA, dA, xA, sA, pA, qA⟩ := app_more tA2 (ownsRow_touch oA ((Touch.refl vA []).alloc _) (by simp)) hl1000 (vrow_of (own_two vA 0 (Nat.zero_le _) Z Y)) rfl (by decide)
  have hsB : (W5.alloc (.cells #[] 24)).heap.size = W5.heap.size + 1 := by simp
  have tB : Touch W5 ((W5.alloc (.cells #[] 24)).alloc (.cells #[.int .u64 Z, .int .u64 Y] 24)).drew [] := (((Touch.refl _ []).alloc _).alloc _).drew
  have hEB : valOwn ((W5.alloc (.cells #[] 24)).alloc (.cells #[.int .u64 Z, .int .u64 Y] 24)).drew W5.heap.size (.slice (some ⟨W5.heap.size, 0, none⟩) 0 0) [] := ownsRow_touch (empty_row W5 24 1) (((Touch.refl _ []).alloc _).drew) (by simp)
  obtain ⟨aB, cB, vB, rB, oB, uB⟩ := app_two (V := ((W5.alloc (.cells #[] 24)).alloc (.cells #[.int .u64 Z, .int .u64 Y] 24)).drew) tB (e := W5.heap.size) (Nat.le_refl _) hEB (vrow_of (own_take (HM5.out.touch tB).hs q hqn2)) hql hq1000
  have hpB : valOwn ((W5.alloc (.cells #[] 24)).alloc (.cells #[.int .u64 Z, .int .u64 Y] 24)) 0 (.slice (some ⟨W5.heap.size + 1, 0, none⟩) 2 2) [Z, Y] := by have := own_two (W5.alloc (.cells #[] 24)) 0 (Nat.zero_le _) Z Y; rw [hsB] at this; exact this
  have tBv : Touch ((W5.alloc (.cells #[] 24)).alloc (.cells #[.int .u64 Z, .int .u64 Y] 24)) vB [W5.heap.size] := by
    obtain ⟨a', c', V', e1, _, e3, _⟩ := val_app hEB (by simp) tB.size (vrow_of (own_take (HM5.out.touch tB).hs q hqn2)) hql hq1000 35
    simp only [List.length_nil, Nat.zero_add] at e1
    rw [rB] at e1
    simp only [Result.ok.injEq] at e1
    rw [e1.2]
    exact ((Touch.refl _ _).drew).trans e3 (fun x hx => .inl hx)
  obtain ⟨bB, dB, xB, sB, pB, qB⟩ := app_more uB oB hl1000 (vrow_of (ownsRow_touch hpB tBv (fun g hg hs => by simp [Value.ownBlock] at hg; simp at hs; omega))) rfl (by decide)
  have hsC : (W5.alloc (.cells #[.int .u64 Z, .int .u64 Y] 24)).heap.size = W5.heap.size + 1 := by simp
  have tC : Touch W5 ((W5.alloc (.cells #[.int .u64 Z, .int .u64 Y] 24)).alloc (.cells #[] 24)).drew [] := (((Touch.refl _ []).alloc _).alloc _).drew
  have hEC : valOwn ((W5.alloc (.cells #[.int .u64 Z, .int .u64 Y] 24)).alloc (.cells #[] 24)).drew (W5.heap.size + 1) (.slice (some ⟨W5.heap.size + 1, 0, none⟩) 0 0) [] := by have := empty_row (W5.alloc (.cells #[.int .u64 Z, .int .u64 Y] 24)) 24 1; rw [hsC] at this; exact ownsRow_touch this ((Touch.refl _ []).drew) (by simp)
  obtain ⟨aC, cC, vC, rC, oC, uC⟩ := app_two (V := ((W5.alloc (.cells #[.int .u64 Z, .int .u64 Y] 24)).alloc (.cells #[] 24)).drew) tC (e := W5.heap.size + 1) (by omega) (own_base hEC (by omega)) (vrow_of (own_take (HM5.out.touch tC).hs q hqn2)) hql hq1000
  have tCv : Touch (W5.alloc (.cells #[.int .u64 Z, .int .u64 Y] 24)) vC [] := by
    obtain ⟨a', c', V', e1, _, e3, _⟩ := val_app hEC (by simp) (by simp) (vrow_of (own_take (HM5.out.touch tC).hs q hqn2)) hql hq1000 35
    simp only [List.length_nil, Nat.zero_add] at e1
    rw [rC] at e1
    simp only [Result.ok.injEq] at e1
    rw [e1.2]
    exact (((Touch.refl _ []).alloc _).drew).trans e3 (fun x hx => .inr (by simp [Value.ownBlock] at hx; omega))
  obtain ⟨bC, dC, xC, sC, pC, qC⟩ := app_more uC oC hl1000 (vrow_of (ownsRow_touch (own_two W5 0 (Nat.zero_le _) Z Y) tCv (by simp))) rfl (by decide)
  have HMA : Hid _ := HM5.out.newrow qA pA
  have HMB : Hid _ := HM5.out.newrow qB pB
  have HMC : Hid _ := HM5.out.newrow qC pC
  simp only at HMA HMB HMC
  have e1 := px _ ((Touch.refl W5 []).drew)
  have e2 := px _ tA
  have e3 := px _ uA
  have f1 := pz _ ((Touch.refl W5 []).drew)
  have f2 := pz _ tA
  have f3 := pz _ uA
  have hbA := pb _ qA
  have hbB := pb _ qB
  have hbC := pb _ qC
  have HPA : Hid _ := (HM5.out.touch qA).hb.cells
  have HPB : Hid _ := (HM5.out.touch qB).hb.cells
  have HPC : Hid _ := (HM5.out.touch qC).hb.cells
  obtain ⟨jA, iA⟩ := hbA
  obtain ⟨jB, iB⟩ := hbB
  obtain ⟨jC, iC⟩ := hbC
  have hq1 : q + 1 < S.length := by omega
  clear tA oA uA tA2 pA qA hsB hEB tB oB uB hpB tBv pB qB hsC tC hEC oC uC tCv pC qC px pz pb hlq hql hl1000 HM5 hY hZ hne
  have HNQ : Hid _ := hnq
  clear HSL HF hq hpu hfo
  generalize S.length = n at *
  go_wp2_with fail
  rw [HW5.out]
  go_region_law (first | (refine step_append_run (by rfl) (.tmp 144) (.tmp 145) 35 35 (by rfl) (by rfl) (.slice (some ⟨W5.heap.size, 0, none⟩) 0 0) (.slice (some ⟨g2, 0, none⟩) q vc) (.slice aA q cA) vA (by rfl) (by rfl) rA ?_) | (refine step_append_run (by rfl) (.tmp 144) (.tmp 145) 35 35 (by rfl) (by rfl) (.slice (some ⟨W5.heap.size, 0, none⟩) 0 0) (.slice (some ⟨g2, 0, none⟩) q vc) (.slice aB q cB) vB (by rfl) (by rfl) rB ?_) | (refine step_append_run (by rfl) (.tmp 144) (.tmp 145) 35 35 (by rfl) (by rfl) (.slice (some ⟨W5.heap.size + 1, 0, none⟩) 0 0) (.slice (some ⟨g2, 0, none⟩) q vc) (.slice aC q cC) vC (by rfl) (by rfl) rC ?_) | (refine step_append_run (by rfl) (.tmp 146) (.tmp 153) 35 35 (by rfl) (by rfl) (.slice aA q cA) (.slice (some ⟨vA.heap.size, 0, none⟩) 2 2) (.slice bA (q + 2) dA) xA (by rfl) (by rfl) sA ?_) | (refine step_append_run (by rfl) (.tmp 146) (.tmp 153) 35 35 (by rfl) (by rfl) (.slice aB q cB) (.slice (some ⟨W5.heap.size + 1, 0, none⟩) 2 2) (.slice bB (q + 2) dB) xB (by rfl) (by rfl) sB ?_) | (refine step_append_run (by rfl) (.tmp 146) (.tmp 153) 35 35 (by rfl) (by rfl) (.slice aC q cC) (.slice (some ⟨W5.heap.size, 0, none⟩) 2 2) (.slice bC (q + 2) dC) xC (by rfl) (by rfl) sC ?_))
  all_goals first
    | (obtain ⟨p0, p1, p2, p3, p4, p5, p6⟩ := HPA.out
       try simp only at p0 p1 p2 p3 p4 p5 p6
       have HTH : Hid _ := st_there HMA.out.hr
       have HP : Hid _ := HMA.out.fin
       go_wp2_with (refine wpList_store_mid rfl 38 _ _ rfl (w.heap.size + 1) 0 (stA ⟨k + 1, S.take q ++ [Z, Y], l0, l1, l2, l3, O, fu⟩ (.slice bA (q + 2) dA) (.slice ua O.length uc)) ?_ ?_ ?_ ?_ ?_ ?_; rfl; rfl; exact HTH.out; exact Tryd.size_state; exact st_one _ _ _ _ _ _ _; refine wpList_nameR fun W8 hW8 => ?_; have H8 : Hid _ := HP.out W8 hW8; clear hW8 HTH HP p0 p1 p2 p3 p4 p5 p6)
       obtain ⟨b8, r8⟩ := H8.out
       refine bodyPost_ret (v := .tuple #[stV ⟨k + 1, S.take q ++ [Z, Y], l0, l1, l2, l3, O, fu⟩ (.slice bA (q + 2) dA) (.slice ua O.length uc), .int .i64 0]) (res_cell_slot (v := stV ⟨k + 1, S.take q ++ [Z, Y], l0, l1, l2, l3, O, fu⟩ (.slice bA (q + 2) dA) (.slice ua O.length uc)) (a := ⟨w.heap.size + 1, 0, none⟩) Tryd.results25 _ _ _ rfl ?_) rfl r8
       obtain ⟨z0', z1', z2', z3', z4', z5', z6'⟩ := b8.cells
       simp [go_sem, z0', z1', z2', z3', z4', z5', z6'])
    | (obtain ⟨p0, p1, p2, p3, p4, p5, p6⟩ := HPB.out
       try simp only at p0 p1 p2 p3 p4 p5 p6
       have HTH : Hid _ := st_there HMB.out.hr
       have HP : Hid _ := HMB.out.fin
       go_wp2_with (refine wpList_store_mid rfl 38 _ _ rfl (w.heap.size + 1) 0 (stA ⟨k + 1, S.take q ++ [Z, Y], l0, l1, l2, l3, O, fu⟩ (.slice bB (q + 2) dB) (.slice ua O.length uc)) ?_ ?_ ?_ ?_ ?_ ?_; rfl; rfl; exact HTH.out; exact Tryd.size_state; exact st_one _ _ _ _ _ _ _; refine wpList_nameR fun W8 hW8 => ?_; have H8 : Hid _ := HP.out W8 hW8; clear hW8 HTH HP p0 p1 p2 p3 p4 p5 p6)
       obtain ⟨b8, r8⟩ := H8.out
       refine bodyPost_ret (v := .tuple #[stV ⟨k + 1, S.take q ++ [Z, Y], l0, l1, l2, l3, O, fu⟩ (.slice bB (q + 2) dB) (.slice ua O.length uc), .int .i64 0]) (res_cell_slot (v := stV ⟨k + 1, S.take q ++ [Z, Y], l0, l1, l2, l3, O, fu⟩ (.slice bB (q + 2) dB) (.slice ua O.length uc)) (a := ⟨w.heap.size + 1, 0, none⟩) Tryd.results25 _ _ _ rfl ?_) rfl r8
       obtain ⟨z0', z1', z2', z3', z4', z5', z6'⟩ := b8.cells
       simp [go_sem, z0', z1', z2', z3', z4', z5', z6'])
    | (obtain ⟨p0, p1, p2, p3, p4, p5, p6⟩ := HPC.out
       try simp only at p0 p1 p2 p3 p4 p5 p6
       have HTH : Hid _ := st_there HMC.out.hr
       have HP : Hid _ := HMC.out.fin
       go_wp2_with (refine wpList_store_mid rfl 38 _ _ rfl (w.heap.size + 1) 0 (stA ⟨k + 1, S.take q ++ [Z, Y], l0, l1, l2, l3, O, fu⟩ (.slice bC (q + 2) dC) (.slice ua O.length uc)) ?_ ?_ ?_ ?_ ?_ ?_; rfl; rfl; exact HTH.out; exact Tryd.size_state; exact st_one _ _ _ _ _ _ _; refine wpList_nameR fun W8 hW8 => ?_; have H8 : Hid _ := HP.out W8 hW8; clear hW8 HTH HP p0 p1 p2 p3 p4 p5 p6)
       obtain ⟨b8, r8⟩ := H8.out
       refine bodyPost_ret (v := .tuple #[stV ⟨k + 1, S.take q ++ [Z, Y], l0, l1, l2, l3, O, fu⟩ (.slice bC (q + 2) dC) (.slice ua O.length uc), .int .i64 0]) (res_cell_slot (v := stV ⟨k + 1, S.take q ++ [Z, Y], l0, l1, l2, l3, O, fu⟩ (.slice bC (q + 2) dC) (.slice ua O.length uc)) (a := ⟨w.heap.size + 1, 0, none⟩) Tryd.results25 _ _ _ rfl ?_) rfl r8
       obtain ⟨z0', z1', z2', z3', z4', z5', z6'⟩ := b8.cells
       simp [go_sem, z0', z1', z2', z3', z4', z5', z6'])

end Go.Proofs.YtkpgfchglaemgaaDoor
