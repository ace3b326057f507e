/-
  package spec: Run, WALKED.
-/
import Derived.Test.YtlndbligbpfdpaaSkRun
namespace Go.Proofs.Ytlndbligbpfdpaa
set_option linter.unusedVariables false
set_option linter.unusedSimpArgs false
open Go.RowKit
attribute [local go_sem] Oper.semAt_some

set_option maxRecDepth 100000 in
set_option maxHeartbeats 8000000 in
theorem run_any {w : World} {ap : Option Addr} {cp : Nat} {l : List InsD} {ah : Option Addr} {ch : Nat} {h : List Int} (hh : VRow w (.slice ah h.length ch) h) (hl : InsRow w (.slice ap l.length cp) l) (hll : l.length ≤ 1000) (hlw : ∀ i ∈ l, i.Wf) (hS : SWf zWD h) (f : Int) :
    Calls Try.prog 18 #[.slice ap l.length cp, .slice ah h.length ch, .int .i64 f] w (RunQ w (runR l f 20 zWD h [])) := by
  have HCL : Hid (∀ W, Touch w W [] → HidC Try.prog 32 #[.slice ah h.length ch] W (PushP W h)) := fun W t => ⟨sclone_any (SRow.keep hh t (by simp)) (by have := hS.hl; omega)⟩
  have HPL : Hid (∀ (W : World) (D : WD) vs vo, Touch w W [] → VRow W vs D.st → VRow W vo D.out → SWf D [] → HidC Try.prog 20 #[.slice ap l.length cp, stV D vs vo, .int .i64 f] W (PlnQ W (plainX l D f))) := fun W D vs vo t r1 r2 k => ⟨plain_any r1 r2 (SRow.keep hl t (by simp)) hll hlw k f⟩
  have HBK : Hid (∀ (W : World) (D : WD) vs vo ha hc (h : List Int), Touch w W [] → VRow W vs D.st → VRow W vo D.out → VRow W (.slice ha h.length hc) h → SWf D h → HidC Try.prog 15 #[.slice ap l.length cp, stV D vs vo, .slice ha h.length hc, .int .i64 f] W (BlkF W (outX l D h f) D h)) := fun W D vs vo ha hc h t r1 r2 r3 k => ⟨block_fresh r1 r2 r3 (SRow.keep hl t (by simp)) hll hlw k f⟩
  have HLW : Hid _ := hlw
  have HS0 : Hid _ := hS
  have HR0 : Hid (OutB (w.alloc (.cells z0 41)) w.heap.size z0) := ⟨heap_alloc_new w _⟩
  have HT0 : Hid (Touch w (w.alloc (.cells z0 41)) []) := (Touch.refl w []).alloc _
  have HQS : Hid ((w.alloc (.cells z0 41)).heap.size = w.heap.size + 1) := by show _ = _; simp
  generalize hK : runR l f 20 zWD h [] = K
  have HK : Hid _ := hK
  clear hh hl hll hlw hS hK
  go_enter Try.func18, Try.ntmps18
  go_wp2_with fail
  generalize (w.alloc (.cells z0 41)) = Q at *
  refine (HCL.out _ HT0.out).out.mono ?_
  rintro e w1 ⟨vh, rfl, p1, t1⟩
  obtain ⟨ha, hc, rfl⟩ := owns_slice p1
  have tA : Touch w1 (w1.alloc (.cells (outA 0 zWD (.slice none 0 0) (.slice none 0 0) (.slice ha h.length hc) (.slice none 0 0) 0) 41)) [] := (Touch.refl w1 []).alloc _
  have hsz1 := t1.size
  have HN1 : Hid (NowAt w (w1.alloc (.cells (outA 0 zWD (.slice none 0 0) (.slice none 0 0) (.slice ha h.length hc) (.slice none 0 0) 0) 41)) w1.heap.size 0 zWD h [] (.slice none 0 0) (.slice none 0 0) (.slice ha h.length hc) (.slice none 0 0)) := by
    have hq := HQS.out
    refine ⟨⟨heap_alloc_new w1 _⟩, ⟨vrow_z _, vrow_z _, SRow.keep (vrow_of p1) tA (by simp), fun hne => absurd rfl hne, fun hne => absurd rfl hne, fun _ g hg => ⟨by have := own_ge p1 g hg; omega, fun q => ?_⟩⟩, World.ownsRow_nil _ _ _ _, by simp [Value.ownBlock], HT0.out.trans (t1.trans tA (by simp)) (by simp), HR0.out.touch (t1.trans tA (by simp)) (by simp), by omega⟩
    rcases q with q | q
    · have := own_lt p1 g hg; omega
    · simp [Value.ownBlock] at q
  clear HCL t1 tA p1 hsz1 HR0 HT0 HQS
  go_wp2_with fail
  generalize (w1.alloc (.cells (outA 0 zWD (.slice none 0 0) (.slice none 0 0) (.slice ha h.length hc) (.slice none 0 0) 0) 41)) = W1 at *
  generalize w1.heap.size = n at *
  go_loopw [8] (fun i wr => ∃ (k : Nat) (kd : Int) (D : WD) (h : List Int) (am : List Bool) (vs vo vh va : Value), i = .int .i64 k ∧ k ≤ 20 ∧ NowAt w wr n kd D h am vs vo vh va ∧ SWf D h ∧ am.length ≤ 300 * k ∧ runR l f (20 - k) D h am = K) (fun i _ => 20 - (intOf i).toNat)
  case atStart => exact ⟨0, 0, zWD, h, [], _, _, _, _, rfl, by omega, HN1.out, HS0.out, by simp, HK.out⟩
  case round =>
    obtain ⟨k, kd, D, h, am, vs, vo, vh, va, rfl, hk, hN, hsw, ham, hrun⟩ := hrel
    obtain ⟨sa, sc, rfl⟩ := hN.rw'.s.form
    obtain ⟨oa, oc, rfl⟩ := hN.rw'.u.form
    obtain ⟨ha, hc, rfl⟩ := hN.rw'.hp.form
    obtain ⟨aa, ac, rfl⟩ := owns_slice hN.ar
    have HN : Hid _ := hN
    have HSW : Hid _ := hsw
    have HAM : Hid _ := ham
    have HRUN : Hid _ := hrun
    have xn0 := hN.b.cell 0
    have xn1 := hN.b.cell 1
    have xn2 := hN.b.cell 2
    have xn3 := hN.b.cell 3
    have xn4 := hN.b.cell 4
    have xn5 := hN.b.cell 5
    have xn6 := hN.b.cell 6
    have xn7 := hN.b.cell 7
    simp only [outA, List.getElem?_toArray, List.getElem?_cons_zero, List.getElem?_cons_succ] at xn0 xn1 xn2 xn3 xn4 xn5 xn6 xn7
    have HPP := HPL.out wr D _ _ hN.t hN.rw'.s hN.rw'.u (hsw.heap (by simp) (fun x hx => by cases hx))
    have HPK : Hid (SWf (plainX l D f).2 h) := plain_keep HLW.out hsw f
    have HFAR : Hid ((plainX l D f).1.1 ≠ 4 → K = ((plainX l D f).1, (plainX l D f).2, h, am)) := fun q => by rw [← hrun]; exact run_far q
    have HOUT : Hid ((plainX l D f).1.1 = 4 → k = 20 → K = ((3, 11), (plainX l D f).2, h, am)) := fun q q2 => by rw [← hrun, q2]; exact run_out q
    have HNEX : Hid ((plainX l D f).1.1 = 4 → k < 20 → K = if (outX l (plainX l D f).2 h f).1 = 0 then runR l f (20 - (k + 1)) (outX l (plainX l D f).2 h f).2.D (outX l (plainX l D f).2 h f).2.h (am ++ (outX l (plainX l D f).2 h f).2.arms) else ((if (outX l (plainX l D f).2 h f).1 = -1 then 2 else 3, if (outX l (plainX l D f).2 h f).1 = -1 then 0 else (outX l (plainX l D f).2 h f).1), (plainX l D f).2, h, am)) := fun q q2 => by
      rw [← hrun, show 20 - k = (20 - (k + 1)) + 1 by omega]; exact run_next q
    generalize plainX l D f = P at *
    obtain ⟨⟨pk, pe⟩, D2⟩ := P
    simp only at HPK HFAR HOUT HNEX
    clear hN hsw ham hrun HN1 HS0 HK HPL
    go_wp2_with fail
    refine HPP.out.mono ?_
    rintro e w2 ⟨sa2, sc2, oa2, oc2, rfl, q1, q2, t2, z1, z2⟩
    have HB : Hid (BothAt w (w2.alloc (.cells (outA pk D2 (.slice sa2 D2.st.length sc2) (.slice oa2 D2.out.length oc2) (.slice none 0 0) (.slice none 0 0) pe) 41)) n w2.heap.size kd D h am _ _ _ _ pk pe D2 (.slice sa2 D2.st.length sc2) (.slice oa2 D2.out.length oc2)) := both_new HN.out q1 q2 t2 z1 z2
    clear xn0 xn1 xn2 xn3 xn4 xn5 xn6 xn7 q1 q2 t2 z1 z2 HPP HN
    have ho := HB.out.o
    have hn := HB.out.N.b
    have yo0 := ho.cell 0
    have yo1 := ho.cell 1
    have yo2 := ho.cell 2
    have yo3 := ho.cell 3
    have yo4 := ho.cell 4
    have yo5 := ho.cell 5
    have yo6 := ho.cell 6
    have yo7 := ho.cell 7
    have yo8 := ho.cell 8
    have yo9 := ho.cell 9
    have yo10 := ho.cell 10
    have xn8 := hn.cell 8
    have xn9 := hn.cell 9
    have g8 := ho.fr 8
    have g9 := ho.fr 9
    simp only [outA, List.getElem?_toArray, List.getElem?_cons_zero, List.getElem?_cons_succ] at yo0 yo1 yo2 yo3 yo4 yo5 yo6 yo7 yo8 yo9 yo10 xn8 xn9
    by_cases h4 : pk = 4
    · subst h4
      by_cases hk20 : k = 20
      · have hK4 := HOUT.out rfl hk20
        subst hK4
        subst hk20
        obtain ⟨th, fin⟩ := both_out HB.out
        have HTH : Hid _ := th
        have HEND : Hid _ := fin
        clear hn ho th fin HNEX HOUT HFAR HBK HPK
        go_wp2_with (refine wpList_store_mid rfl 41 _ _ rfl w.heap.size 0 (outA 3 D2 (.slice sa2 D2.st.length sc2) (.slice oa2 D2.out.length oc2) (.slice ha h.length hc) (.slice aa am.length ac) 11) rfl rfl HTH.out Try.size_out (out_one _ _ _ _ _ _ _ _ _ _ _ _ _ _ _) ?_; refine wpList_nameS fun W8 hW8 => ?_; have H8 : Hid _ := HEND.out W8 hW8; clear hW8 HEND HTH)
        obtain ⟨b8, r8⟩ := H8.out
        refine bodyPost_ret (v := .agg (outA 3 D2 (.slice sa2 D2.st.length sc2) (.slice oa2 D2.out.length oc2) (.slice ha h.length hc) (.slice aa am.length ac) 11)) ?_ rfl r8
        rw [res_cell rfl]
        have p0 := b8.cell 0
        have p1 := b8.cell 1
        have p2 := b8.cell 2
        have p3 := b8.cell 3
        have p4 := b8.cell 4
        have p5 := b8.cell 5
        have p6 := b8.cell 6
        have p7 := b8.cell 7
        have p8 := b8.cell 8
        have p9 := b8.cell 9
        have p10 := b8.cell 10
        simp only [outA, List.getElem?_toArray, List.getElem?_cons_zero, List.getElem?_cons_succ] at p0 p1 p2 p3 p4 p5 p6 p7 p8 p9 p10
        simp [go_sem, p0, p1, p2, p3, p4, p5, p6, p7, p8, p9, p10]
      · have hk20' : ((k : Int) == 20) = false := by simpa using (by omega : ¬ (k : Int) = 20)
        have hK4 := HNEX.out rfl (by omega)
        have HKK : Hid _ := hK4
        have HBP := HBK.out _ D2 _ _ _ _ h HB.out.N.t HB.out.R.s HB.out.R.u HB.out.R.hp HPK.out
        have HKP : Hid ((outX l D2 h f).1 = 0 → SWf (outX l D2 h f).2.D (outX l D2 h f).2.h ∧ (outX l D2 h f).2.arms.length ≤ 300) := fun q => out_keep HLW.out HPK.out q
        generalize outX l D2 h f = r at *
        have hkk : (k : Int) < 20 := by omega
        clear hn ho hK4 HNEX HOUT HFAR HPK
        go_wp2_with fail
        generalize (w2.alloc (.cells (outA 4 D2 (.slice sa2 D2.st.length sc2) (.slice oa2 D2.out.length oc2) (.slice none 0 0) (.slice none 0 0) pe) 41)) = W2 at *
        generalize w2.heap.size = o1 at *
        clear yo0 yo1 yo2 yo3 yo4 yo5 yo6 yo7 yo8 yo9 yo10 xn8 xn9 g8 g9
        refine HBP.out.mono ?_
        rintro e w3 (⟨b0, vs1, vo1, vh1, va1, rfl, r1, r2, r3, r4, t3, y1, y2, y3, y4⟩ | ⟨b0, vs1, vo1, vh1, rfl, r1, r2, r3, t3, y1, y2, y3⟩)
        · obtain ⟨sb, sd, rfl⟩ := r1.form
          obtain ⟨ob1, od, rfl⟩ := r2.form
          obtain ⟨hb, hd, rfl⟩ := r3.form
          obtain ⟨ab, ad, rfl⟩ := r4.form
          obtain ⟨kp1, kp2⟩ := HKP.out b0
          have hKr : K = _ := HKK.out
          rw [if_pos b0] at hKr
          obtain ⟨th, mid⟩ := both_blk HB.out t3 (kd1 := 1) (er1 := 0) r1 r2 r3 r4 y1 y2 y3 y4 (by have := HAM.out; omega)
          have HTH : Hid _ := th
          have HKR : Hid _ := hKr
          have HK1 : Hid _ := kp1
          have HK2 : Hid ((am ++ r.2.arms).length ≤ 300 * (k + 1)) := by show _ ≤ _; rw [List.length_append]; have := HAM.out; omega
          obtain ⟨nm, hnm⟩ : ∃ nm, nm = (am ++ r.2.arms).length := ⟨_, rfl⟩
          rw [← hnm] at mid
          have HMID : Hid _ := mid
          clear r1 r2 r3 r4 t3 y1 y2 y3 y4 kp1 kp2 hKr th mid HBP HKP HKK hnm
          go_wp2_with (first
          | (refine wpList_store_mid rfl 41 _ _ rfl o1 0 (outA 1 r.2.D (.slice sb r.2.D.st.length sd) (.slice ob1 r.2.D.out.length od) (.slice hb r.2.h.length hd) (.slice ab r.2.arms.length ad) 0) rfl rfl HTH.out Try.size_out (out_one _ _ _ _ _ _ _ _ _ _ _ _ _ _ _) ?_; refine wpList_nameS fun W3 hW3 => ?_; obtain ⟨m9, p9, a4, c4, w4, h4, e1, e2, e2b, e3, e4⟩ := HMID.out W3 hW3; have f9 := e1.fr 9; have k0 := e1.cell 0; have k1 := e1.cell 1; have k2 := e1.cell 2; have k3 := e1.cell 3; have k4 := e1.cell 4; have k5 := e1.cell 5; have k6 := e1.cell 6; have k7 := e1.cell 7; have k8 := e1.cell 8; have k9 := e1.cell 9; have k10 := e1.cell 10; simp only [outA, List.getElem?_toArray, List.getElem?_cons_zero, List.getElem?_cons_succ] at m9 p9 k0 k1 k2 k3 k4 k5 k6 k7 k8 k9 k10; have HTH2 : Hid _ := e2; have HST2 : Hid _ := e3 (by trivial); clear hW3 HMID HTH e1 e2 e2b e3 e4)
          | (at_builtin; refine Lib.wpList_append_run _ rfl _ _ _ _ rfl _ _ rfl rfl _ _ h4 ?_; clear h4)
          | (refine wpList_store_mid rfl 41 _ _ rfl n 0 (outA 1 r.2.D (.slice sb r.2.D.st.length sd) (.slice ob1 r.2.D.out.length od) (.slice hb r.2.h.length hd) (.slice a4 nm c4) 0) rfl rfl HTH2.out Try.size_out (out_one _ _ _ _ _ _ _ _ _ _ _ _ _ _ _) ?_; refine wpList_nameS fun W5 hW5 => ?_; have H8 : Hid _ := HST2.out W5 hW5; clear hW5 HST2 HTH2 k0 k1 k2 k3 k4 k5 k6 k7 k8 k9 k10 m9 p9 f9))
          go_roundw
          case rel => exact ⟨k + 1, 1, r.2.D, r.2.h, am ++ r.2.arms, _, _, _, _, by go_num, by omega, H8.out, HK1.out, HK2.out, HKR.out.symm⟩
          case measure => simp [intOf]; omega
        · obtain ⟨sb, sd, rfl⟩ := r1.form
          obtain ⟨ob1, od, rfl⟩ := r2.form
          obtain ⟨hb, hd, rfl⟩ := r3.form
          have hKr : K = _ := HKK.out
          rw [if_neg b0] at hKr
          have nilB : SRow 1 bcell w3 (.slice none ([] : List Bool).length 0) ([] : List Bool) := ⟨none, 0, rfl, fun h => absurd rfl h⟩
          obtain ⟨kf, hkf⟩ : ∃ kf : Int, kf = (if r.1 = -1 then 2 else 3) := ⟨_, rfl⟩
          obtain ⟨ef, hef⟩ : ∃ ef : Int, ef = (if r.1 = -1 then 0 else r.1) := ⟨_, rfl⟩
          have hk1 : (kf == 1) = false := by rw [hkf]; split <;> rfl
          rw [← hkf, ← hef] at hKr
          rw [← hkf, ← hef]
          obtain ⟨th, mid⟩ := both_blk HB.out t3 (kd1 := kf) (er1 := ef) r1 r2 r3 nilB y1 y2 y3 (fun g hg => by simp [Value.ownBlock] at hg) (by have := HAM.out; simp; omega)
          obtain ⟨nm, hnm⟩ : ∃ nm, nm = (am ++ ([] : List Bool)).length := ⟨_, rfl⟩
          rw [← hnm] at mid
          rw [show (([] : List Bool).length) = 0 from rfl] at mid
          have HTH : Hid _ := th
          have HMID : Hid _ := mid
          have HKR : Hid (K = ((kf, ef), D2, h, am ++ ([] : List Bool))) := by show _ = _; rw [hKr, List.append_nil]
          clear r1 r2 r3 t3 y1 y2 y3 hKr th mid HBP HKP HKK hkf hef nilB hnm
          go_wp2_with (first
          | (refine wpList_store_mid rfl 41 _ _ rfl o1 0 (outA kf D2 (.slice sb D2.st.length sd) (.slice ob1 D2.out.length od) (.slice hb h.length hd) (.slice none 0 0) ef) rfl rfl HTH.out Try.size_out (out_one _ _ _ _ _ _ _ _ _ _ _ _ _ _ _) ?_; refine wpList_nameS fun W3 hW3 => ?_; obtain ⟨m9, p9, a4, c4, w4, h4, e1, e2, e2b, e3, e4⟩ := HMID.out W3 hW3; have f9 := e1.fr 9; have k0 := e1.cell 0; have k1 := e1.cell 1; have k2 := e1.cell 2; have k3 := e1.cell 3; have k4 := e1.cell 4; have k5 := e1.cell 5; have k6 := e1.cell 6; have k7 := e1.cell 7; have k8 := e1.cell 8; have k9 := e1.cell 9; have k10 := e1.cell 10; simp only [outA, List.getElem?_toArray, List.getElem?_cons_zero, List.getElem?_cons_succ] at m9 p9 k0 k1 k2 k3 k4 k5 k6 k7 k8 k9 k10; have HTH2 : Hid _ := e2b; have HST2 : Hid _ := e4; clear hW3 HMID HTH e1 e2 e2b e3 e4)
          | (at_builtin; refine Lib.wpList_append_run _ rfl _ _ _ _ rfl _ _ rfl rfl _ _ h4 ?_; clear h4)
          | (refine wpList_store_mid rfl 41 _ _ rfl w.heap.size 0 (outA kf D2 (.slice sb D2.st.length sd) (.slice ob1 D2.out.length od) (.slice hb h.length hd) (.slice a4 nm c4) ef) rfl rfl HTH2.out Try.size_out (out_one _ _ _ _ _ _ _ _ _ _ _ _ _ _ _) ?_; refine wpList_nameS fun W5 hW5 => ?_; have H8 : Hid _ := HST2.out W5 hW5; clear hW5 HST2 HTH2 k0 k1 k2 k3 k4 k5 k6 k7 k8 k9 k10 m9 p9 f9))
          obtain ⟨b8, r8⟩ := H8.out
          rw [← HKR.out] at r8
          refine bodyPost_ret (v := .agg (outA kf D2 (.slice sb D2.st.length sd) (.slice ob1 D2.out.length od) (.slice hb h.length hd) (.slice a4 nm c4) ef)) ?_ rfl r8
          rw [res_cell rfl]
          have p0 := b8.cell 0
          have p1 := b8.cell 1
          have p2 := b8.cell 2
          have p3 := b8.cell 3
          have p4 := b8.cell 4
          have p5 := b8.cell 5
          have p6 := b8.cell 6
          have p7 := b8.cell 7
          have p8 := b8.cell 8
          have p9 := b8.cell 9
          have p10 := b8.cell 10
          simp only [outA, List.getElem?_toArray, List.getElem?_cons_zero, List.getElem?_cons_succ] at p0 p1 p2 p3 p4 p5 p6 p7 p8 p9 p10
          simp [go_sem, p0, p1, p2, p3, p4, p5, p6, p7, p8, p9, p10]
    · have h4' : (pk == 4) = false := by simpa using h4
      have hK4 := HFAR.out h4
      subst hK4
      obtain ⟨th, fin⟩ := both_far HB.out
      have HTH : Hid _ := th
      have HEND : Hid _ := fin
      have hne := HB.out.hne
      have hdw : ∀ W, Touch W W.drew [] := fun W => (Touch.refl W []).drew
      clear hn ho th fin HNEX HOUT HFAR HBK HPK h4
      go_wp2_with fail
      generalize (w2.alloc (.cells (outA pk D2 (.slice sa2 D2.st.length sc2) (.slice oa2 D2.out.length oc2) (.slice none 0 0) (.slice none 0 0) pe) 41)) = W6 at *
      generalize w2.heap.size = o2 at *
      have HS : Hid (∀ W', Touch W6 W' [o2] → W'.cell? ⟨n, 8, none⟩ = some (.slice ha h.length hc) ∧ W'.cell? ⟨n, 9, none⟩ = some (.slice aa am.length ac)) := fun W' t => by
        have hn6 := HB.out.N.b.touch t (by simpa using HB.out.hne)
        exact ⟨hn6.cell 8, hn6.cell 9⟩
      have hdw : Touch W6 W6.drew [] := (Touch.refl W6 []).drew
      go_region_held3 (fun W' => W'.cell? ⟨n, 8, none⟩ = some (.slice ha h.length hc) ∧ W'.cell? ⟨n, 9, none⟩ = some (.slice aa am.length ac)) ((first | exact HS.out _ (hdw.mono (by simp)) | exact HS.out _ ((hdw.mono (by simp)).setCell (.inl (by simp)) _) | exact HS.out _ (((hdw.mono (by simp)).setCell (.inl (by simp)) _).setCell (.inl (by simp)) _))) (fail)
      rename_i hHeld
      clear hHeld
      go_wp2_with (refine wpList_store_mid rfl 41 _ _ rfl w.heap.size 0 (outA pk D2 (.slice sa2 D2.st.length sc2) (.slice oa2 D2.out.length oc2) (.slice ha h.length hc) (.slice aa am.length ac) pe) rfl rfl HTH.out Try.size_out (out_one _ _ _ _ _ _ _ _ _ _ _ _ _ _ _) ?_; refine wpList_nameS fun W8 hW8 => ?_; have H8 : Hid _ := HEND.out W8 hW8; clear hW8 HEND HTH)
      obtain ⟨b8, r8⟩ := H8.out
      refine bodyPost_ret (v := .agg (outA pk D2 (.slice sa2 D2.st.length sc2) (.slice oa2 D2.out.length oc2) (.slice ha h.length hc) (.slice aa am.length ac) pe)) ?_ rfl r8
      rw [res_cell rfl]
      have p0 := b8.cell 0
      have p1 := b8.cell 1
      have p2 := b8.cell 2
      have p3 := b8.cell 3
      have p4 := b8.cell 4
      have p5 := b8.cell 5
      have p6 := b8.cell 6
      have p7 := b8.cell 7
      have p8 := b8.cell 8
      have p9 := b8.cell 9
      have p10 := b8.cell 10
      simp only [outA, List.getElem?_toArray, List.getElem?_cons_zero, List.getElem?_cons_succ] at p0 p1 p2 p3 p4 p5 p6 p7 p8 p9 p10
      simp [go_sem, p0, p1, p2, p3, p4, p5, p6, p7, p8, p9, p10]

end Go.Proofs.Ytlndbligbpfdpaa
