/-
  SpecStack, WALKED.
-/
import Derived.Test.YtlndbligbpfdpaaSkPlain
import Derived.Test.YtlndbligbpfdpaaSkSound
import Derived.Test.YtlndbligbpfdpaaAllD
import Derived.Test.YtlndbligbpfdpaaVfRCheck
namespace Go.Proofs.Ytlndbligbpfdpaa
set_option linter.unusedVariables false
set_option linter.unusedSimpArgs false
open Go.RowKit
attribute [local go_sem] Oper.semAt_some

theorem insv_cut {w : World} {ao : Option Addr} {cap : Nat} {l : List InsD} (h : InsV w (.slice ao l.length cap) l) : InsV w (.slice ao (l.take 64).length cap) (l.take 64) := by
  rw [cut_len]; exact row_cut h 64
theorem swf_z : SWf zWD [] := ⟨by simp, by simp, by simp, fun x hx => (by cases hx), fun x hx => (by cases hx), wf_zero, wf_zero, wf_zero, wf_zero⟩

set_option maxRecDepth 100000 in
set_option maxHeartbeats 4000000 in
theorem specstack_any {w : World} {ao : Option Addr} {cap : Nat} {l : List InsD} (hr : InsV w (.slice ao l.length cap) l) (hwf : ∀ i ∈ l, i.Wf) (hc : l.length ≤ cap ∧ cap ≤ 9223372036854775807) (f : Int) (hf : 0 ≤ f ∧ f ≤ 255) :
    Calls Try.prog 7 #[.slice ao l.length cap, .int .u8 f] w fun e w' => e = .returned (.bool true) ∧ Touch w w' [] := by
  have FW := HidC.mk (spfew_any ao l.length cap hc.1 hc.2 w)
  have hr' := insv_cut hr
  have hn : (l.take 64).length ≤ 64 := by rw [List.length_take]; omega
  have hwf' : ∀ i ∈ l.take 64, i.Wf := fun i hi => hwf i (List.mem_of_mem_take hi)
  rw [← cut_len] at FW
  generalize l.take 64 = m at *
  have CK := HidC.mk (rcheck_any (N := m.length) rfl (by omega) hr' hwf' 12)
  have DP : Hid (∀ W, Touch w W [] → HidC _ _ _ _ _) := fun W t => ⟨rdepths_any (w := W) (N := m.length) rfl (by omega) (SRow.keep hr' t (by simp))⟩
  have PL : Hid (∀ W, Touch w W [] → HidC _ _ _ _ _) := fun W t => ⟨plain_any (w := W) (D := zWD) (vrow_z W) (vrow_z W) (SRow.keep hr' t (by simp)) (by omega) hwf' swf_z f⟩
  have hfc : f = f := rfl
  obtain ⟨hf0, hf1⟩ := hf
  by_cases h0 : (chkV m 12).2 = 0
  · have ok := chk_ok h0
    have hd := dep_ok ok.dep
    have hat : AtD m (depV m).2.2 (plainX m zWD f).2 := (AtD.start hd ok.n0 _ _ _ _ _).pln hd _
    have hdl := hd.len
    have n0 := ok.n0
    have e0 := ok.dep
    unfold DepPost at DP
    unfold ChkPost at CK
    rw [h0] at CK
    simp only [e0] at DP
    generalize plainX m zWD f = R at *
    generalize (depV m).2.2 = d at *
    generalize (depV m).2.1 = dk at *
    generalize (chkV m 12).1 = ck at *
    obtain ⟨hp0, hp1, hp2⟩ := hat
    clear ok hd h0 hwf hwf' hr hr' e0 hfc
    generalize m.length = N at *
    have HP : Hid (dAt d R.2.pc.toNat = (R.2.st.length : Int)) := hp2
    have HDL : Hid (d.length = N) := hdl
    clear hp2 hdl
    go_enter Try.func7, Try.ntmps7
    go_wp2_with fail
    refine FW.out.mono ?_
    rintro e w1 ⟨rfl, rfl⟩
    clear FW
    go_wp2_with fail
    refine CK.out.mono ?_
    rintro e w2 ⟨rfl, t2⟩
    clear CK
    go_wp2_with fail
    refine (DP.out _ t2).out.mono ?_
    rintro e w3 ⟨v, rfl, ho, t3⟩
    clear DP
    have T3 : Hid (Touch w1 w3 []) := t2.trans t3 (by simp)
    have HO : Hid _ := ho
    clear t2 t3 ho
    go_wp2_with fail
    refine (PL.out _ T3.out).out.mono ?_
    rintro e w4 ⟨sa, sc, oa, oc, rfl, _, _, t4, _, _⟩
    clear PL
    obtain ⟨gd, cd, rfl⟩ := Go.Joins.ownsRow_form HO.out (by rw [HDL.out]; omega)
    have hda : DAt w4 w2.heap.size gd N cd d := ⟨by have := ownsRow_touch HO.out t4 (by simp); rw [HDL.out] at this; exact this, HDL.out⟩
    have hck := hda.at R.2.pc.toNat (by omega)
    rw [HP.out] at hck
    rw [HDL.out]
    obtain ⟨k, hk⟩ : ∃ k : Nat, R.2.pc = (k : Int) := ⟨R.2.pc.toNat, by omega⟩
    have hk2 : R.2.pc.toNat = k := by omega
    rw [hk2] at hck
    have tP : Touch w4 (w4.alloc (.cells (outA R.1.1 R.2 (.slice sa R.2.st.length sc) (.slice oa R.2.out.length oc) (.slice none 0 0) (.slice none 0 0) R.1.2) 41)) [] := (Touch.refl w4 []).alloc _
    have hO : OutB (w4.alloc (.cells (outA R.1.1 R.2 (.slice sa R.2.st.length sc) (.slice oa R.2.out.length oc) (.slice none 0 0) (.slice none 0 0) R.1.2) 41)) w4.heap.size (outA R.1.1 R.2 (.slice sa R.2.st.length sc) (.slice oa R.2.out.length oc) (.slice none 0 0) (.slice none 0 0) R.1.2) := ⟨heap_alloc_new w4 _⟩
    have HOW : Hid _ := hO
    have hck2 := (tP.cell (p := ⟨gd, k, none⟩) (World.block_lt_of_cell? _ _ hck) (by simp)).trans hck
    have HCK : Hid _ := hck2
    have HTP : Hid (Touch w1 (w4.alloc (.cells (outA R.1.1 R.2 (.slice sa R.2.st.length sc) (.slice oa R.2.out.length oc) (.slice none 0 0) (.slice none 0 0) R.1.2) 41)) []) := (T3.out.trans t4 (by simp)).trans tP (by simp)
    obtain ⟨⟨kd, er⟩, D⟩ := R
    simp only at hk hp0 hp1 HOW HCK HTP ⊢
    obtain ⟨pc, st, l0, l1, l2, l3, out, fu⟩ := D
    simp only at hk hp0 hp1 HOW HCK HTP ⊢
    subst hk
    generalize st.length = ns at *
    generalize out.length = no at *
    have x1 := hO.cell 1
    clear hO hck hck2 hda tP t4 HO HP HDL T3 hk2 x1
    have y1 := HOW.out.cell 1
    have y2 := HOW.out.cell 2
    simp only [outA, List.getElem?_toArray, List.getElem?_cons_zero, List.getElem?_cons_succ] at y1 y2
    have hkN : (k : Int) < N := by omega
    have HS : Hid (∀ W, Touch (w4.alloc (.cells (outA kd ⟨k, st, l0, l1, l2, l3, out, fu⟩ (.slice sa ns sc) (.slice oa no oc) (.slice none 0 0) (.slice none 0 0) er) 41)) W [] → W.cell? ⟨w4.heap.size, 1, none⟩ = some (.int .i64 k) ∧ W.cell? ⟨w4.heap.size, 2, none⟩ = some (.slice sa ns sc) ∧ W.cell? ⟨gd, k, none⟩ = some (.int .i64 ns)) := fun W t => ⟨(HOW.out.touch t (by simp)).cell 1, (HOW.out.touch t (by simp)).cell 2, (t.cell (p := ⟨gd, k, none⟩) (World.block_lt_of_cell? _ _ HCK.out) (by simp)).trans HCK.out⟩
    clear HOW HCK y1 y2
    go_wp2_with fail
    generalize w4.heap.size = p at *
    generalize hQ : (w4.alloc _) = Q at *
    have hd : Touch Q Q.drew [] := (Touch.refl Q []).drew
    clear hQ
    go_region_held3 (fun w' => w'.cell? ⟨p, 1, none⟩ = some (.int .i64 k) ∧ w'.cell? ⟨p, 2, none⟩ = some (.slice sa ns sc) ∧ w'.cell? ⟨gd, k, none⟩ = some (.int .i64 ns)) ((first | exact HS.out _ hd | exact HS.out _ t3)) ((go_at_call 12; refine (splive_any _).mono ?_; rintro e w3' ⟨rfl, t3'⟩; have t3 : Touch Q w3' [] := hd.trans t3' (by simp)))
    go_wp2
    go_ret
    exact ⟨rfl, HTP.out.trans t3 (by simp)⟩
  · have h0' : ((chkV m 12).2 == 0) = false := by simpa using h0
    have h0'' : ((chkV m 12).2 != 0) = true := by simp [bne, h0']
    unfold ChkPost at CK
    generalize (chkV m 12).1 = ck at *
    generalize (chkV m 12).2 = ce at *
    clear h0 hwf hwf' hr hr' hfc DP PL
    go_enter Try.func7, Try.ntmps7
    go_wp2_with fail
    refine FW.out.mono ?_
    rintro e w1 ⟨rfl, rfl⟩
    clear FW
    go_wp2_with fail
    refine CK.out.mono ?_
    rintro e w2 ⟨rfl, t2⟩
    clear CK
    have T2 : Hid _ := t2
    clear t2
    go_wp2_with fail
    refine (splive_any _).mono ?_
    rintro e w5 ⟨rfl, t5⟩
    have T5 : Hid _ := T2.out.trans t5 (by simp)
    clear t5 T2
    go_wp2
    go_ret
    exact ⟨rfl, T5.out⟩

end Go.Proofs.Ytlndbligbpfdpaa
