/-
  SpecSafe, WALKED.
-/
import Derived.Test.YtlndbligbpfdpaaAllF
import Derived.Test.YtlndbligbpfdpaaAllG
import Derived.Test.YtlndbligbpfdpaaAllD
import Derived.Test.YtlndbligbpfdpaaVfRCheck
import Derived.OpenShut
import Derived.Lib.SmallJoins
namespace Go.Proofs.Ytlndbligbpfdpaa
set_option linter.unusedVariables false
set_option linter.unusedSimpArgs false
open Go.RowKit
attribute [local go_sem] Oper.semAt_some

theorem insv_cut2 {w : World} {ao : Option Addr} {cap : Nat} {l : List InsD} (h : InsV w (.slice ao l.length cap) l) : InsV w (.slice ao (l.take 64).length cap) (l.take 64) := by
  rw [cut_len]; exact row_cut h 64
theorem swf_h {h : List Int} (hl : h.length ≤ 12) (hw : ∀ x ∈ h, Wf64 x) : SWf zWD h := ⟨by simp, by simp, by omega, fun x hx => (by cases hx), hw, wf_zero, wf_zero, wf_zero, wf_zero⟩

set_option maxRecDepth 100000 in
set_option maxHeartbeats 4000000 in
theorem specsafe_any {w : World} {ao : Option Addr} {cap : Nat} {l : List InsD} (hr : InsV w (.slice ao l.length cap) l) (hwf : ∀ i ∈ l, i.Wf) (hc : l.length ≤ cap ∧ cap ≤ 9223372036854775807) {ah : Option Addr} {ch : Nat} {h0 : List Int} (hh0 : VRow w (.slice ah h0.length ch) h0) (hw0 : ∀ x ∈ h0, Wf64 x) (hch : h0.length ≤ ch ∧ ch ≤ 9223372036854775807) :
    Calls Try.prog 6 #[.slice ao l.length cap, .slice ah h0.length ch] w fun e w' => e = .returned (.bool true) ∧ Touch w w' [] := by
  have FW : ∀ W, HidC _ _ _ _ _ := fun W => HidC.mk (spfew_any ao l.length cap hc.1 hc.2 W)
  have hr' := insv_cut2 hr
  have hn : (l.take 64).length ≤ 64 := by rw [List.length_take]; omega
  have hwf' : ∀ i ∈ l.take 64, i.Wf := fun i hi => hwf i (List.mem_of_mem_take hi)
  rw [← cut_len] at FW
  generalize l.take 64 = m at *
  have hh : VRow w (.slice ah (h0.take 12).length ch) (h0.take 12) := by rw [cut_len]; exact row_cut hh0 12
  have hhl : (h0.take 12).length ≤ 12 := by rw [List.length_take]; omega
  have hhw : ∀ x ∈ h0.take 12, Wf64 x := fun x hx => hw0 x (List.mem_of_mem_take hx)
  have hcl : (h0.take 12).length = cutN 12 h0.length := cut_len 12 h0
  generalize h0.take 12 = h at *
  have CK := HidC.mk (rcheck_any (N := m.length) rfl (by omega) hr' hwf' h.length)
  have RN : Hid (∀ W, Touch w W [] → HidC _ _ _ _ _) := fun W t => ⟨run_any (w := W) (SRow.keep hh t (by simp)) (SRow.keep hr' t (by simp)) (by omega) hwf' (swf_h hhl hhw) 300⟩
  have hsafe : (chkV m h.length).2 = 0 → (runR m 300 20 zWD h []).1.1 ≠ 3 ∨ (runR m 300 20 zWD h []).1.2 = 11 ∨ (runR m 300 20 zWD h []).1.2 = 4 ∨ (runR m 300 20 zWD h []).1.2 = 2 := fun q => by
    have ok := chk_ok q
    have hd := dep_ok ok.dep
    exact run_safe ok hd 300 20 zWD h [] (AtD.start hd ok.n0 _ _ _ _ _) rfl
  unfold ChkPost at CK
  generalize runR m 300 20 zWD h [] = K at *
  generalize (chkV m h.length).1 = ck at *
  generalize (chkV m h.length).2 = ce at *
  have HSF : Hid _ := hsafe
  have h64 : (m.length : Int) ≤ 64 := by omega
  clear hsafe hr hr' hwf hwf' hh hhw hh0 hw0
  by_cases h12 : 12 < h0.length
  · have e12 : h.length = 12 := by rw [hcl]; unfold cutN; rw [if_pos h12]
    rw [e12] at CK RN
    have g1 : (12 : Int) < h0.length := by omega
    have g2 : (12 : Int) ≤ ch := by omega
    have g3 : 12 ≤ ch := by omega
    obtain ⟨hc1, hc2⟩ := hch
    obtain ⟨c1, c2⟩ := hc
    clear hcl e12 hhl h12
    go_enter Try.func6, Try.ntmps6
    go_wp2_with fail
    refine (FW _).out.mono ?_
    rintro e w1 ⟨rfl, rfl⟩
    go_wp2_with fail
    refine CK.out.mono ?_
    rintro e w2 ⟨rfl, t2⟩
    clear CK
    have T2 : Hid _ := t2
    clear t2
    by_cases hce : ce = 0
    · subst hce
      have hk := HSF.out rfl
      go_wp2_with fail
      refine (FW _).out.mono ?_
      rintro e _ ⟨rfl, rfl⟩
      clear FW
      go_wp2_with fail
      refine (RN.out _ T2.out).out.mono ?_
      rintro e w3 ⟨sa, sc, oa, oc, ha, hc', aa, ac, rfl, _, _, _, _, t3⟩
      clear RN HSF
      obtain ⟨⟨kd, er⟩, D, H, am⟩ := K
      simp only at hk
      generalize D.st.length = ns at *
      generalize D.out.length = no at *
      generalize H.length = nh at *
      generalize am.length = na at *
      have tA : Touch w3 (w3.alloc (.cells (outA kd D (.slice sa ns sc) (.slice oa no oc) (.slice ha nh hc') (.slice aa na ac) er) 41)) [] := (Touch.refl w3 []).alloc _
      have hO : OutB (w3.alloc (.cells (outA kd D (.slice sa ns sc) (.slice oa no oc) (.slice ha nh hc') (.slice aa na ac) er) 41)) w3.heap.size (outA kd D (.slice sa ns sc) (.slice oa no oc) (.slice ha nh hc') (.slice aa na ac) er) := ⟨heap_alloc_new w3 _⟩
      have HOW : Hid _ := hO
      have HT3 : Hid _ := (T2.out.trans t3 (by simp)).trans tA (by simp)
      have HKK : Hid _ := hk
      clear tA t3 hO hk T2
      go_wp2_with fail
      generalize w3.heap.size = p at *
      generalize hQ : (w3.alloc _) = Q at *
      clear hQ
      refine (splive_any _).mono ?_
      rintro e w4 ⟨rfl, t4⟩
      have o4 := HOW.out.touch t4 (by simp)
      have c0 := o4.cell 0
      have c10 := o4.cell 10
      simp only [outA, List.getElem?_toArray, List.getElem?_cons_zero, List.getElem?_cons_succ] at c0 c10
      have HT4 : Hid _ := HT3.out.trans t4 (by simp)
      clear o4 t4 HOW HT3
      by_cases k3 : kd = 3
      · subst k3
        rcases HKK.out with q | q | q | q
        · exact absurd rfl q
        · subst q
          go_wp2
          go_ret
          exact ⟨rfl, HT4.out⟩
        · subst q
          go_wp2
          go_ret
          exact ⟨rfl, HT4.out⟩
        · subst q
          go_wp2
          go_ret
          exact ⟨rfl, HT4.out⟩
      · have k3' : (kd == 3) = false := by simpa using k3
        have k3'' : (kd != 3) = true := by simp [bne, k3']
        go_wp2
        go_ret
        exact ⟨rfl, HT4.out⟩
    · have h0' : (ce == 0) = false := by simpa using hce
      have h0'' : (ce != 0) = true := by simp [bne, h0']
      clear RN HSF hce FW
      go_wp2_with fail
      refine (splive_any _).mono ?_
      rintro e w5 ⟨rfl, t5⟩
      have T5 : Hid _ := T2.out.trans t5 (by simp)
      clear t5 T2
      go_wp2
      go_ret
      exact ⟨rfl, T5.out⟩
  · have e12 : h.length = h0.length := by rw [hcl]; unfold cutN; rw [if_neg h12]
    rw [e12] at CK RN
    have g1 : ¬ (12 : Int) < h0.length := by omega
    obtain ⟨hc1, hc2⟩ := hch
    obtain ⟨c1, c2⟩ := hc
    clear hcl e12 hhl h12
    go_enter Try.func6, Try.ntmps6
    go_wp2_with fail
    refine (FW _).out.mono ?_
    rintro e w1 ⟨rfl, rfl⟩
    go_wp2_with fail
    refine CK.out.mono ?_
    rintro e w2 ⟨rfl, t2⟩
    clear CK
    have T2 : Hid _ := t2
    clear t2
    by_cases hce : ce = 0
    · subst hce
      have hk := HSF.out rfl
      go_wp2_with fail
      refine (FW _).out.mono ?_
      rintro e _ ⟨rfl, rfl⟩
      clear FW
      go_wp2_with fail
      refine (RN.out _ T2.out).out.mono ?_
      rintro e w3 ⟨sa, sc, oa, oc, ha, hc', aa, ac, rfl, _, _, _, _, t3⟩
      clear RN HSF
      obtain ⟨⟨kd, er⟩, D, H, am⟩ := K
      simp only at hk
      generalize D.st.length = ns at *
      generalize D.out.length = no at *
      generalize H.length = nh at *
      generalize am.length = na at *
      have tA : Touch w3 (w3.alloc (.cells (outA kd D (.slice sa ns sc) (.slice oa no oc) (.slice ha nh hc') (.slice aa na ac) er) 41)) [] := (Touch.refl w3 []).alloc _
      have hO : OutB (w3.alloc (.cells (outA kd D (.slice sa ns sc) (.slice oa no oc) (.slice ha nh hc') (.slice aa na ac) er) 41)) w3.heap.size (outA kd D (.slice sa ns sc) (.slice oa no oc) (.slice ha nh hc') (.slice aa na ac) er) := ⟨heap_alloc_new w3 _⟩
      have HOW : Hid _ := hO
      have HT3 : Hid _ := (T2.out.trans t3 (by simp)).trans tA (by simp)
      have HKK : Hid _ := hk
      clear tA t3 hO hk T2
      go_wp2_with fail
      generalize w3.heap.size = p at *
      generalize hQ : (w3.alloc _) = Q at *
      clear hQ
      refine (splive_any _).mono ?_
      rintro e w4 ⟨rfl, t4⟩
      have o4 := HOW.out.touch t4 (by simp)
      have c0 := o4.cell 0
      have c10 := o4.cell 10
      simp only [outA, List.getElem?_toArray, List.getElem?_cons_zero, List.getElem?_cons_succ] at c0 c10
      have HT4 : Hid _ := HT3.out.trans t4 (by simp)
      clear o4 t4 HOW HT3
      by_cases k3 : kd = 3
      · subst k3
        rcases HKK.out with q | q | q | q
        · exact absurd rfl q
        · subst q
          go_wp2
          go_ret
          exact ⟨rfl, HT4.out⟩
        · subst q
          go_wp2
          go_ret
          exact ⟨rfl, HT4.out⟩
        · subst q
          go_wp2
          go_ret
          exact ⟨rfl, HT4.out⟩
      · have k3' : (kd == 3) = false := by simpa using k3
        have k3'' : (kd != 3) = true := by simp [bne, k3']
        go_wp2
        go_ret
        exact ⟨rfl, HT4.out⟩
    · have h0' : (ce == 0) = false := by simpa using hce
      have h0'' : (ce != 0) = true := by simp [bne, h0']
      clear RN HSF hce FW
      go_wp2_with fail
      refine (splive_any _).mono ?_
      rintro e w5 ⟨rfl, t5⟩
      have T5 : Hid _ := T2.out.trans t5 (by simp)
      clear t5 T2
      go_wp2
      go_ret
      exact ⟨rfl, T5.out⟩

end Go.Proofs.Ytlndbligbpfdpaa
/-
  SpecSafe's ARGUMENTS.
-/
namespace Go.Proofs.Ytlndbligbpfdpaa
set_option linter.unusedVariables false
set_option linter.unusedSimpArgs false
set_option maxRecDepth 100000
open Go.ChangeShapes Go.WideShapes Go.ChangeAt Go.RowKit Go.Joins Go.Deep

theorem specsafe_open {W : World} {ap : Option Addr} {cp : Nat} {l : List InsD} (hl : InsRow W (.slice ap l.length cp) l) (hlw : ∀ i ∈ l, i.Wf) (hn : l.length ≤ cp ∧ cp ≤ maxLen) {ah : Option Addr} {ch : Nat} {h : List Int} (hh : VRow W (.slice ah h.length ch) h) (hhw : ∀ x ∈ h, Wf64 x) (hm : h.length ≤ ch ∧ ch ≤ maxLen) :
    Calls Try.prog 6 #[.slice ap l.length cp, .slice ah h.length ch] W fun e w' => e = .returned (.bool true) ∧ Touch W w' [] :=
  specsafe_any hl hlw ⟨hn.1, by have := hn.2; unfold maxLen at this; omega⟩ hh hhw ⟨hm.1, by have := hm.2; unfold maxLen at this; omega⟩

end Go.Proofs.Ytlndbligbpfdpaa
