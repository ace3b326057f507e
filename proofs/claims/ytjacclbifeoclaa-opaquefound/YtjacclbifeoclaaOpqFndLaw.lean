/-
  OpaqueFound, THE WALK.
-/
import Derived.Test.YtjacclbifeoclaaOpqFoundR
namespace Go.Proofs.Ytjacclbifeoclaa
set_option linter.unusedVariables false
set_option linter.unusedSimpArgs false
open Go.RowKit Go.Maps Go.Shelf
attribute [local go_sem] Oper.semAt_some

set_option maxRecDepth 100000 in
set_option maxHeartbeats 8000000 in
theorem ofound_any (ao bo co : Option Addr) (capA capB capC : Nat) (l0 : List EvD) (h0 com0 : List Int) (w : World) (hr : EvRow w (.slice ao l0.length capA) l0) (hcA : l0.length ≤ capA ∧ capA ≤ maxLen) (hwf : ∀ e ∈ l0, e.Wf) (hh : VRow w (.slice bo h0.length capB) h0) (hcB : h0.length ≤ capB ∧ capB ≤ maxLen) (hhw : ∀ x ∈ h0, Wf64 x) (hc0 : IRow w (.slice co com0.length capC) com0) (hcC : com0.length ≤ capC ∧ capC ≤ maxLen) :
    Calls Try.prog 3 #[.slice ao l0.length capA, .slice bo h0.length capB, .slice co com0.length capC] w (TrueN w) := by
  have hfw := ofew_any ao capA l0 w hcA.1
  have hhp := oheaped_any bo capB h0 w hcB.1
  obtain ⟨l1, hl1⟩ : ∃ l1, l1 = l0.take 50 := ⟨_, rfl⟩
  obtain ⟨l, hlv⟩ : ∃ l, l = l1.take 30 := ⟨_, rfl⟩
  obtain ⟨hp, hhp1⟩ : ∃ hp, hp = h0.take 13 := ⟨_, rfl⟩
  obtain ⟨com, hcom⟩ : ∃ com, com = com0.take 6 := ⟨_, rfl⟩
  have hr1 : EvRow w (.slice ao l1.length capA) l1 := by rw [hl1]; exact SRow.takeN hr 50
  have hr2 : EvRow w (.slice ao l.length capA) l := by rw [hlv]; exact SRow.takeN hr1 30
  have hh1 : VRow w (.slice bo hp.length capB) hp := by rw [hhp1]; exact SRow.takeN hh 13
  have hc : IRow w (.slice co com.length capC) com := by rw [hcom]; exact SRow.takeN hc0 6
  have hwf2 : ∀ e ∈ l, e.Wf := fun e he => hwf e (by rw [hlv, hl1] at he; exact List.take_subset _ _ (List.take_subset _ _ he))
  have hwh : ∀ x ∈ hp, Wf64 x := fun e he => hhw e (by rw [hhp1] at he; exact List.take_subset _ _ he)
  have hll : l.length ≤ 30 := by rw [hlv]; simp; omega
  have hpl : hp.length ≤ 13 := by rw [hhp1]; simp; omega
  have hcl : com.length ≤ 6 := by rw [hcom]; simp; omega
  have hclen : com.length = min 6 com0.length := by rw [hcom]; simp
  have hccap : ∀ a n c, Value.slice co com.length capC = .slice a n c → n ≤ c := fun a n c e => by simp at e; have := hcC.1; omega
  have hfd := found_any hr2 (by omega) hwf2 hh1 (by omega) hc (by omega) hccap
  have HRF : Hid (∀ W, Touch w W [] → Calls Try.prog 11 #[.slice ao l.length capA, .slice bo hp.length capB, .slice co com.length capC] W (FoundE W (foundP l hp com))) := fun W t => rfound_any (SRow.keep hr2 t (by simp)) (by omega) hwf2 (SRow.keep hh1 t (by simp)) (by omega) hwh (SRow.keep hc t (by simp)) (by omega) hccap
  have hFL : (foundP l hp com).2.length ≤ 1000 := by
    by_cases hz : (foundP l hp com).1 = 0
    · have h1 := found_legal hz
      unfold legalP at h1
      split at h1
      · rename_i h2; exact absurd h1 h2
      · split at h1
        · cases h1
        · rename_i h3
          simp only [ordOk, Bool.and_eq_false_iff, decide_eq_false_iff_not, not_or, Classical.not_not] at h3
          have := attS_le l
          omega
    · rw [(found_none hz).1]; simp
  have HFL : Hid ((foundP l hp com).2.length ≤ 1000) := hFL
  have hl1l : l1.length ≤ capA := by rw [hl1]; simp; omega
  have hlen : l.length = min 30 l1.length := by rw [hlv]; simp
  have hcC1 := hcC.1
  rw [← hl1] at hfw
  rw [← hhp1] at hhp
  clear hr hr1 hr2 hwf hwf2 hh hh1 hc hc0 hhw hwh hFL hl1 hlv hhp1 hccap hll hpl hcl hcA hcB hcC hcom
  obtain ⟨FR, hFR⟩ : ∃ FR, FR = foundP l hp com := ⟨_, rfl⟩
  rw [← hFR] at hfd HFL HRF
  clear hFR
  generalize l0.length = NL0 at *
  generalize h0.length = NH0 at *
  generalize hp.length = NH at *
  generalize com.length = NC at *
  generalize com0.length = NC0 at *
  generalize l1.length = NL1 at *
  generalize l.length = NL at *
  by_cases h30 : 30 < NL1
  · by_cases h6 : 6 < NC0
    · skip
      have h30' : (30 : Int) < NL1 := by omega
      have hcc : (30 : Int) ≤ capA := by omega
      obtain rfl : NL = 30 := by omega
      have h6' : (6 : Int) < NC0 := by omega
      have hcc6 : (6 : Int) ≤ capC := by omega
      obtain rfl : NC = 6 := by omega
      clear hlen h30 h6 hl1l hclen hcC1
      go_enter Try.func3, Try.ntmps3
      go_wp2_with fail
      refine hfw.mono ?_
      rintro e w1 ⟨rfl, rfl⟩
      clear hfw
      go_wp2_with fail
      refine hhp.mono ?_
      rintro e w1 ⟨rfl, rfl⟩
      clear hhp
      go_wp2_with fail
      refine hfd.mono ?_
      intro e w1 hfe
      clear hfd
      obtain ⟨t1, hcase⟩ := hfe
      have hrf := HRF.out w1 t1
      have HT1 : Hid (Touch w w1 []) := t1
      clear t1
      rcases hcase with ⟨hne, hnil, rfl⟩ | ⟨hz, a, c, rfl, hv⟩
      · have hne' : (FR.1 == 0) = false := by simpa using hne
        have HNE : Hid (FR.1 ≠ 0) := hne
        obtain ⟨fe, hfe⟩ : ∃ fe, fe = FR.1 := ⟨_, rfl⟩
        rw [← hfe] at hne' ⊢
        have HFE : Hid (fe = FR.1) := hfe
        clear hne hnil hfe
        go_wp2_with fail
        refine hrf.mono ?_
        rintro e w2 ⟨t2, ⟨_, _, rfl⟩ | ⟨hz, _⟩⟩
        · have HT2 : Hid (Touch w w2 []) := HT1.out.trans t2 (by simp)
          rw [← HFE.out]
          clear hrf t2
          have hlv := olive_any w2
          go_wp2_with fail
          refine hlv.mono ?_
          rintro e w3 ⟨rfl, t3⟩
          clear hlv
          have HT3 : Hid (Touch w w3 []) := HT2.out.trans t3 (by simp)
          have hsi := sameI_any (.slice none 0 0) (.slice none 0 0) [] w3 (by simp) ⟨none, 0, rfl, fun h => absurd rfl h⟩ ⟨none, 0, rfl, fun h => absurd rfl h⟩
          clear t3
          go_wp2_with fail
          refine hsi.mono ?_
          rintro e w4 ⟨rfl, t4⟩
          clear hsi
          go_wp2
          go_ret
          exact ⟨rfl, HT3.out.trans t4 (by simp)⟩
        · exact absurd hz HNE.out
      · have HV : Hid (intOwn w1 w.heap.size (.slice a FR.2.length c) FR.2) := hv
        have HZE : Hid (FR.1 = 0) := hz
        clear hv hz
        generalize hNF : FR.2.length = NF at HV HFL ⊢
        have HNF : Hid (FR.2.length = NF) := hNF
        clear hNF
        go_wp2_with fail
        refine hrf.mono ?_
        rintro e w2 ⟨t2, ⟨hne, _⟩ | ⟨_, a2, c2, rfl, hv2⟩⟩
        · exact absurd HZE.out hne
        · have HV2 : Hid (intOwn w2 w.heap.size (.slice a NF c) FR.2) := ownsRow_touch HV.out t2 (by simp)
          have HV3 : Hid (intOwn w2 w1.heap.size (.slice a2 NF c2) FR.2) := by rw [HNF.out] at hv2; exact hv2
          rw [HNF.out]
          have HT2 : Hid (Touch w w2 []) := HT1.out.trans t2 (by simp)
          clear hrf t2 hv2 HV
          have hlv := olive_any w2
          go_wp2_with fail
          refine hlv.mono ?_
          rintro e w3 ⟨rfl, t3⟩
          clear hlv
          have HT3 : Hid (Touch w w3 []) := HT2.out.trans t3 (by simp)
          have hsi := sameI_any (.slice a NF c) (.slice a2 NF c2) FR.2 w3 (by rw [HNF.out]; exact HFL.out) (SRow.keep (irow_of HV2.out) t3 (by simp)) (SRow.keep (irow_of HV3.out) t3 (by simp))
          clear t3 HV2 HV3
          go_wp2_with fail
          refine hsi.mono ?_
          rintro e w4 ⟨rfl, t4⟩
          clear hsi
          go_wp2
          go_ret
          exact ⟨rfl, HT3.out.trans t4 (by simp)⟩
    · skip
      have h30' : (30 : Int) < NL1 := by omega
      have hcc : (30 : Int) ≤ capA := by omega
      obtain rfl : NL = 30 := by omega
      have h6' : ¬ (6 : Int) < NC0 := by omega
      obtain rfl : NC = NC0 := by omega
      clear hlen h30 h6 hl1l hclen hcC1
      go_enter Try.func3, Try.ntmps3
      go_wp2_with fail
      refine hfw.mono ?_
      rintro e w1 ⟨rfl, rfl⟩
      clear hfw
      go_wp2_with fail
      refine hhp.mono ?_
      rintro e w1 ⟨rfl, rfl⟩
      clear hhp
      go_wp2_with fail
      refine hfd.mono ?_
      intro e w1 hfe
      clear hfd
      obtain ⟨t1, hcase⟩ := hfe
      have hrf := HRF.out w1 t1
      have HT1 : Hid (Touch w w1 []) := t1
      clear t1
      rcases hcase with ⟨hne, hnil, rfl⟩ | ⟨hz, a, c, rfl, hv⟩
      · have hne' : (FR.1 == 0) = false := by simpa using hne
        have HNE : Hid (FR.1 ≠ 0) := hne
        obtain ⟨fe, hfe⟩ : ∃ fe, fe = FR.1 := ⟨_, rfl⟩
        rw [← hfe] at hne' ⊢
        have HFE : Hid (fe = FR.1) := hfe
        clear hne hnil hfe
        go_wp2_with fail
        refine hrf.mono ?_
        rintro e w2 ⟨t2, ⟨_, _, rfl⟩ | ⟨hz, _⟩⟩
        · have HT2 : Hid (Touch w w2 []) := HT1.out.trans t2 (by simp)
          rw [← HFE.out]
          clear hrf t2
          have hlv := olive_any w2
          go_wp2_with fail
          refine hlv.mono ?_
          rintro e w3 ⟨rfl, t3⟩
          clear hlv
          have HT3 : Hid (Touch w w3 []) := HT2.out.trans t3 (by simp)
          have hsi := sameI_any (.slice none 0 0) (.slice none 0 0) [] w3 (by simp) ⟨none, 0, rfl, fun h => absurd rfl h⟩ ⟨none, 0, rfl, fun h => absurd rfl h⟩
          clear t3
          go_wp2_with fail
          refine hsi.mono ?_
          rintro e w4 ⟨rfl, t4⟩
          clear hsi
          go_wp2
          go_ret
          exact ⟨rfl, HT3.out.trans t4 (by simp)⟩
        · exact absurd hz HNE.out
      · have HV : Hid (intOwn w1 w.heap.size (.slice a FR.2.length c) FR.2) := hv
        have HZE : Hid (FR.1 = 0) := hz
        clear hv hz
        generalize hNF : FR.2.length = NF at HV HFL ⊢
        have HNF : Hid (FR.2.length = NF) := hNF
        clear hNF
        go_wp2_with fail
        refine hrf.mono ?_
        rintro e w2 ⟨t2, ⟨hne, _⟩ | ⟨_, a2, c2, rfl, hv2⟩⟩
        · exact absurd HZE.out hne
        · have HV2 : Hid (intOwn w2 w.heap.size (.slice a NF c) FR.2) := ownsRow_touch HV.out t2 (by simp)
          have HV3 : Hid (intOwn w2 w1.heap.size (.slice a2 NF c2) FR.2) := by rw [HNF.out] at hv2; exact hv2
          rw [HNF.out]
          have HT2 : Hid (Touch w w2 []) := HT1.out.trans t2 (by simp)
          clear hrf t2 hv2 HV
          have hlv := olive_any w2
          go_wp2_with fail
          refine hlv.mono ?_
          rintro e w3 ⟨rfl, t3⟩
          clear hlv
          have HT3 : Hid (Touch w w3 []) := HT2.out.trans t3 (by simp)
          have hsi := sameI_any (.slice a NF c) (.slice a2 NF c2) FR.2 w3 (by rw [HNF.out]; exact HFL.out) (SRow.keep (irow_of HV2.out) t3 (by simp)) (SRow.keep (irow_of HV3.out) t3 (by simp))
          clear t3 HV2 HV3
          go_wp2_with fail
          refine hsi.mono ?_
          rintro e w4 ⟨rfl, t4⟩
          clear hsi
          go_wp2
          go_ret
          exact ⟨rfl, HT3.out.trans t4 (by simp)⟩
  · by_cases h6 : 6 < NC0
    · skip
      have h30' : ¬ (30 : Int) < NL1 := by omega
      obtain rfl : NL = NL1 := by omega
      have h6' : (6 : Int) < NC0 := by omega
      have hcc6 : (6 : Int) ≤ capC := by omega
      obtain rfl : NC = 6 := by omega
      clear hlen h30 h6 hl1l hclen hcC1
      go_enter Try.func3, Try.ntmps3
      go_wp2_with fail
      refine hfw.mono ?_
      rintro e w1 ⟨rfl, rfl⟩
      clear hfw
      go_wp2_with fail
      refine hhp.mono ?_
      rintro e w1 ⟨rfl, rfl⟩
      clear hhp
      go_wp2_with fail
      refine hfd.mono ?_
      intro e w1 hfe
      clear hfd
      obtain ⟨t1, hcase⟩ := hfe
      have hrf := HRF.out w1 t1
      have HT1 : Hid (Touch w w1 []) := t1
      clear t1
      rcases hcase with ⟨hne, hnil, rfl⟩ | ⟨hz, a, c, rfl, hv⟩
      · have hne' : (FR.1 == 0) = false := by simpa using hne
        have HNE : Hid (FR.1 ≠ 0) := hne
        obtain ⟨fe, hfe⟩ : ∃ fe, fe = FR.1 := ⟨_, rfl⟩
        rw [← hfe] at hne' ⊢
        have HFE : Hid (fe = FR.1) := hfe
        clear hne hnil hfe
        go_wp2_with fail
        refine hrf.mono ?_
        rintro e w2 ⟨t2, ⟨_, _, rfl⟩ | ⟨hz, _⟩⟩
        · have HT2 : Hid (Touch w w2 []) := HT1.out.trans t2 (by simp)
          rw [← HFE.out]
          clear hrf t2
          have hlv := olive_any w2
          go_wp2_with fail
          refine hlv.mono ?_
          rintro e w3 ⟨rfl, t3⟩
          clear hlv
          have HT3 : Hid (Touch w w3 []) := HT2.out.trans t3 (by simp)
          have hsi := sameI_any (.slice none 0 0) (.slice none 0 0) [] w3 (by simp) ⟨none, 0, rfl, fun h => absurd rfl h⟩ ⟨none, 0, rfl, fun h => absurd rfl h⟩
          clear t3
          go_wp2_with fail
          refine hsi.mono ?_
          rintro e w4 ⟨rfl, t4⟩
          clear hsi
          go_wp2
          go_ret
          exact ⟨rfl, HT3.out.trans t4 (by simp)⟩
        · exact absurd hz HNE.out
      · have HV : Hid (intOwn w1 w.heap.size (.slice a FR.2.length c) FR.2) := hv
        have HZE : Hid (FR.1 = 0) := hz
        clear hv hz
        generalize hNF : FR.2.length = NF at HV HFL ⊢
        have HNF : Hid (FR.2.length = NF) := hNF
        clear hNF
        go_wp2_with fail
        refine hrf.mono ?_
        rintro e w2 ⟨t2, ⟨hne, _⟩ | ⟨_, a2, c2, rfl, hv2⟩⟩
        · exact absurd HZE.out hne
        · have HV2 : Hid (intOwn w2 w.heap.size (.slice a NF c) FR.2) := ownsRow_touch HV.out t2 (by simp)
          have HV3 : Hid (intOwn w2 w1.heap.size (.slice a2 NF c2) FR.2) := by rw [HNF.out] at hv2; exact hv2
          rw [HNF.out]
          have HT2 : Hid (Touch w w2 []) := HT1.out.trans t2 (by simp)
          clear hrf t2 hv2 HV
          have hlv := olive_any w2
          go_wp2_with fail
          refine hlv.mono ?_
          rintro e w3 ⟨rfl, t3⟩
          clear hlv
          have HT3 : Hid (Touch w w3 []) := HT2.out.trans t3 (by simp)
          have hsi := sameI_any (.slice a NF c) (.slice a2 NF c2) FR.2 w3 (by rw [HNF.out]; exact HFL.out) (SRow.keep (irow_of HV2.out) t3 (by simp)) (SRow.keep (irow_of HV3.out) t3 (by simp))
          clear t3 HV2 HV3
          go_wp2_with fail
          refine hsi.mono ?_
          rintro e w4 ⟨rfl, t4⟩
          clear hsi
          go_wp2
          go_ret
          exact ⟨rfl, HT3.out.trans t4 (by simp)⟩
    · skip
      have h30' : ¬ (30 : Int) < NL1 := by omega
      obtain rfl : NL = NL1 := by omega
      have h6' : ¬ (6 : Int) < NC0 := by omega
      obtain rfl : NC = NC0 := by omega
      clear hlen h30 h6 hl1l hclen hcC1
      go_enter Try.func3, Try.ntmps3
      go_wp2_with fail
      refine hfw.mono ?_
      rintro e w1 ⟨rfl, rfl⟩
      clear hfw
      go_wp2_with fail
      refine hhp.mono ?_
      rintro e w1 ⟨rfl, rfl⟩
      clear hhp
      go_wp2_with fail
      refine hfd.mono ?_
      intro e w1 hfe
      clear hfd
      obtain ⟨t1, hcase⟩ := hfe
      have hrf := HRF.out w1 t1
      have HT1 : Hid (Touch w w1 []) := t1
      clear t1
      rcases hcase with ⟨hne, hnil, rfl⟩ | ⟨hz, a, c, rfl, hv⟩
      · have hne' : (FR.1 == 0) = false := by simpa using hne
        have HNE : Hid (FR.1 ≠ 0) := hne
        obtain ⟨fe, hfe⟩ : ∃ fe, fe = FR.1 := ⟨_, rfl⟩
        rw [← hfe] at hne' ⊢
        have HFE : Hid (fe = FR.1) := hfe
        clear hne hnil hfe
        go_wp2_with fail
        refine hrf.mono ?_
        rintro e w2 ⟨t2, ⟨_, _, rfl⟩ | ⟨hz, _⟩⟩
        · have HT2 : Hid (Touch w w2 []) := HT1.out.trans t2 (by simp)
          rw [← HFE.out]
          clear hrf t2
          have hlv := olive_any w2
          go_wp2_with fail
          refine hlv.mono ?_
          rintro e w3 ⟨rfl, t3⟩
          clear hlv
          have HT3 : Hid (Touch w w3 []) := HT2.out.trans t3 (by simp)
          have hsi := sameI_any (.slice none 0 0) (.slice none 0 0) [] w3 (by simp) ⟨none, 0, rfl, fun h => absurd rfl h⟩ ⟨none, 0, rfl, fun h => absurd rfl h⟩
          clear t3
          go_wp2_with fail
          refine hsi.mono ?_
          rintro e w4 ⟨rfl, t4⟩
          clear hsi
          go_wp2
          go_ret
          exact ⟨rfl, HT3.out.trans t4 (by simp)⟩
        · exact absurd hz HNE.out
      · have HV : Hid (intOwn w1 w.heap.size (.slice a FR.2.length c) FR.2) := hv
        have HZE : Hid (FR.1 = 0) := hz
        clear hv hz
        generalize hNF : FR.2.length = NF at HV HFL ⊢
        have HNF : Hid (FR.2.length = NF) := hNF
        clear hNF
        go_wp2_with fail
        refine hrf.mono ?_
        rintro e w2 ⟨t2, ⟨hne, _⟩ | ⟨_, a2, c2, rfl, hv2⟩⟩
        · exact absurd HZE.out hne
        · have HV2 : Hid (intOwn w2 w.heap.size (.slice a NF c) FR.2) := ownsRow_touch HV.out t2 (by simp)
          have HV3 : Hid (intOwn w2 w1.heap.size (.slice a2 NF c2) FR.2) := by rw [HNF.out] at hv2; exact hv2
          rw [HNF.out]
          have HT2 : Hid (Touch w w2 []) := HT1.out.trans t2 (by simp)
          clear hrf t2 hv2 HV
          have hlv := olive_any w2
          go_wp2_with fail
          refine hlv.mono ?_
          rintro e w3 ⟨rfl, t3⟩
          clear hlv
          have HT3 : Hid (Touch w w3 []) := HT2.out.trans t3 (by simp)
          have hsi := sameI_any (.slice a NF c) (.slice a2 NF c2) FR.2 w3 (by rw [HNF.out]; exact HFL.out) (SRow.keep (irow_of HV2.out) t3 (by simp)) (SRow.keep (irow_of HV3.out) t3 (by simp))
          clear t3 HV2 HV3
          go_wp2_with fail
          refine hsi.mono ?_
          rintro e w4 ⟨rfl, t4⟩
          clear hsi
          go_wp2
          go_ret
          exact ⟨rfl, HT3.out.trans t4 (by simp)⟩

end Go.Proofs.Ytjacclbifeoclaa
