/-
  OpaqueIs, THE WALK.
-/
import Derived.Test.YtjacclbifeoclaaOpqSound
import Derived.Test.YtjacclbifeoclaaOpqLive
import Derived.Test.YtjacclbifeoclaaOpqFew
namespace Go.Proofs.Ytjacclbifeoclaa
set_option linter.unusedVariables false
set_option linter.unusedSimpArgs false
open Go.RowKit Go.Maps
attribute [local go_sem] Oper.semAt_some

set_option maxRecDepth 100000 in
set_option maxHeartbeats 8000000 in
theorem ois_any (ao bo co : Option Addr) (capA capB capC : Nat) (l0 : List EvD) (h0 com : List Int) (w : World) (hr : EvRow w (.slice ao l0.length capA) l0) (hcA : l0.length ≤ capA ∧ capA ≤ maxLen) (hwf : ∀ e ∈ l0, e.Wf) (hh : VRow w (.slice bo h0.length capB) h0) (hcB : h0.length ≤ capB ∧ capB ≤ maxLen) (hc : IRow w (.slice co com.length capC) com) (hcC : com.length ≤ capC ∧ capC ≤ maxLen) :
    Calls Try.prog 4 #[.slice ao l0.length capA, .slice bo h0.length capB, .slice co com.length capC] w (TrueN w) := by
  have hfw := ofew_any ao capA l0 w hcA.1
  have hhp := oheaped_any bo capB h0 w hcB.1
  obtain ⟨l1, hl1⟩ : ∃ l1, l1 = l0.take 50 := ⟨_, rfl⟩
  obtain ⟨l, hlv⟩ : ∃ l, l = l1.take 30 := ⟨_, rfl⟩
  obtain ⟨hp, hhp1⟩ : ∃ hp, hp = h0.take 13 := ⟨_, rfl⟩
  have hr1 : EvRow w (.slice ao l1.length capA) l1 := by rw [hl1]; exact SRow.takeN hr 50
  have hr2 : EvRow w (.slice ao l.length capA) l := by rw [hlv]; exact SRow.takeN hr1 30
  have hh1 : VRow w (.slice bo hp.length capB) hp := by rw [hhp1]; exact SRow.takeN hh 13
  have hwf2 : ∀ e ∈ l, e.Wf := fun e he => hwf e (by rw [hlv, hl1] at he; exact List.take_subset _ _ (List.take_subset _ _ he))
  have hll : l.length ≤ 30 := by rw [hlv]; simp; omega
  have hpl : hp.length ≤ 13 := by rw [hhp1]; simp; omega
  have hcl : com.length ≤ 9223372036854775807 := by have := hcC.2; unfold maxLen at this; omega
  have hccap : ∀ a n c, Value.slice co com.length capC = .slice a n c → n ≤ c := fun a n c e => by simp at e; have := hcC.1; omega
  have hfd := found_any hr2 (by omega) hwf2 hh1 (by omega) hc hcl hccap
  have HAT : Hid (∀ W, Touch w W [] → Calls Try.prog 15 #[.slice ao l.length capA] W fun x w' => ∃ v, x = .returned v ∧ intOwn w' W.heap.size v (attS l) ∧ Touch W w' []) := fun W t => attempts_any (SRow.keep hr2 t (by simp)) (by omega) hwf2
  have HLGG : ∀ (W : World) (vo : Value) (o : List Int), Touch w W [] → IRow W vo o → (∀ a n c, vo = .slice a n c → n ≤ c) → o.length ≤ 1000 → Calls Try.prog 14 #[.slice ao l.length capA, .slice bo hp.length capB, vo, .slice co com.length capC] W (LegE W (legalP l hp o com)) := fun W vo o t ho hcap hol =>
    legal_any (SRow.keep hr2 t (by simp)) (by omega) hwf2 (SRow.keep hh1 t (by simp)) (by omega) ho (by omega) hcap (SRow.keep hc t (by simp)) hcl hccap
  have HA : Hid ((foundP l hp com).1 = 0 → (legalP l hp (foundP l hp com).2 com).1 = 0 ∧ (legalP l hp (foundP l hp com).2 com).2.1 = 0) := fun h => ⟨legal_zero (found_legal h), found_legal h⟩
  have HB : Hid ((foundP l hp com).1 ≠ 0 → (foundP l hp com).2 = [] ∧ ((legalP l hp (attS l) com).2.1 ≠ 0 ∨ (foundP l hp com).1 = 4)) := found_none
  have HZ : Hid ((legalP l hp (attS l) com).2.1 = 0 → (legalP l hp (attS l) com).1 = 0) := legal_zero
  have hFL : (foundP l hp com).2.length ≤ 1000 := by
    by_cases hz : (foundP l hp com).1 = 0
    · have h1 := found_legal hz
      unfold legalP at h1
      split at h1
      · rename_i h2; exact absurd h1 h2
      · split at h1
        · cases h1
        · rename_i h3
          simp only [ordOk, Bool.and_eq_false_iff, decide_eq_false_iff_not, not_or, Classical.not_not] at h3
          have := attS_le l
          omega
    · rw [(found_none hz).1]; simp
  have hAL : (attS l).length ≤ 1000 := by have := attS_le l; omega
  have HLG : Hid (∀ (W : World) (vo : Value) (o : List Int), Touch w W [] → IRow W vo o → (∀ a n c, vo = .slice a n c → n ≤ c) → o.length ≤ 1000 → Calls Try.prog 14 #[.slice ao l.length capA, .slice bo hp.length capB, vo, .slice co com.length capC] W (LegE W (legalP l hp o com))) := HLGG
  have HLG2 : Hid (∀ W vo, Touch w W [] → IRow W vo (foundP l hp com).2 → (∀ a n c, vo = .slice a n c → n ≤ c) → Calls Try.prog 14 #[.slice ao l.length capA, .slice bo hp.length capB, vo, .slice co com.length capC] W (LegE W (legalP l hp (foundP l hp com).2 com))) := fun W vo t ho hcap => HLGG W vo _ t ho hcap hFL
  have HAL : Hid _ := hAL
  have hl1l : l1.length ≤ capA := by rw [hl1]; simp; omega
  have hlen : l.length = min 30 l1.length := by rw [hlv]; simp
  rw [← hl1] at hfw
  rw [← hhp1] at hhp
  clear hr hr1 hr2 hwf hwf2 hh hh1 hc HLGG hFL hAL hl1 hlv hhp1 hccap hll hpl hcl hcA hcB hcC
  obtain ⟨LR, hLR⟩ : ∃ LR, LR = legalP l hp (attS l) com := ⟨_, rfl⟩
  obtain ⟨FR, hFR⟩ : ∃ FR, FR = foundP l hp com := ⟨_, rfl⟩
  obtain ⟨MR, hMR⟩ : ∃ MR, MR = legalP l hp FR.2 com := ⟨_, rfl⟩
  rw [← hFR] at hfd HA HB HLG2
  rw [← hMR] at HA HLG2
  rw [← hLR] at HB HZ
  have HLG' : Hid (∀ (W : World) (vo : Value) (o : List Int), Touch w W [] → IRow W vo o → (∀ a n c, vo = .slice a n c → n ≤ c) → o.length ≤ 1000 → o = attS l → Calls Try.prog 14 #[.slice ao l.length capA, .slice bo hp.length capB, vo, .slice co com.length capC] W (LegE W LR)) := fun W vo o a b c d e => by
    have := HLG.out W vo o a b c d
    rw [e, ← hLR] at this
    exact this
  have HLG : Hid (∀ (W : World) (vo : Value) (o : List Int), Touch w W [] → IRow W vo (attS l) → (∀ a n c, vo = .slice a n c → n ≤ c) → (attS l).length ≤ 1000 → Calls Try.prog 14 #[.slice ao l.length capA, .slice bo hp.length capB, vo, .slice co com.length capC] W (LegE W LR)) := fun W vo o a b c d => HLG'.out W vo (attS l) a b c d rfl
  clear hLR hFR hMR HLG'
  generalize l0.length = NL0 at *
  generalize h0.length = NH0 at *
  generalize hp.length = NH at *
  generalize com.length = NC at *
  generalize l1.length = NL1 at *
  generalize l.length = NL at *
  by_cases h30 : 30 < NL1
  · have h30' : (30 : Int) < NL1 := by omega
    have hcc : (30 : Int) ≤ capA := by omega
    obtain rfl : NL = 30 := by omega
    clear hlen h30 hl1l
    go_enter Try.func4, Try.ntmps4
    go_wp2_with fail
    refine hfw.mono ?_
    rintro e w1 ⟨rfl, rfl⟩
    clear hfw
    go_wp2_with fail
    refine hhp.mono ?_
    rintro e w1 ⟨rfl, rfl⟩
    clear hhp
    go_wp2_with fail
    refine hfd.mono ?_
    intro e w1 hfe
    clear hfd
    obtain ⟨t1, hcase⟩ := hfe
    have hat := HAT.out w1 t1
    have HT1 : Hid (Touch w w1 []) := t1
    have HCASE : Hid ((FR.1 ≠ 0 ∧ FR.2 = [] ∧ e = .returned (.tuple #[.slice none 0 0, .int .i64 FR.1])) ∨ (FR.1 = 0 ∧ ∃ a c, e = .returned (.tuple #[.slice a FR.2.length c, .int .i64 0]) ∧ intOwn w1 w.heap.size (.slice a FR.2.length c) FR.2)) := hcase
    clear t1 hcase
    rcases HCASE.out with ⟨hne, hnil, rfl⟩ | ⟨hz, a, c, rfl, hv⟩
    · have hne' : (FR.1 == 0) = false := by simpa using hne
      have HNE : Hid _ := hne
      have HNIL : Hid _ := hnil
      obtain ⟨fe, hfe⟩ : ∃ fe, fe = FR.1 := ⟨_, rfl⟩
      rw [← hfe] at hne' ⊢
      have HFE : Hid (fe = FR.1) := hfe
      clear hne hnil HCASE hfe
      go_wp2_with fail
      refine hat.mono ?_
      rintro e w2 ⟨v2, rfl, hv2, t2⟩
      have T2 := HT1.out.trans t2 (by simp)
      have hlg := HLG.out w2 v2 (attS l) T2 (irow_of hv2) (own_cap hv2) HAL.out
      obtain ⟨a2, c2, hf2⟩ := owns_slice hv2
      have HT2 : Hid (Touch w w2 []) := T2
      clear hat t2 T2 hv2
      subst hf2
      generalize (attS l).length = NA at hlg ⊢
      go_wp2_with fail
      refine hlg.mono ?_
      rintro e w3 ⟨rfl, t3⟩
      clear hlg
      have hlv := olive_any w3
      have HT3 : Hid (Touch w w3 []) := HT2.out.trans t3 (by simp)
      have hB := HB.out HNE.out
      have hZ := HZ.out
      clear t3
      obtain ⟨lp, le, lh⟩ := LR
      simp only at hB hZ ⊢
      by_cases hle : le = 0
      · subst hle
        have hlp := hZ rfl
        subst hlp
        have h4 : fe = 4 := by
          rcases hB.2 with h | h
          · exact absurd rfl h
          · rw [HFE.out]; exact h
        subst h4
        clear hB hZ HFE
        go_wp2_with fail
        refine hlv.mono ?_
        rintro e w4 ⟨rfl, t4⟩
        clear hlv
        go_wp2
        go_ret
        exact ⟨rfl, HT3.out.trans t4 (by simp)⟩
      · have hle' : (le == 0) = false := by simpa using hle
        clear hB hZ HFE
        go_wp2_with fail
        refine hlv.mono ?_
        rintro e w4 ⟨rfl, t4⟩
        clear hlv
        go_wp2
        go_ret
        exact ⟨rfl, HT3.out.trans t4 (by simp)⟩
    · have HV : Hid (intOwn w1 w.heap.size (.slice a FR.2.length c) FR.2) := hv
      have HZE : Hid _ := hz
      clear hv HCASE hz
      generalize hNF : FR.2.length = NF at HV ⊢
      have HNF : Hid (FR.2.length = NF) := hNF
      clear hNF
      go_wp2_with fail
      refine hat.mono ?_
      rintro e w2 ⟨v2, rfl, hv2, t2⟩
      have T2 := HT1.out.trans t2 (by simp)
      have hlg := HLG.out w2 v2 (attS l) T2 (irow_of hv2) (own_cap hv2) HAL.out
      obtain ⟨a2, c2, hf2⟩ := owns_slice hv2
      have HT2 : Hid (Touch w w2 []) := T2
      have HV2 : Hid (intOwn w2 w.heap.size (.slice a NF c) FR.2) := ownsRow_touch HV.out t2 (by simp)
      clear hat t2 T2 hv2 HV
      subst hf2
      generalize (attS l).length = NA at hlg ⊢
      go_wp2_with fail
      refine hlg.mono ?_
      rintro e w3 ⟨rfl, t3⟩
      clear hlg
      have T3 := HT2.out.trans t3 (by simp)
      have HV3 : Hid (intOwn w3 w.heap.size (.slice a NF c) FR.2) := ownsRow_touch HV2.out t3 (by simp)
      have hl2 := HLG2.out w3 (.slice a NF c) T3 (irow_of HV3.out) (own_cap HV3.out)
      have HT3 : Hid (Touch w w3 []) := T3
      have hA := HA.out HZE.out
      obtain ⟨lp, le, lh⟩ := LR
      obtain ⟨mp, me, mh⟩ := MR
      simp only at hA hl2 ⊢
      obtain ⟨rfl, rfl⟩ := hA
      clear t3 T3 HV2 HV3
      go_wp2_with fail
      refine hl2.mono ?_
      rintro e w4 ⟨rfl, t4⟩
      clear hl2
      have hlv := olive_any w4
      have HT4 : Hid (Touch w w4 []) := HT3.out.trans t4 (by simp)
      clear t4
      go_wp2_with fail
      refine hlv.mono ?_
      rintro e w5 ⟨rfl, t5⟩
      clear hlv
      go_wp2
      go_ret
      exact ⟨rfl, HT4.out.trans t5 (by simp)⟩
  · have h30' : ¬ (30 : Int) < NL1 := by omega
    obtain rfl : NL = NL1 := by omega
    clear hlen h30 hl1l
    go_enter Try.func4, Try.ntmps4
    go_wp2_with fail
    refine hfw.mono ?_
    rintro e w1 ⟨rfl, rfl⟩
    clear hfw
    go_wp2_with fail
    refine hhp.mono ?_
    rintro e w1 ⟨rfl, rfl⟩
    clear hhp
    go_wp2_with fail
    refine hfd.mono ?_
    intro e w1 hfe
    clear hfd
    obtain ⟨t1, hcase⟩ := hfe
    have hat := HAT.out w1 t1
    have HT1 : Hid (Touch w w1 []) := t1
    have HCASE : Hid ((FR.1 ≠ 0 ∧ FR.2 = [] ∧ e = .returned (.tuple #[.slice none 0 0, .int .i64 FR.1])) ∨ (FR.1 = 0 ∧ ∃ a c, e = .returned (.tuple #[.slice a FR.2.length c, .int .i64 0]) ∧ intOwn w1 w.heap.size (.slice a FR.2.length c) FR.2)) := hcase
    clear t1 hcase
    rcases HCASE.out with ⟨hne, hnil, rfl⟩ | ⟨hz, a, c, rfl, hv⟩
    · have hne' : (FR.1 == 0) = false := by simpa using hne
      have HNE : Hid _ := hne
      have HNIL : Hid _ := hnil
      obtain ⟨fe, hfe⟩ : ∃ fe, fe = FR.1 := ⟨_, rfl⟩
      rw [← hfe] at hne' ⊢
      have HFE : Hid (fe = FR.1) := hfe
      clear hne hnil HCASE hfe
      go_wp2_with fail
      refine hat.mono ?_
      rintro e w2 ⟨v2, rfl, hv2, t2⟩
      have T2 := HT1.out.trans t2 (by simp)
      have hlg := HLG.out w2 v2 (attS l) T2 (irow_of hv2) (own_cap hv2) HAL.out
      obtain ⟨a2, c2, hf2⟩ := owns_slice hv2
      have HT2 : Hid (Touch w w2 []) := T2
      clear hat t2 T2 hv2
      subst hf2
      generalize (attS l).length = NA at hlg ⊢
      go_wp2_with fail
      refine hlg.mono ?_
      rintro e w3 ⟨rfl, t3⟩
      clear hlg
      have hlv := olive_any w3
      have HT3 : Hid (Touch w w3 []) := HT2.out.trans t3 (by simp)
      have hB := HB.out HNE.out
      have hZ := HZ.out
      clear t3
      obtain ⟨lp, le, lh⟩ := LR
      simp only at hB hZ ⊢
      by_cases hle : le = 0
      · subst hle
        have hlp := hZ rfl
        subst hlp
        have h4 : fe = 4 := by
          rcases hB.2 with h | h
          · exact absurd rfl h
          · rw [HFE.out]; exact h
        subst h4
        clear hB hZ HFE
        go_wp2_with fail
        refine hlv.mono ?_
        rintro e w4 ⟨rfl, t4⟩
        clear hlv
        go_wp2
        go_ret
        exact ⟨rfl, HT3.out.trans t4 (by simp)⟩
      · have hle' : (le == 0) = false := by simpa using hle
        clear hB hZ HFE
        go_wp2_with fail
        refine hlv.mono ?_
        rintro e w4 ⟨rfl, t4⟩
        clear hlv
        go_wp2
        go_ret
        exact ⟨rfl, HT3.out.trans t4 (by simp)⟩
    · have HV : Hid (intOwn w1 w.heap.size (.slice a FR.2.length c) FR.2) := hv
      have HZE : Hid _ := hz
      clear hv HCASE hz
      generalize hNF : FR.2.length = NF at HV ⊢
      have HNF : Hid (FR.2.length = NF) := hNF
      clear hNF
      go_wp2_with fail
      refine hat.mono ?_
      rintro e w2 ⟨v2, rfl, hv2, t2⟩
      have T2 := HT1.out.trans t2 (by simp)
      have hlg := HLG.out w2 v2 (attS l) T2 (irow_of hv2) (own_cap hv2) HAL.out
      obtain ⟨a2, c2, hf2⟩ := owns_slice hv2
      have HT2 : Hid (Touch w w2 []) := T2
      have HV2 : Hid (intOwn w2 w.heap.size (.slice a NF c) FR.2) := ownsRow_touch HV.out t2 (by simp)
      clear hat t2 T2 hv2 HV
      subst hf2
      generalize (attS l).length = NA at hlg ⊢
      go_wp2_with fail
      refine hlg.mono ?_
      rintro e w3 ⟨rfl, t3⟩
      clear hlg
      have T3 := HT2.out.trans t3 (by simp)
      have HV3 : Hid (intOwn w3 w.heap.size (.slice a NF c) FR.2) := ownsRow_touch HV2.out t3 (by simp)
      have hl2 := HLG2.out w3 (.slice a NF c) T3 (irow_of HV3.out) (own_cap HV3.out)
      have HT3 : Hid (Touch w w3 []) := T3
      have hA := HA.out HZE.out
      obtain ⟨lp, le, lh⟩ := LR
      obtain ⟨mp, me, mh⟩ := MR
      simp only at hA hl2 ⊢
      obtain ⟨rfl, rfl⟩ := hA
      clear t3 T3 HV2 HV3
      go_wp2_with fail
      refine hl2.mono ?_
      rintro e w4 ⟨rfl, t4⟩
      clear hl2
      have hlv := olive_any w4
      have HT4 : Hid (Touch w w4 []) := HT3.out.trans t4 (by simp)
      clear t4
      go_wp2_with fail
      refine hlv.mono ?_
      rintro e w5 ⟨rfl, t5⟩
      clear hlv
      go_wp2
      go_ret
      exact ⟨rfl, HT4.out.trans t5 (by simp)⟩

end Go.Proofs.Ytjacclbifeoclaa
