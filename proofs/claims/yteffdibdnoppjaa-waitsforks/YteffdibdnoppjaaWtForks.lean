/-
  WaitsForks, WALKED.
-/
import Derived.Test.YteffdibdnoppjaaWtPlay
namespace Go.Proofs.Yteffdibdnoppjaa
set_option linter.unusedVariables false
set_option linter.unusedSimpArgs false
open Go.RowKit Go.Maps

theorem DeedW.Wf.keep {w w' : World} {d : DeedW} (h : d.Wf w) (t : Touch w w' []) : d.Wf w' := ⟨h.th, SRow.keep h.row t (by simp), h.cap, h.len⟩

set_option maxRecDepth 100000 in
set_option maxHeartbeats 2000000 in
theorem wforks_any (ao : Option Addr) (cap : Nat) (ds : List DeedW) (am : Option Addr) (cm : Nat) (ms : List DeedW) (w : World) (hr : DeedWRow w (.slice ao ds.length cap) ds) (hwf : ∀ d ∈ ds, d.Wf w) (hl : ds.length ≤ maxLen)
    (hrm : DeedWRow w (.slice am ms.length cm) ms) (hwm : ∀ d ∈ ms, d.Wf w) (hlm : ms.length ≤ maxLen) :
    Calls Try.prog 8 #[.slice ao ds.length cap, .slice am ms.length cm] w fun e w' => e = .returned (.bool true) ∧ Touch w w' [] := by
  have hp : HidC _ _ _ _ _ := ⟨play_any hr hwf hl⟩
  clear hr hwf hl
  have hl2 : ms.length ≤ 9223372036854775807 := by unfold maxLen at hlm; omega
  have HR : Hid _ := hrm
  have HW : Hid _ := hwm
  obtain ⟨M, hM⟩ : ∃ M, M = ms.length := ⟨_, rfl⟩
  have HM : Hid _ := hM
  rw [← hM] at hl2 ⊢
  clear hrm hwm hlm hM
  generalize runW [] (ds.take 60) = L at *
  generalize ds.length = N at *
  go_enter Try.func8, Try.ntmps8
  go_wp2_with fail
  refine hp.out.mono ?_
  rintro e w1 ⟨b, F, r, G, rfl, h1⟩
  clear hp
  have HP : Hid _ := h1
  clear h1
  go_wp2_with fail
  refine (live_any w1).mono ?_
  rintro e w2 ⟨rfl, t2⟩
  have HP2 : Hid _ := HP.out.keep t2
  clear t2 HP
  go_wp2_with fail
  refine (fork_any HP2.out.l).mono ?_
  rintro e w3 ⟨b', F', rfl, h3, t3, hF'⟩
  have hP3 := HP2.out.keep t3
  have HR3 : Hid _ := hP3.r
  have H3 : Hid (WAt w3 b' F' 60 L ∧ Touch w2 w3 [] ∧ ∀ x ∈ F', w2.heap.size ≤ x) := ⟨h3, t3, hF'⟩
  clear h3 t3 hF' hP3
  go_wp2_with fail
  refine (rfork_any HR3.out).mono ?_
  rintro e w4 ⟨r', G', rfl, h4, t4, hG'⟩
  have HK : Hid (PM w2 w4 b' F' 60 L r' G' L) := by
    obtain ⟨h3, t3, hF'⟩ := H3.out
    exact ⟨h3.touch t4 (by simp), h4, fun x hx hg => by have := h3.lt x hx; have := hG' x hg; omega, hF', fun x hx => Nat.le_trans t3.size (hG' x hx), t3.trans t4 (by simp)⟩
  have HW2 : Hid (∀ d ∈ ms, d.Wf w2) := fun d hd => (HW.out d hd).keep HP2.out.t
  have HROW2 : Hid (DeedWRow w2 (.slice am M cm) ms) := by rw [HM.out]; exact SRow.keep HR.out HP2.out.t (by simp)
  clear h4 t4 hG' H3 HR3 HW HR
  go_wp2_with fail
  go_loopw [10] (fun i wr => ∃ j : Nat, i = .int .i64 j ∧ j ≤ M ∧ j ≤ 14 ∧ ∃ L' F1 G1, PM w2 wr b' F1 (60 + j) L' r' G1 L') (fun i _ => 14 - (intOf i).toNat)
  case atStart => exact ⟨0, rfl, Nat.zero_le _, Nat.zero_le _, L, F', G', HK.out⟩
  case round =>
    obtain ⟨j, rfl, hj, hj14, L', F1, G1, hP⟩ := hrel
    have hend : HidC _ _ _ _ _ := ⟨same_any (HP2.out.keep hP.t)⟩
    have HE2 : Hid (∀ W, Touch wr W [] → HidC _ _ _ W _) := fun W T => ⟨same_any (hP.keep T)⟩
    have HTE : Hid (Touch w wr []) := HP2.out.t.trans hP.t (by simp)
    by_cases hlt : j < M
    · have h1 : (j : Int) < M := by omega
      have h0 : (0 : Int) ≤ j := by omega
      by_cases h14 : j < 14
      · have h2 : (j : Int) < 14 := by omega
        have hjl : j < ms.length := by rw [← HM.out]; exact hlt
        obtain ⟨g, off, rfl, d0, d1, d2⟩ := deed_cells (cap := cm) (by have := HROW2.out; rw [HM.out] at this; exact this) hP.t j hjl
        have hdo : HidC _ _ _ _ _ := ⟨do_any hP (by omega) ms[j] (HW2.out _ (List.getElem_mem hjl))⟩
        generalize stepW L' ms[j] = L2 at *
        generalize ms[j] = d at *
        clear hP hend HE2 HTE
        obtain ⟨dk, th, da, dc, tv⟩ := d
        simp only [DeedW.val] at hdo d0 d1 d2
        generalize tv.length = K at *
        go_wp2_with fail
        refine hdo.out.mono ?_
        rintro e w5 ⟨rfl, F2, G2, hP2⟩
        have HP5 : Hid _ := hP2
        clear hdo hP2 d0 d1 d2
        go_wp2
        go_roundw
        case rel => exact ⟨j + 1, by go_num, by omega, by omega, L2, F2, G2, HP5.out⟩
        case measure => simp [intOf]; omega
      · obtain rfl : j = 14 := by omega
        clear hP
        go_wp2_with fail
        refine hend.out.mono ?_
        rintro e w5 ⟨rfl, t5⟩
        have hs2 := HE2.out _ t5
        have HT5 : Hid _ := HTE.out.trans t5 (by simp)
        clear hend t5
        go_wp2_with fail
        refine hs2.out.mono ?_
        rintro e w6 ⟨rfl, t6⟩
        have HT6 : Hid _ := HT5.out.trans t6 (by simp)
        clear hs2 t6
        go_wp2
        go_ret
        exact ⟨rfl, HT6.out⟩
    · obtain rfl : j = M := by omega
      clear hP
      go_wp2_with fail
      refine hend.out.mono ?_
      rintro e w5 ⟨rfl, t5⟩
      have hs2 := HE2.out _ t5
      have HT5 : Hid _ := HTE.out.trans t5 (by simp)
      clear hend t5
      go_wp2_with fail
      refine hs2.out.mono ?_
      rintro e w6 ⟨rfl, t6⟩
      have HT6 : Hid _ := HT5.out.trans t6 (by simp)
      clear hs2 t6
      go_wp2
      go_ret
      exact ⟨rfl, HT6.out⟩

end Go.Proofs.Yteffdibdnoppjaa
