/-
  package rowlockref09: asked BY ITS CONTRACT.
-/
import Derived.Test.YtjacclbifeoclaaOpqRefOwn
namespace Go.Proofs.Ytjacclbifeoclaa
set_option linter.unusedVariables false
set_option linter.unusedSimpArgs false
open Go.RowKit Go.Maps Go.Shelf
attribute [local go_sem] Oper.semAt_some

def comOk (l : List EvD) (com : List Int) (i : Nat) : Bool := decide (stateS l (com.getD i 0) = 2) && !decide (com.getD i 0 ∈ com.take i)
theorem in_state {l : List EvD} {s x : Int} (hs : s ≠ 0) : x ∈ inS l s ↔ stateS l x = s := by
  unfold inS
  rw [List.mem_filter]
  constructor
  · intro h; simpa using h.2
  · intro h
    refine ⟨?_, by simpa using h⟩
    refine Classical.byContradiction fun hno => ?_
    unfold stateS at h
    rw [if_neg hno] at h
    exact hs h.symm
theorem each_ok {l : List EvD} {com : List Int} : ∀ k, k ≤ com.length → ((List.range k).all (comOk l com) = eachP (com.take k) (inS l 2))
  | 0, _ => rfl
  | k + 1, h => by
    have hk : k < com.length := by omega
    rw [List.range_succ, List.all_append, each_ok k (by omega), each_snoc hk]
    congr 1
    simp only [List.all_cons, List.all_nil, Bool.and_true, comOk]
    have e : com.getD k 0 = com[k] := by simp [List.getD_eq_getElem?_getD, hk]
    rw [e]
    congr 1
    rw [Bool.eq_iff_iff]
    simp only [decide_eq_true_eq]
    exact (in_state (by decide)).symm
theorem com_no {l : List EvD} {com : List Int} {k : Nat} (hk : k < com.length) (h : comOk l com k = false) : eachP com (inS l 2) = false := by
  have := each_ok (l := l) com.length (Nat.le_refl _)
  rw [List.take_length] at this
  rw [← this, List.all_eq_false]
  exact ⟨k, by simpa using hk, by rw [h]; simp⟩
theorem com_yes {l : List EvD} {com : List Int} (h : ∀ k, k < com.length → comOk l com k = true) : eachP com (inS l 2) = true := by
  have := each_ok (l := l) com.length (Nat.le_refl _)
  rw [List.take_length] at this
  rw [← this, List.all_eq_true]
  exact fun k hk => h k (by simpa using hk)

set_option maxRecDepth 100000 in
set_option maxHeartbeats 8000000 in
theorem asked_any {w : World} {ve vh vc : Value} {l : List EvD} {hp com : List Int} (hr : EvRow w ve l) (hl : l.length ≤ 1000) (hwf : ∀ e ∈ l, e.Wf) (hh : VRow w vh hp) (hhl : hp.length ≤ 1000) (hhw : ∀ x ∈ hp, Wf64 x) (hc : IRow w vc com) (hcl : com.length ≤ 1000) (hcap : ∀ ao n cap, vc = .slice ao n cap → n ≤ cap) :
    Calls Try.prog 27 #[ve, vh, vc] w fun e w' => e = .returned (.int .i64 (begE l hp com)) ∧ Touch w w' [] := by
  obtain ⟨ao, cap, rfl⟩ := hr.form
  obtain ⟨ho, hcp, rfl⟩ := hh.form
  obtain ⟨co, ccap, rfl⟩ := hc.form
  have hcc : com.length ≤ ccap := hcap _ _ _ rfl
  have hrt := rhright_any hr hl hwf
  have HVH : Hid (VRow w (.slice ho hp.length hcp) hp) := hh
  have HVC : Hid (IRow w (.slice co com.length ccap) com) := hc
  have HHW : Hid (∀ x ∈ hp, Wf64 x) := hhw
  have HST : Hid (∀ W, Touch w W [] → ∀ a, Calls Try.prog 49 #[.slice ao l.length cap, .int .i64 a] W fun x w' => x = .returned (.int .u8 (stateS l a)) ∧ W = w') := fun W t a => rstateOf_any (SRow.keep hr t (by simp)) hl a
  have HIN : Hid (∀ W, Touch w W [] → ∀ k, k ≤ com.length → ∀ x, Calls Try.prog 50 #[.slice co k ccap, .int .i64 x] W fun e w' => e = .returned (.bool (decide (x ∈ com.take k))) ∧ W = w') := fun W t k hk x => by
    have h1 := rin_of (SRow.keep (SRow.first hc k hk) t (by simp)) (by simp; omega) x
    have h3 : (com.take k).length = k := by simp; omega
    rw [h3] at h1
    exact h1
  obtain ⟨res, hres⟩ : ∃ r, r = begE l hp com := ⟨_, rfl⟩
  rw [← hres]
  have HRES : Hid (res = begE l hp com) := hres
  obtain ⟨NH, hNH⟩ : ∃ N, N = hp.length := ⟨_, rfl⟩
  obtain ⟨NC, hNC⟩ : ∃ N, N = com.length := ⟨_, rfl⟩
  have HNH : Hid (NH = hp.length) := hNH
  have HNC : Hid (NC = com.length) := hNC
  rw [← hNH] at hhl ⊢
  rw [← hNC] at hcl hcc HIN ⊢
  clear hr hh hc hwf hhw hcap hres hNH hNC
  generalize l.length = NE at *
  cases hq : rightS l with
  | false =>
    rw [hq] at hrt
    have HE : Hid (res = 3) := by show _ = _; rw [HRES.out]; unfold begE; rw [if_pos (.inl hq)]
    clear hq
    go_enter Try.func27, Try.ntmps27
    go_wp2_with fail
    refine hrt.mono ?_
    rintro e w1 ⟨rfl, t1⟩
    clear hrt
    go_wp2
    go_ret
    exact ⟨by rw [HE.out]; rfl, t1⟩
  | true =>
    rw [hq] at hrt
    have HQ : Hid _ := hq
    clear hq
    by_cases h12 : 12 < NH
    · have h12' : (12 : Int) < NH := by omega
      have HE : Hid (res = 3) := by
        show _ = _
        rw [HRES.out]
        unfold begE
        rw [if_pos (.inr (by unfold heapOk; rw [Bool.and_eq_false_iff]; right; rw [decide_eq_false_iff_not, ← HNH.out]; omega))]
      go_enter Try.func27, Try.ntmps27
      go_wp2_with fail
      refine hrt.mono ?_
      rintro e w1 ⟨rfl, t1⟩
      clear hrt
      go_wp2
      go_ret
      exact ⟨by rw [HE.out]; rfl, t1⟩
    · have h12' : ¬ (12 : Int) < NH := by omega
      have HN12 : Hid (NH ≤ 12) := by show _ ≤ _; omega
      clear h12
      go_enter Try.func27, Try.ntmps27
      go_wp2_with fail
      refine hrt.mono ?_
      rintro e w1 ⟨rfl, t1⟩
      have HT1 : Hid (Touch w w1 []) := t1
      clear hrt t1
      go_wp2_with fail
      go_loopw [7] (fun i wr => ∃ k : Nat, i = .int .i64 k ∧ k ≤ NH ∧ (∀ x ∈ hp.take k, rightB x = true) ∧ wr = w1) (fun i _ => NH - (intOf i).toNat)
      case atStart => exact ⟨0, rfl, Nat.zero_le _, by simp, rfl⟩
      case round =>
        obtain ⟨k, rfl, hk, hrs, hwr⟩ := hrel
        subst wr
        have HRS : Hid (∀ x ∈ hp.take k, rightB x = true) := hrs
        clear hrs
        by_cases hlt : k < NH
        · have h1 : (k : Int) < NH := by omega
          have h0 : (0 : Int) ≤ k := by omega
          have hkl : k < hp.length := by rw [← HNH.out]; exact hlt
          obtain ⟨g, off, hgo, hg, d0⟩ := VRow.one (SRow.keep HVH.out HT1.out (by simp)) k hkl
          subst hgo
          have hrt := rright_any hp[k] (HHW.out _ (List.getElem_mem hkl))
          have HX1 : Hid (rightB hp[k] = true → ∀ y ∈ hp.take (k + 1), rightB y = true) := fun h y hy => by
            rw [take_snoc hkl] at hy
            rcases List.mem_append.1 hy with hy | hy
            · exact HRS.out y hy
            · simp at hy; rw [hy]; exact h
          have HE : Hid (rightB hp[k] = false → res = 3) := fun h => by
            rw [HRES.out]
            unfold begE
            rw [if_pos (.inr (by unfold heapOk; rw [Bool.and_eq_false_iff]; left; rw [List.all_eq_false]; exact ⟨hp[k], List.getElem_mem hkl, by rw [h]; simp⟩))]
          generalize hp[k] = y at *
          cases hy : rightB y with
          | true =>
            rw [hy] at hrt
            have HX2 : Hid (∀ y ∈ hp.take (k + 1), rightB y = true) := HX1.out hy
            clear hy HX1 HE
            go_wp2_with fail
            refine (hrt _).mono ?_
            rintro e w2 ⟨rfl, rfl⟩
            clear hrt
            go_wp2
            go_roundw
            case rel => exact ⟨k + 1, by go_num, by omega, HX2.out, by simp⟩
            case measure => simp [intOf]; omega
          | false =>
            rw [hy] at hrt
            have HX2 : Hid (res = 3) := HE.out hy
            clear hy HX1 HE
            go_wp2_with fail
            refine (hrt _).mono ?_
            rintro e w2 ⟨rfl, rfl⟩
            clear hrt
            go_wp2
            go_ret
            exact ⟨by rw [HX2.out]; rfl, HT1.out⟩
        · obtain rfl : k = NH := by omega
          have hok : heapOk hp = true := by
            unfold heapOk
            simp only [Bool.and_eq_true, decide_eq_true_eq, List.all_eq_true]
            exact ⟨fun x hx => HRS.out x (by rw [HNH.out, List.take_length]; exact hx), by rw [← HNH.out]; exact HN12.out⟩
          have HRB : Hid (res = if eachP com (inS l 2) = false then 2 else 0) := by
            show _ = _
            rw [HRES.out]
            unfold begE
            rw [if_neg (by rw [HQ.out, hok]; simp)]
          clear hok hlt HRES HRS
          go_wp2_with fail
          go_loopw [8] (fun i wr => ∃ k : Nat, i = .int .i64 k ∧ k ≤ NC ∧ (∀ j, j < k → comOk l com j = true) ∧ Touch w wr []) (fun i _ => NC - (intOf i).toNat)
          case atStart => exact ⟨0, rfl, Nat.zero_le _, by intro j hj; omega, HT1.out⟩
          case round =>
            obtain ⟨j, rfl, hj, hall, t⟩ := hrel
            have HT : Hid (Touch w wr []) := t
            have HALL : Hid (∀ i, i < j → comOk l com i = true) := hall
            clear hall
            by_cases hlt : j < NC
            · have h1 : (j : Int) < NC := by omega
              have h0 : (0 : Int) ≤ j := by omega
              have h2 : (j : Int) ≤ ccap := by omega
              have hjl : j < com.length := by rw [← HNC.out]; exact hlt
              obtain ⟨g, off, hgo, hg, d0⟩ := IRow.one (SRow.keep HVC.out t (by simp)) j hjl
              subst hgo
              have hgd : com.getD j 0 = com[j] := by simp [List.getD_eq_getElem?_getD, hjl]
              have hok : comOk l com j = (decide (stateS l com[j] = 2) && !decide (com[j] ∈ com.take j)) := by unfold comOk; rw [hgd]
              have HNX : Hid (comOk l com j = true → ∀ i, i < j + 1 → comOk l com i = true) := fun h i hi => by
                by_cases hij : i = j
                · rw [hij]; exact h
                · exact HALL.out i (by omega)
              have HNO : Hid (comOk l com j = false → res = 2) := fun h => by rw [HRB.out, if_pos (com_no hjl h)]
              have hst := fun W (t : Touch w W []) => HST.out W t com[j]
              have hin := fun W (t : Touch w W []) => HIN.out W t j (by omega) com[j]
              generalize com[j] = x at *
              generalize stateS l x = st at *
              generalize decide (x ∈ com.take j) = q at *
              have HOK : Hid _ := hok
              have HSTT : Hid (∀ W, Touch w W [] → Calls Try.prog 49 #[.slice ao NE cap, .int .i64 x] W fun e w' => e = .returned (.int .u8 st) ∧ W = w') := hst
              have HINN : Hid (∀ W, Touch w W [] → Calls Try.prog 50 #[.slice (some ⟨g, off, none⟩) j ccap, .int .i64 x] W fun e w' => e = .returned (.bool q) ∧ W = w') := hin
              have HSC : Hid (∀ W, Touch wr W [] → W.cell? ⟨g, off + j, none⟩ = some (.int .i64 x)) := fun W tt => (tt.cell (p := ⟨g, off + j, none⟩) hg (by simp)).trans d0
              have hd : Touch wr wr.drew [] := (Touch.refl wr []).drew
              clear hst hin hok hgd t HALL
              by_cases h2s : st = 2
              · subst h2s
                cases q with
                | true =>
                  have HR : Hid (res = 2) := HNO.out (by rw [HOK.out]; rfl)
                  clear HNO HNX HOK
                  go_wp2_with fail
                  go_quiet (first | (go_at_call 49; exact Calls.quiet_of_same ((HSTT.out _ (HT.out.drewN _)).mono fun _ _ h => ⟨h.1, h.2.symm⟩)) | (go_at_call 50; exact Calls.quiet_of_same ((HINN.out _ (HT.out.drewN _)).mono fun _ _ h => ⟨h.1, h.2.symm⟩)))
                  all_goals (
                    have HT4 : Hid (Touch w (wr.drewN nq) []) := HT.out.drewN _
                    go_wp2
                    go_ret
                    exact ⟨by rw [HR.out]; rfl, HT4.out⟩)
                | false =>
                  have HX2 : Hid (∀ i, i < j + 1 → comOk l com i = true) := HNX.out (by rw [HOK.out]; rfl)
                  clear HNO HNX HOK
                  go_wp2_with fail
                  go_quiet (first | (go_at_call 49; exact Calls.quiet_of_same ((HSTT.out _ (HT.out.drewN _)).mono fun _ _ h => ⟨h.1, h.2.symm⟩)) | (go_at_call 50; exact Calls.quiet_of_same ((HINN.out _ (HT.out.drewN _)).mono fun _ _ h => ⟨h.1, h.2.symm⟩)))
                  all_goals (
                    have HT4 : Hid (Touch w (wr.drewN nq) []) := HT.out.drewN _
                    go_wp2
                    go_roundw
                    case rel => exact ⟨j + 1, by go_num, by omega, HX2.out, HT4.out⟩
                    case measure => simp [intOf]; omega)
              · have h2s' : (st == 2) = false := by simpa using h2s
                have HR : Hid (res = 2) := HNO.out (by rw [HOK.out, decide_eq_false h2s]; rfl)
                have h2t : (st != 2) = true := by simp [h2s]
                have h2u : decide (st = 2) = false := decide_eq_false h2s
                clear HNO HNX HOK
                go_wp2_with fail
                go_quiet (first | (go_at_call 49; exact Calls.quiet_of_same ((HSTT.out _ (HT.out.drewN _)).mono fun _ _ h => ⟨h.1, h.2.symm⟩)) | (go_at_call 50; exact Calls.quiet_of_same ((HINN.out _ (HT.out.drewN _)).mono fun _ _ h => ⟨h.1, h.2.symm⟩)))
                all_goals (
                  have HT4 : Hid (Touch w (wr.drewN nq) []) := HT.out.drewN _
                  go_wp2
                  go_ret
                  exact ⟨by rw [HR.out]; rfl, HT4.out⟩)
            · obtain rfl : j = NC := by omega
              have HR : Hid (res = 0) := by
                show _ = _
                rw [HRB.out, if_neg (by rw [com_yes (fun i hi => HALL.out i (by rw [HNC.out]; exact hi))]; simp)]
              clear t
              go_wp2
              go_ret
              exact ⟨by rw [HR.out]; rfl, HT.out⟩

end Go.Proofs.Ytjacclbifeoclaa
