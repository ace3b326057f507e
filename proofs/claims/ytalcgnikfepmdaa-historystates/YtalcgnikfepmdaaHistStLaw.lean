/-
  HistoryStates: EACH ATTEMPT OF RIGHT EVENTS IS IN JUST ONE STATE; what ended stays so; walked.
-/
import Derived.Test.YtalcgnikfepmdaaHistOrderLaw
import Derived.Test.YtalcgnikfepmdaaHistIn
import Derived.Test.YtalcgnikfepmdaaHistEnds
namespace Go.Proofs.Ytalcgnikfepmdaa
set_option linter.unusedVariables false
set_option linter.unusedSimpArgs false
open Go.RowKit Go.Maps Go.Shelf
attribute [local go_sem] Oper.semAt_some

theorem len_form {w : World} {B : Nat} {v : Value} {l : List Int} (h : intOwn w B v l) : ∃ ao cap, v = .slice ao l.length cap := by
  obtain ⟨ao, cap, e, _⟩ := int_form h
  exact ⟨ao, cap, e⟩

set_option maxRecDepth 100000 in
set_option maxHeartbeats 4000000 in
theorem hstates_any (ao : Option Addr) (cap : Nat) (l : List EvD) (n : Int) (w : World) (hr : EvRow w (.slice ao l.length cap) l) (hc : l.length ≤ cap ∧ cap ≤ maxLen) (hwf : ∀ e ∈ l, e.Wf) (hn : 0 ≤ n ∧ n ≤ 255) :
    Calls Try.prog 4 #[.slice ao l.length cap, .int .u8 n] w (TrueN w) := by
  have hf := few_any hr hc
  have hrow := few_row hr
  have hwf' := few_wf hwf
  have hlen := few_len l
  have hcp : (l.take 60).length ≤ cap := by have := hc.1; simp; omega
  have hcm := hc.2
  unfold maxLen at hcm
  clear hr hc hwf
  generalize l.length = N at *
  generalize hm : l.take 60 = m at *
  clear hm
  obtain ⟨L, hL⟩ : ∃ L, L = m.length := ⟨_, rfl⟩
  have HL : Hid _ := hL
  have HROW : Hid (EvRow w (.slice ao m.length cap) m) := hrow
  have HWF : Hid _ := hwf'
  have hri := right_of hrow (by omega) hwf'
  rw [← hL] at hf hri hlen hcp
  clear hrow hwf' hL
  go_enter Try.func4, Try.ntmps4
  go_wp2_with fail
  refine hf.mono ?_
  rintro e w1 ⟨rfl, rfl⟩
  clear hf
  go_wp2_with fail
  refine hri.mono ?_
  rintro e w1 ⟨rfl, t1⟩
  clear hri
  cases hq : rightS m with
  | false =>
    go_wp2_with fail
    refine (hlive_any w1).mono ?_
    rintro e w2 ⟨rfl, t2⟩
    go_wp2
    go_ret
    exact ⟨rfl, t1.trans t2 (by simp)⟩
  | true =>
    obtain ⟨M, hM⟩ := right_run hq
    have HM : Hid _ := hM
    clear hq hM
    have hat := attempts_any (SRow.keep HROW.out t1 (by simp)) (by rw [← HL.out]; omega) HWF.out
    have HIN : Hid (∀ s W, Touch w W [] → Calls Try.prog 13 #[.slice ao m.length cap, .int .u8 s] W fun x w' => ∃ v, x = .returned v ∧ intOwn w' W.heap.size v ((attS m).filter fun x => !(stateS m x != s)) ∧ Touch W w' []) := fun s W t => in_any (SRow.keep HROW.out t (by simp)) (by rw [← HL.out]; omega) HWF.out s
    have hfour := four_count (stateS m) (attS m) (fun x hx => state_range m hx)
    have hal := attS_le m
    rw [← HL.out] at hat HIN hal
    obtain ⟨c1, hc1⟩ : ∃ c, c = ((attS m).filter fun x => !(stateS m x != 1)).length := ⟨_, rfl⟩
    obtain ⟨c2, hc2⟩ : ∃ c, c = ((attS m).filter fun x => !(stateS m x != 2)).length := ⟨_, rfl⟩
    obtain ⟨c3, hc3⟩ : ∃ c, c = ((attS m).filter fun x => !(stateS m x != 3)).length := ⟨_, rfl⟩
    obtain ⟨c4, hc4⟩ : ∃ c, c = ((attS m).filter fun x => !(stateS m x != 4)).length := ⟨_, rfl⟩
    obtain ⟨X, hX⟩ : ∃ X, X = (attS m).length := ⟨_, rfl⟩
    rw [← hc1, ← hc2, ← hc3, ← hc4, ← hX] at hfour
    rw [← hX] at hal
    have HC1 : Hid _ := hc1
    have HC2 : Hid _ := hc2
    have HC3 : Hid _ := hc3
    have HC4 : Hid _ := hc4
    have HX : Hid _ := hX
    clear hc1 hc2 hc3 hc4 hX
    go_wp2_with fail
    refine hat.mono ?_
    rintro e w2 ⟨v2, rfl, hv2, t2⟩
    clear hat
    obtain ⟨ao2, cap2, rfl, hcell⟩ := int_form hv2
    rw [← HX.out]
    have t02 := t1.trans t2 (by simp)
    have hi1 := HIN.out 1 w2 t02
    have HCELL : Hid _ := hcell
    clear hv2 hcell t1 t2
    go_wp2_with fail
    refine hi1.mono ?_
    rintro e w3 ⟨v3, rfl, hv3, t3⟩
    obtain ⟨ao3, cap3, rfl⟩ := len_form hv3
    rw [← HC1.out]
    have t03 := t02.trans t3 (by simp)
    have hi2 := HIN.out 2 w3 t03
    clear hi1 hv3
    go_wp2_with fail
    refine hi2.mono ?_
    rintro e w4 ⟨v4, rfl, hv4, t4⟩
    obtain ⟨ao4, cap4, rfl⟩ := len_form hv4
    rw [← HC2.out]
    have t04 := t03.trans t4 (by simp)
    have hi3 := HIN.out 3 w4 t04
    clear hi2 hv4
    go_wp2_with fail
    refine hi3.mono ?_
    rintro e w5 ⟨v5, rfl, hv5, t5⟩
    obtain ⟨ao5, cap5, rfl⟩ := len_form hv5
    rw [← HC3.out]
    have t05 := t04.trans t5 (by simp)
    have hi4 := HIN.out 4 w5 t05
    clear hi3 hv5
    go_wp2_with fail
    refine hi4.mono ?_
    rintro e w6 ⟨v6, rfl, hv6, t6⟩
    obtain ⟨ao6, cap6, rfl⟩ := len_form hv6
    rw [← HC4.out]
    have t06 := t05.trans t6 (by simp)
    have t26 : Touch w2 w6 [] := ((t3.trans t4 (by simp)).trans t5 (by simp)).trans t6 (by simp)
    clear hi4 hv6 HIN t02 t03 t04 t05 t3 t4 t5 t6
    have hk1 := Int.emod_nonneg n (show (L : Int) + 1 ≠ 0 by omega)
    have hk2 := Int.emod_lt_of_pos n (show 0 < (L : Int) + 1 by omega)
    obtain ⟨k, hk⟩ : ∃ k : Nat, (k : Int) = n % ((L : Int) + 1) := ⟨(n % ((L : Int) + 1)).toNat, by omega⟩
    have hkL : k ≤ L := by omega
    have hLz : ¬ ((L : Int) + 1 = 0) := by omega
    have HK : Hid _ := hk
    have HT6 : Hid _ := t06
    have HT26 : Hid _ := t26
    have hsum : (c1 : Int) + c2 + c3 + c4 = X := by omega
    have HS : Hid _ := hsum
    clear hk hk1 hk2 hsum t06 t26
    go_wp2_with fail
    rw [← HK.out]
    go_loopw [8] (fun vi wr => ∃ i : Nat, vi = .int .i64 i ∧ i ≤ X ∧ Touch w wr [] ∧ Touch w2 wr []) (fun vi _ => X - (intOf vi).toNat)
    case atStart => exact ⟨0, rfl, Nat.zero_le _, HT6.out, HT26.out⟩
    case round =>
      obtain ⟨i, rfl, hi, t, t2⟩ := hrel
      clear HT6 HT26
      by_cases hit : i < X
      · have h1 : (i : Int) < X := by omega
        have h0 : (0 : Int) ≤ i := by omega
        have hil : i < (attS m).length := by rw [← HX.out]; exact hit
        obtain ⟨g, rfl, hg, hcg⟩ := HCELL.out i hil
        have d0 := (t2.cell (p := ⟨g, i, none⟩) hg (by simp)).trans hcg
        have hxm : (attS m)[i] ∈ attS m := List.getElem_mem hil
        obtain ⟨x, hx⟩ : ∃ x, x = (attS m)[i] := ⟨_, rfl⟩
        rw [← hx] at d0 hxm
        have hxw := attS_wf HWF.out x hxm
        have hm0 : 0 < m.length := by have := attS_le m; omega
        obtain ⟨g0, off, hao, _⟩ := HROW.out.one 0 hm0
        subst hao
        have hkc : (k : Int) ≤ cap := by omega
        have hk0 : (0 : Int) ≤ k := by omega
        have hkp : ∀ w', Touch wr w' [] → w'.cell? ⟨g, i, none⟩ = some (.int .i64 x) := fun w' tt => (tt.cell (p := ⟨g, i, none⟩) (Nat.lt_of_lt_of_le hg t2.size) (by simp)).trans d0
        have hrk := SRow.first (SRow.keep HROW.out (t.drew) (by simp)) k (by rw [← HL.out]; exact hkL)
        have hkl : (m.take k).length = k := by rw [List.length_take, ← HL.out]; omega
        have hst1 := stateOf_any hrk (by omega) (fun e he => HWF.out e (List.mem_of_mem_take he)) x hxw
        rw [hkl] at hst1
        have hstay := fun h => state_stays HM.out (k := k) (by rw [← HL.out]; exact hkL) (x := x) h
        have HST2 : Hid (∀ W, Touch w W [] → Calls Try.prog 9 #[.slice (some ⟨g0, off, none⟩) m.length cap, .int .i64 x] W fun e w' => e = .returned (.int .u8 (stateS m x)) ∧ Touch W w' []) := fun W tt => stateOf_any (SRow.keep HROW.out tt (by simp)) (by rw [← HL.out]; omega) HWF.out x hxw
        rw [← HL.out] at HST2
        have HSTAY : Hid _ := hstay
        generalize hsa : stateS (m.take k) x = sa at *
        generalize hsb : stateS m x = sb at *
        clear hrk hkl hstay hx hcg hxm hsa hsb
        go_wp2_with fail
        refine wp_region_held_drew (S := fun w' => w'.cell? ⟨g, i, none⟩ = some (.int .i64 x)) (by kernel_rfl) (hkp _ (Touch.refl _ _).drew) (fun hHeld => ?_)
        refine wpAnyH_take (i := 0) (v := (.slice (some ⟨g0, off, none⟩) L cap)) rfl (by kernel_rfl) (by kernel_rfl) (by kernel_rfl) (fun _ _ _ h => h) (Or.inl ⟨by rfl, ?_⟩) hHeld ?_
        · intro w' hSw
          try simp only [Act.put, List.getElem_toArray, List.getElem_cons_succ, List.getElem_cons_zero, List.setIfInBounds_toArray, List.set_cons_zero, List.set_cons_succ]
          (have q := hSw; go_simp)
        try simp only [Act.put, List.getElem_toArray, List.getElem_cons_succ, List.getElem_cons_zero, List.setIfInBounds_toArray, List.set_cons_zero, List.set_cons_succ]
        refine wpAnyH_take (i := 1) (v := (.int .i64 (k : Int))) rfl (by kernel_rfl) (by kernel_rfl) (by kernel_rfl) (fun _ _ _ h => h) (Or.inl ⟨by rfl, ?_⟩) hHeld ?_
        · intro w' hSw
          try simp only [Act.put, List.getElem_toArray, List.getElem_cons_succ, List.getElem_cons_zero, List.setIfInBounds_toArray, List.set_cons_zero, List.set_cons_succ]
          (have q := hSw; go_simp)
        try simp only [Act.put, List.getElem_toArray, List.getElem_cons_succ, List.getElem_cons_zero, List.setIfInBounds_toArray, List.set_cons_zero, List.set_cons_succ]
        refine wpAnyH_take (i := 2) (v := (.slice (some ⟨g0, off, none⟩) k cap)) rfl (by kernel_rfl) (by kernel_rfl) (by kernel_rfl) (fun _ _ _ h => h) (Or.inl ⟨by rfl, ?_⟩) hHeld ?_
        · intro w' hSw
          try simp only [Act.put, List.getElem_toArray, List.getElem_cons_succ, List.getElem_cons_zero, List.setIfInBounds_toArray, List.set_cons_zero, List.set_cons_succ]
          (have q := hSw; go_simp)
        try simp only [Act.put, List.getElem_toArray, List.getElem_cons_succ, List.getElem_cons_zero, List.setIfInBounds_toArray, List.set_cons_zero, List.set_cons_succ]
        refine wpAnyH_take (i := 3) (v := (.slice (some ⟨g, 0, none⟩) X cap2)) rfl (by kernel_rfl) (by kernel_rfl) (by kernel_rfl) (fun _ _ _ h => h) (Or.inl ⟨by rfl, ?_⟩) hHeld ?_
        · intro w' hSw
          try simp only [Act.put, List.getElem_toArray, List.getElem_cons_succ, List.getElem_cons_zero, List.setIfInBounds_toArray, List.set_cons_zero, List.set_cons_succ]
          (have q := hSw; go_simp)
        try simp only [Act.put, List.getElem_toArray, List.getElem_cons_succ, List.getElem_cons_zero, List.setIfInBounds_toArray, List.set_cons_zero, List.set_cons_succ]
        refine wpAnyH_take (i := 4) (v := (.int .i64 (i : Int))) rfl (by kernel_rfl) (by kernel_rfl) (by kernel_rfl) (fun _ _ _ h => h) (Or.inl ⟨by rfl, ?_⟩) hHeld ?_
        · intro w' hSw
          try simp only [Act.put, List.getElem_toArray, List.getElem_cons_succ, List.getElem_cons_zero, List.setIfInBounds_toArray, List.set_cons_zero, List.set_cons_succ]
          (have q := hSw; go_simp)
        try simp only [Act.put, List.getElem_toArray, List.getElem_cons_succ, List.getElem_cons_zero, List.setIfInBounds_toArray, List.set_cons_zero, List.set_cons_succ]
        refine wpAnyH_take (i := 5) (v := (.pointer (some ⟨g, i, none⟩))) rfl (by kernel_rfl) (by kernel_rfl) (by kernel_rfl) (fun _ _ _ h => h) (Or.inl ⟨by rfl, ?_⟩) hHeld ?_
        · intro w' hSw
          try simp only [Act.put, List.getElem_toArray, List.getElem_cons_succ, List.getElem_cons_zero, List.setIfInBounds_toArray, List.set_cons_zero, List.set_cons_succ]
          (have q := hSw; go_simp)
        try simp only [Act.put, List.getElem_toArray, List.getElem_cons_succ, List.getElem_cons_zero, List.setIfInBounds_toArray, List.set_cons_zero, List.set_cons_succ]
        refine wpAnyH_take (i := 6) (v := (.int .i64 x)) rfl (by kernel_rfl) (by kernel_rfl) (by kernel_rfl) (fun _ _ _ h => h) (Or.inl ⟨by rfl, ?_⟩) hHeld ?_
        · intro w' hSw
          try simp only [Act.put, List.getElem_toArray, List.getElem_cons_succ, List.getElem_cons_zero, List.setIfInBounds_toArray, List.set_cons_zero, List.set_cons_succ]
          (have q := hSw; go_simp)
        try simp only [Act.put, List.getElem_toArray, List.getElem_cons_succ, List.getElem_cons_zero, List.setIfInBounds_toArray, List.set_cons_zero, List.set_cons_succ]
        clear hHeld
        refine wpAnyH_ready (rs := [7]) (by kernel_rfl) (by simp) (AllReadyH.cons rfl (fun K hK => ?_) AllReadyH.nil)
        rw [if_pos (by rfl)]
        go_simp
        refine hst1.mono ?_
        rintro e w5 ⟨rfl, t5⟩
        have t5' : Touch wr w5 [] := (Touch.refl _ _).drew.trans t5 (by simp)
        clear hst1
        go_simp
        refine hK.out _ _ (hkp _ t5') (fun hHeld => ?_)
        clear hK
        try simp only [Act.put, List.getElem_toArray, List.getElem_cons_succ, List.getElem_cons_zero, List.setIfInBounds_toArray, List.set_cons_zero, List.set_cons_succ]
        clear hHeld
        refine wpAnyH_ready (rs := [8]) (by kernel_rfl) (by simp) (AllReadyH.cons rfl (fun K hK => ?_) AllReadyH.nil)
        rw [if_pos (by rfl)]
        go_simp
        refine hK.out _ _ (hkp _ t5') (fun hHeld => ?_)
        clear hK
        try simp only [Act.put, List.getElem_toArray, List.getElem_cons_succ, List.getElem_cons_zero, List.setIfInBounds_toArray, List.set_cons_zero, List.set_cons_succ]
        clear hHeld
        refine wpAnyH_done (by kernel_rfl) ?_ _
        have t05 := t.trans t5' (by simp)
        have t25 := t2.trans t5' (by simp)
        have d5 := hkp w5 t5'
        have hst2 := HST2.out w5 t05
        have HT05 : Hid _ := t05
        have HT25 : Hid _ := t25
        clear hkp t5' t05 t25 d0 HST2 t t2
        by_cases h34 : sa = 3 ∨ sa = 4
        · have hbb := HSTAY.out h34
          subst hbb
          rcases h34 with rfl | rfl
          all_goals
            go_wp2_with fail
            refine hst2.mono ?_
            rintro e w6 ⟨rfl, t6⟩
            have HT06 : Hid (Touch w w6 []) := HT05.out.trans t6 (by simp)
            have HT26 : Hid (Touch w2 w6 []) := HT25.out.trans t6 (by simp)
            clear hst2
            go_wp2
            go_roundw
            case rel => exact ⟨i + 1, by go_num, by omega, HT06.out, HT26.out⟩
            case measure => simp [intOf]; omega
        · have e3 : (sa == 3) = false := by simp; exact fun h => h34 (.inl h)
          have e4 : (sa == 4) = false := by simp; exact fun h => h34 (.inr h)
          clear h34 hst2
          go_wp2
          go_roundw
          case rel => exact ⟨i + 1, by go_num, by omega, HT05.out, HT25.out⟩
          case measure => simp [intOf]; omega
      · obtain rfl : i = X := by omega
        have HT : Hid _ := t
        clear t t2
        go_wp2_with fail
        refine (hlive_any wr).mono ?_
        rintro e w7 ⟨rfl, t7⟩
        have hs := HS.out
        have hse : ((c1 : Int) + c2 + c3 + c4 == i) = true := by simpa using hs
        go_wp2
        go_ret
        exact ⟨by simp [hs], HT.out.trans t7 (by simp)⟩

end Go.Proofs.Ytalcgnikfepmdaa
