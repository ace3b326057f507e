/-
  HistoryBegins: A BEGINNING OF RIGHT EVENTS IS RIGHT, and so are one attempt's; walked.
-/
import Derived.Test.YtalcgnikfepmdaaHistOrderLaw
import Derived.Test.YtalcgnikfepmdaaHistSame
namespace Go.Proofs.Ytalcgnikfepmdaa
set_option linter.unusedVariables false
set_option linter.unusedSimpArgs false
open Go.RowKit Go.Maps Go.Shelf
attribute [local go_sem] Oper.semAt_some

/-! ### Plain data -/
theorem right_take {l : List EvD} (h : rightS l = true) (k : Nat) : rightS (l.take k) = true := by
  obtain ⟨M, hM⟩ := right_run h
  unfold rightS at h ⊢
  simp only [Bool.and_eq_true, decide_eq_true_eq] at h ⊢
  refine ⟨by rw [List.length_take]; omega, ?_⟩
  by_cases hk : k ≤ l.length
  · obtain ⟨Mi, hi⟩ := run_at hM k hk
    exact Option.isSome_iff_exists.2 ⟨Mi, hi⟩
  · rw [List.take_of_length_le (by omega)]; exact h.2
theorem run_cut (a : Int) (l : List EvD) : ∀ M M' N, M a = M' a → runC M l = some N → ∃ N', runC M' (cutS a l) = some N' ∧ N' a = N a := by
  induction l with
  | nil => intro M M' N h hr; simp [runC] at hr; exact ⟨M', rfl, by rw [← hr, h]⟩
  | cons e l ih =>
    intro M M' N h hr
    simp only [runC] at hr
    cases hs : stepC M e with
    | none => rw [hs] at hr; cases hr
    | some M1 =>
      rw [hs] at hr
      simp only [Option.bind_some] at hr
      obtain ⟨st, Fs, hb, rfl, hp, ha⟩ := step_parts hs
      by_cases hea : e.a = a
      · have hcut : cutS a (e :: l) = e :: cutS a l := by unfold cutS; rw [List.filter_cons]; simp [hea]
        rw [hcut]
        simp only [runC]
        have hst : stC M' e.a = stC M e.a := by unfold stC; rw [hea, h]
        have hfs : fsC M' e.a = fsC M e.a := by unfold fsC; rw [hea, h]
        have hs' : stepC M' e = some (updF M' e.a (st, Fs)) := by unfold stepC; rw [if_pos ha, hst, hfs, hb]; rfl
        rw [hs']
        simp only [Option.bind_some]
        exact ih _ _ N (by rw [hea, updF_same, updF_same]) hr
      · have hcut : cutS a (e :: l) = cutS a l := by unfold cutS; rw [List.filter_cons]; simp [hea]
        rw [hcut]
        exact ih _ _ N (by rw [updF_other M _ (fun h => hea h.symm)]; exact h) hr
theorem right_cut {l : List EvD} (h : rightS l = true) (a : Int) : rightS (cutS a l) = true := by
  obtain ⟨M, hM⟩ := right_run h
  obtain ⟨N, hN, _⟩ := run_cut a l M0 M0 M rfl hM
  unfold rightS at h ⊢
  simp only [Bool.and_eq_true, decide_eq_true_eq] at h ⊢
  exact ⟨by have := cutS_le a l; omega, Option.isSome_iff_exists.2 ⟨N, hN⟩⟩
theorem att_mem (l : List EvD) : ∀ (acc : List Int) (a : Int), a ∈ l.foldl attStep acc ↔ a ∈ acc ∨ ∃ e ∈ l, e.k = 1 ∧ e.a = a := by
  induction l with
  | nil => intro acc a; simp
  | cons e l ih =>
    intro acc a
    rw [List.foldl_cons, ih]
    unfold attStep
    constructor
    · rintro (h | ⟨x, hx, h⟩)
      · split at h
        · rename_i hk
          rw [List.mem_append] at h
          rcases h with h | h
          · exact .inl h
          · simp at h; exact .inr ⟨e, by simp, hk.1, h.symm⟩
        · exact .inl h
      · exact .inr ⟨x, List.mem_cons_of_mem _ hx, h⟩
    · rintro (h | ⟨x, hx, h1, h2⟩)
      · left
        split
        · exact List.mem_append_left _ h
        · exact h
      · rcases List.mem_cons.1 hx with rfl | hx
        · left
          split
          · rw [h2]; simp
          · rename_i hk
            have : x.a ∈ acc := by
              by_cases hm : x.a ∈ acc
              · exact hm
              · exact absurd ⟨h1, hm⟩ hk
            rw [← h2]; exact this
        · exact .inr ⟨x, hx, h1, h2⟩
theorem attS_mem (l : List EvD) (a : Int) : a ∈ attS l ↔ ∃ e ∈ l, e.k = 1 ∧ e.a = a := by
  unfold attS
  rw [att_mem]
  simp
theorem told_cut (a : Int) (l : List EvD) : ∀ s : Int, (cutS a l).foldl (toldStep a) s = l.foldl (toldStep a) s := by
  induction l with
  | nil => intro s; rfl
  | cons e l ih =>
    intro s
    by_cases hea : e.a = a
    · have hcut : cutS a (e :: l) = e :: cutS a l := by unfold cutS; rw [List.filter_cons]; simp [hea]
      rw [hcut, List.foldl_cons, List.foldl_cons, ih]
    · have hcut : cutS a (e :: l) = cutS a l := by unfold cutS; rw [List.filter_cons]; simp [hea]
      rw [hcut, List.foldl_cons, ih]
      congr 1
      unfold toldStep
      rw [if_neg hea]
theorem state_cut (l : List EvD) (a : Int) : stateS (cutS a l) a = stateS l a := by
  unfold stateS
  have hm : (a ∈ attS (cutS a l)) ↔ (a ∈ attS l) := by
    rw [attS_mem, attS_mem]
    constructor
    · rintro ⟨e, he, h1, h2⟩; exact ⟨e, (List.mem_filter.1 he).1, h1, h2⟩
    · rintro ⟨e, he, h1, h2⟩; exact ⟨e, List.mem_filter.2 ⟨he, by simp [h2]⟩, h1, h2⟩
  have ht : toldS (cutS a l) a = toldS l a := told_cut a l 0
  rw [ht]
  by_cases h : a ∈ attS l
  · rw [if_pos h, if_pos (hm.2 h)]
  · rw [if_neg h, if_neg (fun q => h (hm.1 q))]
theorem cut_cut (l : List EvD) (a : Int) : cutS a (cutS a l) = cutS a l := by unfold cutS; rw [List.filter_filter]; simp

set_option maxRecDepth 100000 in
set_option maxHeartbeats 2000000 in
theorem hbegins_any (ao : Option Addr) (cap : Nat) (l : List EvD) (n a : Int) (w : World) (hr : EvRow w (.slice ao l.length cap) l) (hc : l.length ≤ cap ∧ cap ≤ maxLen) (hwf : ∀ e ∈ l, e.Wf) (hn : 0 ≤ n ∧ n ≤ 255) (ha : W64 a) :
    Calls Try.prog 3 #[.slice ao l.length cap, .int .u8 n, .int .i64 a] w (TrueN w) := by
  have hf := few_any hr hc
  have hrow := few_row hr
  have hwf' := few_wf hwf
  have hlen := few_len l
  have hcp : (l.take 60).length ≤ cap := by have := hc.1; simp; omega
  have hcm := hc.2
  unfold maxLen at hcm
  clear hr hc hwf
  generalize l.length = N at *
  generalize hm : l.take 60 = m at *
  clear hm
  obtain ⟨L, hL⟩ : ∃ L, L = m.length := ⟨_, rfl⟩
  have HL : Hid _ := hL
  have HROW : Hid (EvRow w (.slice ao m.length cap) m) := hrow
  have HWF : Hid _ := hwf'
  have hri := right_of hrow (by omega) hwf'
  rw [← hL] at hf hri hlen hcp
  clear hrow hwf' hL
  go_enter Try.func3, Try.ntmps3
  go_wp2_with fail
  refine hf.mono ?_
  rintro e w1 ⟨rfl, rfl⟩
  clear hf
  go_wp2_with fail
  refine hri.mono ?_
  rintro e w1 ⟨rfl, t1⟩
  clear hri
  cases hq : rightS m with
  | false =>
    go_wp2_with fail
    refine (hlive_any w1).mono ?_
    rintro e w2 ⟨rfl, t2⟩
    go_wp2
    go_ret
    exact ⟨rfl, t1.trans t2 (by simp)⟩
  | true =>
    have HQ : Hid _ := hq
    clear hq
    have hk1 := Int.emod_nonneg n (show (L : Int) + 1 ≠ 0 by omega)
    have hk2 := Int.emod_lt_of_pos n (show 0 < (L : Int) + 1 by omega)
    obtain ⟨k, hk⟩ : ∃ k : Nat, (k : Int) = n % ((L : Int) + 1) := ⟨(n % ((L : Int) + 1)).toNat, by omega⟩
    have hkL : k ≤ L := by omega
    have hrow1 := SRow.keep HROW.out t1 (by simp)
    have hcut := cut_any hrow1 (by rw [← HL.out]; omega) a
    rw [← HL.out] at hcut
    have hLz : ¬ ((L : Int) + 1 = 0) := by omega
    have HK : Hid _ := hk
    clear hrow1 hk hk1 hk2
    go_wp2_with fail
    rw [← HK.out]
    refine hcut.mono ?_
    rintro e w2 ⟨v2, rfl, ho2, t2⟩
    clear hcut
    have hce : (m.flatMap EvD.cells) = m.flatMap EvD.cells := rfl
    have hrow2 : EvRow w2 v2 (cutS a m) := srow_of_owns (cells := EvD.cells) (n := 4) (fun _ => rfl) ho2
    obtain ⟨ao2, cap2, rfl, _⟩ := ev_form ho2
    have hclen : (cutS a m).length ≤ 60 := by have := cutS_le a m; have h2 := HL.out; omega
    obtain ⟨C, hC⟩ : ∃ C, C = (cutS a m).length := ⟨_, rfl⟩
    have HC : Hid _ := hC
    have HR2 : Hid (EvRow w2 (.slice ao2 (cutS a m).length cap2) (cutS a m)) := hrow2
    have T2 : Hid _ := t1.trans t2 (by simp)
    rw [← hC]
    rw [← hC] at hclen
    clear hC hrow2 ho2 t1 t2 hce
    go_wp2_with fail
    refine (hlive_any w2).mono ?_
    rintro e w3 ⟨rfl, t3⟩
    have t03 := T2.out.trans t3 (by simp)
    have hk0 : (0 : Int) ≤ k := by omega
    have hkc : (k : Int) ≤ cap := by omega
    have hrk := SRow.keep HROW.out t03 (by simp)
    have hrk1 := SRow.first hrk k (by rw [← HL.out]; exact hkL)
    have hkl : (m.take k).length = k := by rw [List.length_take, ← HL.out]; omega
    have hp1 := right_of hrk1 (by omega) (fun e he => HWF.out e (List.mem_of_mem_take he))
    rw [right_take HQ.out, hkl] at hp1
    have T3 : Hid _ := t03
    clear hrk hrk1 hkl
    have htail : ∀ (ad : Option Addr), ad = ao → True := fun _ _ => trivial
    clear htail
    cases ao with
    | none =>
      go_wp2_with fail
      refine hp1.mono ?_
      rintro e w4 ⟨rfl, t4⟩
      have t04 := T3.out.trans t4 (by simp)
      have hcw := cutS_wf HWF.out a
      have hr4 : EvRow w4 (.slice ao2 (cutS a m).length cap2) (cutS a m) := SRow.keep HR2.out (t3.trans t4 (by simp)) (by simp)
      have hp2 := right_of hr4 (by rw [← HC.out]; omega) hcw
      rw [right_cut HQ.out, ← HC.out] at hp2
      have HR4 : Hid (EvRow w4 (.slice ao2 (cutS a m).length cap2) (cutS a m)) := hr4
      have HCW : Hid _ := hcw
      clear hp1 hr4 hcw t3
      go_wp2_with fail
      refine hp2.mono ?_
      rintro e w5 ⟨rfl, t5⟩
      have t05 := t04.trans t5 (by simp)
      have hr5 : EvRow w5 (.slice ao2 (cutS a m).length cap2) (cutS a m) := SRow.keep HR4.out t5 (by simp)
      have hp3 := stateOf_any hr5 (by rw [← HC.out]; omega) HCW.out a ha
      rw [state_cut, ← HC.out] at hp3
      have HR5 : Hid (EvRow w5 (.slice ao2 (cutS a m).length cap2) (cutS a m)) := hr5
      clear hp2 hr5
      go_wp2_with fail
      refine hp3.mono ?_
      rintro e w6 ⟨rfl, t6⟩
      have t06 := t05.trans t6 (by simp)
      have hp4 := stateOf_any (SRow.keep HROW.out t06 (by simp)) (by rw [← HL.out]; omega) HWF.out a ha
      rw [← HL.out] at hp4
      have HR6 : Hid (EvRow w6 (.slice ao2 (cutS a m).length cap2) (cutS a m)) := SRow.keep HR5.out t6 (by simp)
      clear hp3
      go_wp2_with fail
      refine hp4.mono ?_
      rintro e w7 ⟨rfl, t7⟩
      have t07 := t06.trans t7 (by simp)
      have hp5 := writes_any (SRow.keep HR6.out t7 (by simp)) (by rw [← HC.out]; omega) HCW.out a
      rw [cut_cut, ← HC.out] at hp5
      have hle := allK_le (getF (noteAll [f0] (cutS a m))) 12
      have hp6 := fun W (t : Touch w7 W []) => writes_any (SRow.keep HROW.out (t07.trans t (by simp)) (by simp)) (by rw [← HL.out]; omega) HWF.out a
      rw [← HL.out] at hp6
      generalize allK (getF (noteAll [f0] (cutS a m))) 12 = ls at *
      have HP6 : Hid _ := hp6
      clear hp4 hp6
      go_wp2_with fail
      refine hp5.mono ?_
      rintro e w8 ⟨v8, B8, rfl, hr8, hB8, t8⟩
      have hp7 := HP6.out w8 t8
      have HR8 : Hid (PairRow w8 v8 ls) := srow_of_owns (cells := pairC) (n := 2) (fun _ => rfl) hr8
      have t08 := t07.trans t8 (by simp)
      obtain ⟨ao8, cap8, rfl⟩ := owns_form hr8
      clear hp5 HP6 hr8
      go_wp2_with fail
      refine hp7.mono ?_
      rintro e w9 ⟨v9, B9, rfl, hr9, hB9, t9⟩
      have hp8 := samePairs _ v9 ls w9 (by omega) (SRow.keep HR8.out t9 (by simp)) (srow_of_owns (cells := pairC) (n := 2) (fun _ => rfl) hr9)
      have t09 := t08.trans t9 (by simp)
      obtain ⟨ao9, cap9, rfl⟩ := owns_form hr9
      clear hp7 hr9 HR8
      go_wp2_with fail
      refine hp8.mono ?_
      rintro e w10 ⟨rfl, t10⟩
      clear hp8
      go_wp2
      go_ret
      exact ⟨by simp, t09.trans t10 (by simp)⟩
    | some ad =>
      obtain ⟨g, off, sp⟩ := ad
      go_wp2_with fail
      refine hp1.mono ?_
      rintro e w4 ⟨rfl, t4⟩
      have t04 := T3.out.trans t4 (by simp)
      have hcw := cutS_wf HWF.out a
      have hr4 : EvRow w4 (.slice ao2 (cutS a m).length cap2) (cutS a m) := SRow.keep HR2.out (t3.trans t4 (by simp)) (by simp)
      have hp2 := right_of hr4 (by rw [← HC.out]; omega) hcw
      rw [right_cut HQ.out, ← HC.out] at hp2
      have HR4 : Hid (EvRow w4 (.slice ao2 (cutS a m).length cap2) (cutS a m)) := hr4
      have HCW : Hid _ := hcw
      clear hp1 hr4 hcw t3
      go_wp2_with fail
      refine hp2.mono ?_
      rintro e w5 ⟨rfl, t5⟩
      have t05 := t04.trans t5 (by simp)
      have hr5 : EvRow w5 (.slice ao2 (cutS a m).length cap2) (cutS a m) := SRow.keep HR4.out t5 (by simp)
      have hp3 := stateOf_any hr5 (by rw [← HC.out]; omega) HCW.out a ha
      rw [state_cut, ← HC.out] at hp3
      have HR5 : Hid (EvRow w5 (.slice ao2 (cutS a m).length cap2) (cutS a m)) := hr5
      clear hp2 hr5
      go_wp2_with fail
      refine hp3.mono ?_
      rintro e w6 ⟨rfl, t6⟩
      have t06 := t05.trans t6 (by simp)
      have hp4 := stateOf_any (SRow.keep HROW.out t06 (by simp)) (by rw [← HL.out]; omega) HWF.out a ha
      rw [← HL.out] at hp4
      have HR6 : Hid (EvRow w6 (.slice ao2 (cutS a m).length cap2) (cutS a m)) := SRow.keep HR5.out t6 (by simp)
      clear hp3
      go_wp2_with fail
      refine hp4.mono ?_
      rintro e w7 ⟨rfl, t7⟩
      have t07 := t06.trans t7 (by simp)
      have hp5 := writes_any (SRow.keep HR6.out t7 (by simp)) (by rw [← HC.out]; omega) HCW.out a
      rw [cut_cut, ← HC.out] at hp5
      have hle := allK_le (getF (noteAll [f0] (cutS a m))) 12
      have hp6 := fun W (t : Touch w7 W []) => writes_any (SRow.keep HROW.out (t07.trans t (by simp)) (by simp)) (by rw [← HL.out]; omega) HWF.out a
      rw [← HL.out] at hp6
      generalize allK (getF (noteAll [f0] (cutS a m))) 12 = ls at *
      have HP6 : Hid _ := hp6
      clear hp4 hp6
      go_wp2_with fail
      refine hp5.mono ?_
      rintro e w8 ⟨v8, B8, rfl, hr8, hB8, t8⟩
      have hp7 := HP6.out w8 t8
      have HR8 : Hid (PairRow w8 v8 ls) := srow_of_owns (cells := pairC) (n := 2) (fun _ => rfl) hr8
      have t08 := t07.trans t8 (by simp)
      obtain ⟨ao8, cap8, rfl⟩ := owns_form hr8
      clear hp5 HP6 hr8
      go_wp2_with fail
      refine hp7.mono ?_
      rintro e w9 ⟨v9, B9, rfl, hr9, hB9, t9⟩
      have hp8 := samePairs _ v9 ls w9 (by omega) (SRow.keep HR8.out t9 (by simp)) (srow_of_owns (cells := pairC) (n := 2) (fun _ => rfl) hr9)
      have t09 := t08.trans t9 (by simp)
      obtain ⟨ao9, cap9, rfl⟩ := owns_form hr9
      clear hp7 hr9 HR8
      go_wp2_with fail
      refine hp8.mono ?_
      rintro e w10 ⟨rfl, t10⟩
      clear hp8
      go_wp2
      go_ret
      exact ⟨by simp, t09.trans t10 (by simp)⟩

end Go.Proofs.Ytalcgnikfepmdaa
