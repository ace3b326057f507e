/-
  HistoryBegins: A BEGINNING OF RIGHT EVENTS IS RIGHT, and so are one attempt's; walked.
-/
import Derived.Test.YtmiaibpdeofokaaDoorHistOrderLaw
import Derived.Test.YtmiaibpdeofokaaDoorHistSame
namespace Go.Proofs.YtmiaibpdeofokaaDoor
set_option linter.unusedVariables false
set_option linter.unusedSimpArgs false
open Go.RowKit Go.Maps Go.Shelf
attribute [local go_sem] Oper.semAt_some

/-! ### Plain data -/
theorem right_take {l : List EvD} (h : rightS l = true) (k : Nat) : rightS (l.take k) = true := by
  obtain ⟨M, hM⟩ := right_run h
  unfold rightS at h ⊢
  simp only [Bool.and_eq_true, decide_eq_true_eq] at h ⊢
  refine ⟨by rw [List.length_take]; omega, ?_⟩
  by_cases hk : k ≤ l.length
  · obtain ⟨Mi, hi⟩ := run_at hM k hk
    exact Option.isSome_iff_exists.2 ⟨Mi, hi⟩
  · rw [List.take_of_length_le (by omega)]; exact h.2
theorem run_cut (a : Int) (l : List EvD) : ∀ M M' N, M a = M' a → runC M l = some N → ∃ N', runC M' (cutS a l) = some N' ∧ N' a = N a := by
  induction l with
  | nil => intro M M' N h hr; simp [runC] at hr; exact ⟨M', rfl, by rw [← hr, h]⟩
  | cons e l ih =>
    intro M M' N h hr
    simp only [runC] at hr
    cases hs : stepC M e with
    | none => rw [hs] at hr; cases hr
    | some M1 =>
      rw [hs] at hr
      simp only [Option.bind_some] at hr
      obtain ⟨st, Fs, hb, rfl, hp, ha⟩ := step_parts hs
      by_cases hea : e.a = a
      · have hcut : cutS a (e :: l) = e :: cutS a l := by unfold cutS; rw [List.filter_cons]; simp [hea]
        rw [hcut]
        simp only [runC]
        have hst : stC M' e.a = stC M e.a := by unfold stC; rw [hea, h]
        have hfs : fsC M' e.a = fsC M e.a := by unfold fsC; rw [hea, h]
        have hs' : stepC M' e = some (updF M' e.a (st, Fs)) := by unfold stepC; rw [if_pos ha, hst, hfs, hb]; rfl
        rw [hs']
        simp only [Option.bind_some]
        exact ih _ _ N (by rw [hea, updF_same, updF_same]) hr
      · have hcut : cutS a (e :: l) = cutS a l := by unfold cutS; rw [List.filter_cons]; simp [hea]
        rw [hcut]
        exact ih _ _ N (by rw [updF_other M _ (fun h => hea h.symm)]; exact h) hr
theorem right_cut {l : List EvD} (h : rightS l = true) (a : Int) : rightS (cutS a l) = true := by
  obtain ⟨M, hM⟩ := right_run h
  obtain ⟨N, hN, _⟩ := run_cut a l M0 M0 M rfl hM
  unfold rightS at h ⊢
  simp only [Bool.and_eq_true, decide_eq_true_eq] at h ⊢
  exact ⟨by have := cutS_le a l; omega, Option.isSome_iff_exists.2 ⟨N, hN⟩⟩
theorem att_mem (l : List EvD) : ∀ (acc : List Int) (a : Int), a ∈ l.foldl attStep acc ↔ a ∈ acc ∨ ∃ e ∈ l, e.k = 1 ∧ e.a = a := by
  induction l with
  | nil => intro acc a; simp
  | cons e l ih =>
    intro acc a
    rw [List.foldl_cons, ih]
    unfold attStep
    constructor
    · rintro (h | ⟨x, hx, h⟩)
      · split at h
        · rename_i hk
          rw [List.mem_append] at h
          rcases h with h | h
          · exact .inl h
          · simp at h; exact .inr ⟨e, by simp, hk.1, h.symm⟩
        · exact .inl h
      · exact .inr ⟨x, List.mem_cons_of_mem _ hx, h⟩
    · rintro (h | ⟨x, hx, h1, h2⟩)
      · left
        split
        · exact List.mem_append_left _ h
        · exact h
      · rcases List.mem_cons.1 hx with rfl | hx
        · left
          split
          · rw [h2]; simp
          · rename_i hk
            have : x.a ∈ acc := by
              by_cases hm : x.a ∈ acc
              · exact hm
              · exact absurd ⟨h1, hm⟩ hk
            rw [← h2]; exact this
        · exact .inr ⟨x, hx, h1, h2⟩
theorem attS_mem (l : List EvD) (a : Int) : a ∈ attS l ↔ ∃ e ∈ l, e.k = 1 ∧ e.a = a := by
  unfold attS
  rw [att_mem]
  simp
theorem told_cut (a : Int) (l : List EvD) : ∀ s : Int, (cutS a l).foldl (toldStep a) s = l.foldl (toldStep a) s := by
  induction l with
  | nil => intro s; rfl
  | cons e l ih =>
    intro s
    by_cases hea : e.a = a
    · have hcut : cutS a (e :: l) = e :: cutS a l := by unfold cutS; rw [List.filter_cons]; simp [hea]
      rw [hcut, List.foldl_cons, List.foldl_cons, ih]
    · have hcut : cutS a (e :: l) = cutS a l := by unfold cutS; rw [List.filter_cons]; simp [hea]
      rw [hcut, List.foldl_cons, ih]
      congr 1
      unfold toldStep
      rw [if_neg hea]
theorem state_cut (l : List EvD) (a : Int) : stateS (cutS a l) a = stateS l a := by
  unfold stateS
  have hm : (a ∈ attS (cutS a l)) ↔ (a ∈ attS l) := by
    rw [attS_mem, attS_mem]
    constructor
    · rintro ⟨e, he, h1, h2⟩; exact ⟨e, (List.mem_filter.1 he).1, h1, h2⟩
    · rintro ⟨e, he, h1, h2⟩; exact ⟨e, List.mem_filter.2 ⟨he, by simp [h2]⟩, h1, h2⟩
  have ht : toldS (cutS a l) a = toldS l a := told_cut a l 0
  rw [ht]
  by_cases h : a ∈ attS l
  · rw [if_pos h, if_pos (hm.2 h)]
  · rw [if_neg h, if_neg (fun q => h (hm.1 q))]
theorem cut_cut (l : List EvD) (a : Int) : cutS a (cutS a l) = cutS a l := by unfold cutS; rw [List.filter_filter]; simp

end Go.Proofs.YtmiaibpdeofokaaDoor
