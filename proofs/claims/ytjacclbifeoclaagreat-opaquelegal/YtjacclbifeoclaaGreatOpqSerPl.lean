/-
  THE EVENTS ONE ATTEMPT BEHIND THE OTHER: plain data. No walk.
-/
import Derived.Test.YtjacclbifeoclaaGreatOpqSound
import Derived.Test.YtjacclbifeoclaaGreatHistEnds
namespace Go.Proofs.YtjacclbifeoclaaGreat
set_option linter.unusedVariables false
set_option linter.unusedSimpArgs false
open Go.RowKit Go.Maps

theorem step_same {M M' : CM} {e : EvD} {N : CM} (hM : M e.a = M' e.a) (h : stepC M e = some N) : ∃ r, N = updF M e.a r ∧ stepC M' e = some (updF M' e.a r) := by
  unfold stepC at h ⊢
  split at h
  · rename_i h1
    rw [if_pos h1]
    have e1 : stC M' e.a = stC M e.a := by unfold stC; rw [hM]
    have e2 : fsC M' e.a = fsC M e.a := by unfold fsC; rw [hM]
    rw [e1, e2]
    cases hb : behindS (stC M e.a) (fsC M e.a) e with
    | none => rw [hb] at h; cases h
    | some r =>
      rw [hb] at h
      simp only [Option.map_some, Option.some.injEq] at h
      exact ⟨r, h.symm, rfl⟩
  · cases h
theorem run_cut' (a : Int) (l : List EvD) : ∀ M M' N, M a = M' a → runC M l = some N → ∃ N', runC M' (cutS a l) = some N' ∧ N' a = N a ∧ ∀ b, b ≠ a → N' b = M' b := by
  induction l with
  | nil =>
    intro M M' N hM h
    simp only [runC, Option.some.injEq] at h
    subst h
    exact ⟨M', rfl, hM.symm, fun _ _ => rfl⟩
  | cons e l ih =>
    intro M M' N hM h
    unfold runC at h
    cases hs : stepC M e with
    | none => rw [hs] at h; cases h
    | some M1 =>
      rw [hs] at h
      by_cases he : e.a = a
      · have hc : cutS a (e :: l) = e :: cutS a l := by simp [cutS, he]
        rw [hc]
        obtain ⟨r, e1, e2⟩ := step_same (M' := M') (by rw [he]; exact hM) hs
        obtain ⟨N', h1, h2, h3⟩ := ih M1 (updF M' e.a r) N (by rw [e1, he, updF_same, updF_same]) h
        refine ⟨N', ?_, h2, fun b hb => ?_⟩
        · show runC M' (e :: cutS a l) = _
          unfold runC
          rw [e2]
          exact h1
        · rw [h3 b hb, updF_other _ _ (by rw [he]; exact hb)]
      · have hc : cutS a (e :: l) = cutS a l := by simp [cutS, he]
        rw [hc]
        obtain ⟨r, e1, _⟩ := step_same (M' := M) rfl hs
        exact ih M1 M' N (by rw [e1, updF_other _ _ (fun x => he x.symm)]; exact hM) h
theorem run_serial {l : List EvD} {N : CM} (h : runC (fun _ => none) l = some N) : ∀ (o : List Int) (K : CM), o.Nodup → (∀ a ∈ o, K a = none) → ∃ K', runC K (serialP l o) = some K'
  | [], K, _, _ => ⟨K, rfl⟩
  | a :: o, K, hn, hK => by
    rw [List.nodup_cons] at hn
    obtain ⟨K1, h1, _, h3⟩ := run_cut' a l (fun _ => none) K N (hK a (by simp)).symm h
    obtain ⟨K', h4⟩ := run_serial h o K1 hn.2 (fun b hb => by rw [h3 b (fun e => hn.1 (e ▸ hb))]; exact hK b (by simp [hb]))
    refine ⟨K', ?_⟩
    show runC K (cutS a l ++ serialP l o) = _
    rw [runC_app, h1]
    exact h4
theorem right_run {l : List EvD} (h : rightS l = true) : ∃ N, runC (fun _ => none) l = some N := by
  unfold rightS at h
  simp only [Bool.and_eq_true] at h
  cases hr : runC (fun _ => none) l with
  | none => rw [hr] at h; simp at h
  | some N => exact ⟨N, rfl⟩
theorem all_began {l : List EvD} (h : rightS l = true) : ∀ e ∈ l, e.a ∈ attS l := by
  obtain ⟨N, hN⟩ := right_run h
  intro e he
  obtain ⟨i, hi, rfl⟩ := List.getElem_of_mem he
  rw [attSm]
  by_cases hk : l[i].k = 1
  · exact ⟨l[i], List.getElem_mem hi, hk, rfl⟩
  · obtain ⟨j, hj, _, h1, h2⟩ := began_ahead hN hi hk
    exact ⟨l[j], List.getElem_mem hj, h1, h2⟩
theorem att_cut (a : Int) (c : List EvD) : (∀ e ∈ c, e.a = a) → ∀ acc : List Int, c.foldl attStep acc = if (∃ e ∈ c, e.k = 1) ∧ a ∉ acc then acc ++ [a] else acc := by
  induction c with
  | nil => intro _ acc; simp
  | cons e c ih =>
    intro h acc
    have he := h e (by simp)
    rw [List.foldl_cons, ih (fun x hx => h x (by simp [hx]))]
    unfold attStep
    rw [he]
    by_cases h1 : e.k = 1
    · by_cases h2 : a ∈ acc
      · simp [h1, h2]
      · simp [h1, h2]
    · have h3 : ¬ (e.k = 1 ∧ ¬ a ∈ acc) := fun x => h1 x.1
      rw [if_neg h3]
      have h4 : (∃ e' ∈ e :: c, e'.k = 1) ↔ ∃ e' ∈ c, e'.k = 1 := by simp [h1]
      simp only [h4]
theorem att_serial (l : List EvD) : ∀ (o acc : List Int), (acc ++ o).Nodup → (∀ a ∈ o, a ∈ attS l) → (serialP l o).foldl attStep acc = acc ++ o
  | [], acc, _, _ => by simp [serialP]
  | a :: o, acc, hn, ha => by
    show (cutS a l ++ serialP l o).foldl attStep acc = _
    have hna : a ∉ acc := fun hm => by
      rw [List.nodup_append] at hn
      exact hn.2.2 a hm a (by simp) rfl
    have hb : ∃ e ∈ cutS a l, e.k = 1 := by
      obtain ⟨e, he, h1, h2⟩ := (attSm l a).1 (ha a (by simp))
      exact ⟨e, List.mem_filter.2 ⟨he, by simpa using h2⟩, h1⟩
    rw [List.foldl_append, att_cut a (cutS a l) (fun e he => by simpa using (List.mem_filter.1 he).2), if_pos ⟨hb, hna⟩, att_serial l o (acc ++ [a]) (by rw [List.append_assoc, List.singleton_append]; exact hn) (fun b hb => ha b (by simp [hb]))]
    simp
theorem serial_att {l : List EvD} {o : List Int} (hn : o.Nodup) (ha : ∀ a ∈ o, a ∈ attS l) : attS (serialP l o) = o := by
  have := att_serial l o [] (by simpa using hn) ha
  simpa [attS] using this
theorem sum_cons (o : List Int) (e : EvD) (l : List EvD) (hn : o.Nodup) (he : e.a ∈ o) : (o.map fun a => (cutS a (e :: l)).length).sum = (o.map fun a => (cutS a l).length).sum + 1 := by
  induction o with
  | nil => simp at he
  | cons a o ih =>
    rw [List.nodup_cons] at hn
    rw [List.map_cons, List.map_cons, List.sum_cons, List.sum_cons]
    by_cases h1 : e.a = a
    · have h2 : (cutS a (e :: l)).length = (cutS a l).length + 1 := by simp [cutS, h1]
      have h3 : (o.map fun b => (cutS b (e :: l)).length) = o.map fun b => (cutS b l).length := by
        refine List.map_congr_left fun b hb => ?_
        have : ¬ e.a = b := fun x => hn.1 (by rw [← h1, x]; exact hb)
        simp [cutS, this]
      rw [h2, h3]
      omega
    · have h2 : (cutS a (e :: l)).length = (cutS a l).length := by simp [cutS, h1]
      have h3 := ih hn.2 (by rcases List.mem_cons.1 he with x | x; exact absurd x h1; exact x)
      rw [h2, h3]
      omega
theorem serial_len (l : List EvD) (o : List Int) (hn : o.Nodup) (he : ∀ e ∈ l, e.a ∈ o) : (serialP l o).length = l.length := by
  unfold serialP
  rw [List.length_flatMap]
  induction l with
  | nil =>
    have : ∀ xs : List Int, (xs.map fun a => (cutS a []).length).sum = 0 := fun xs => by
      induction xs with
      | nil => rfl
      | cons x xs ih => simp [cutS] at ih ⊢; try exact ih
    simpa using this o
  | cons e l ih =>
    rw [sum_cons o e l hn (he e (by simp)), ih (fun x hx => he x (by simp [hx]))]
    simp
theorem serial_right {l : List EvD} {o : List Int} (h : rightS l = true) (hn : o.Nodup) (he : ∀ e ∈ l, e.a ∈ o) : rightS (serialP l o) = true := by
  obtain ⟨N, hN⟩ := right_run h
  obtain ⟨K, hK⟩ := run_serial hN o (fun _ => none) hn (fun _ _ => rfl)
  unfold rightS at *
  simp only [Bool.and_eq_true, decide_eq_true_eq] at h ⊢
  exact ⟨by rw [serial_len l o hn he]; exact h.1, by rw [hK]; rfl⟩

end Go.Proofs.YtjacclbifeoclaaGreat
