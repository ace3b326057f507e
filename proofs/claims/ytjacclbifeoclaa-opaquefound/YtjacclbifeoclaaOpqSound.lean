/-
  WHAT Found TELLS IS Legal; WHERE IT FINDS NONE, NONE IS: plain data. No walk.
-/
import Derived.Test.YtjacclbifeoclaaOpqFound
namespace Go.Proofs.Ytjacclbifeoclaa
set_option linter.unusedVariables false
set_option linter.unusedSimpArgs false
open Go.RowKit Go.Maps

theorem att_nodup (l : List EvD) : ∀ acc : List Int, acc.Nodup → (l.foldl attStep acc).Nodup := by
  induction l with
  | nil => intro acc h; exact h
  | cons e l ih =>
    intro acc h
    rw [List.foldl_cons]
    refine ih _ ?_
    unfold attStep
    split
    · rename_i h1
      rw [List.nodup_append]
      refine ⟨h, by simp, fun a ha b hb e => h1.2 ?_⟩
      simp at hb
      rw [← hb, ← e]
      exact ha
    · exact h
theorem attS_nodup (l : List EvD) : (attS l).Nodup := att_nodup l [] (by simp)

theorem walkO_k (l : List EvD) (com : List Int) : ∀ (o lf hp : List Int) (k k' : Nat), (walkO l com o lf hp k).2 = (walkO l com o lf hp k').2
  | [], _, _, _, _ => rfl
  | a :: o, lf, hp, k, k' => by
    unfold walkO
    split
    · exact walkO_k l com o _ _ _ _
    · rfl
theorem walkO_cons {l : List EvD} {com : List Int} {a : Int} {o lf hp : List Int} {k : Nat} (h : (walkO l com (a :: o) lf hp k).2.1 = 0) : (putO l com lf hp a).1 = 0 ∧ (walkO l com o (putO l com lf hp a).2.1 (putO l com lf hp a).2.2 (k + 1)).2.1 = 0 := by
  unfold walkO at h
  split at h
  · rename_i h1
    exact ⟨h1, h⟩
  · rename_i h1
    exact absurd h h1
theorem child_some {l : List EvD} {com atts : List Int} {pl : List Nat} {lf hp : List Int} {i : Nat} {s : List Int × List Int} (h : childO l com atts pl lf hp i = some s) : i ∉ pl ∧ (putO l com lf hp (atts.getD i 0)).1 = 0 ∧ s = (putO l com lf hp (atts.getD i 0)).2 := by
  unfold childO at h
  split at h
  · cases h
  · rename_i h1
    split at h
    · rename_i h2
      exact ⟨h1, h2, by simpa using h.symm⟩
    · cases h
theorem child_is {l : List EvD} {com atts : List Int} {pl : List Nat} {lf hp : List Int} {i : Nat} (h1 : i ∉ pl) (h2 : (putO l com lf hp (atts.getD i 0)).1 = 0) : childO l com atts pl lf hp i = some (putO l com lf hp (atts.getD i 0)).2 := by
  unfold childO
  rw [if_neg h1, if_pos h2]

theorem dfs_sound (l : List EvD) (com atts : List Int) : ∀ (d : Nat) (pl : List Nat) (lf hp : List Int) (cs r : List Nat), dfs l com atts d pl lf hp cs = some r → pl.Nodup → (∀ i ∈ pl, i < atts.length) → (∀ i ∈ cs, i < atts.length) →
    ∃ s, r = pl ++ s ∧ s.length = d ∧ r.Nodup ∧ (∀ i ∈ r, i < atts.length) ∧ ∀ k, (walkO l com (s.map fun i => atts.getD i 0) lf hp k).2.1 = 0
  | 0, pl, lf, hp, cs, r, h, h1, h2, h3 => by
    simp only [dfs, Option.some.injEq] at h
    subst h
    exact ⟨[], by simp, rfl, h1, h2, fun _ => rfl⟩
  | d + 1, pl, lf, hp, cs, r, h, h1, h2, h3 => by
    unfold dfs at h
    obtain ⟨i, hi, hq⟩ := List.exists_of_findSome?_eq_some h
    cases hc : childO l com atts pl lf hp i with
    | none => rw [hc] at hq; cases hq
    | some st =>
      rw [hc] at hq
      simp only [Option.bind_some] at hq
      obtain ⟨c1, c2, rfl⟩ := child_some hc
      have hnd : (pl ++ [i]).Nodup := by
        rw [List.nodup_append]
        refine ⟨h1, by simp, fun a ha b hb e => c1 ?_⟩
        simp at hb
        rw [← hb, ← e]
        exact ha
      obtain ⟨s, e1, e2, e3, e4, e5⟩ := dfs_sound l com atts d (pl ++ [i]) _ _ _ r hq hnd (by
        intro x hx
        rcases List.mem_append.1 hx with hx | hx
        · exact h2 x hx
        · simp at hx; rw [hx]; exact h3 i hi) (by simp)
      refine ⟨i :: s, by rw [e1]; simp, by simp [e2], e3, e4, fun k => ?_⟩
      rw [List.map_cons]
      unfold walkO
      rw [if_pos c2]
      exact e5 (k + 1)

theorem dfs_complete (l : List EvD) (com atts : List Int) : ∀ (s pl : List Nat) (lf hp : List Int) (k : Nat), (pl ++ s).Nodup → (∀ i ∈ s, i < atts.length) → (walkO l com (s.map fun i => atts.getD i 0) lf hp k).2.1 = 0 → (dfs l com atts s.length pl lf hp (List.range atts.length)).isSome = true
  | [], pl, lf, hp, k, _, _, _ => rfl
  | i :: s, pl, lf, hp, k, h1, h2, h3 => by
    rw [List.map_cons] at h3
    obtain ⟨c1, c2⟩ := walkO_cons h3
    have hni : i ∉ pl := fun hm => by
      rw [List.nodup_append] at h1
      exact h1.2.2 i hm i (by simp) rfl
    have ih := dfs_complete l com atts s (pl ++ [i]) _ _ (k + 1) (by rw [List.append_assoc, List.singleton_append]; exact h1) (fun x hx => h2 x (by simp [hx])) c2
    show (dfs l com atts (s.length + 1) pl lf hp (List.range atts.length)).isSome = true
    unfold dfs
    rw [List.findSome?_isSome_iff]
    refine ⟨i, by simpa using h2 i (by simp), ?_⟩
    rw [child_is hni c1]
    exact ih

theorem range_get (atts : List Int) : ((List.range atts.length).map fun i => atts.getD i 0) = atts := by
  refine List.ext_getElem (by simp) ?_
  intro k h1 h2
  simp [List.getD_eq_getElem?_getD, h2]
theorem nodup_inj : ∀ {l : List Int}, l.Nodup → ∀ {i j : Nat} (hi : i < l.length) (hj : j < l.length), l[i] = l[j] → i = j
  | x :: l, hn, 0, 0, _, _, _ => rfl
  | x :: l, hn, 0, j + 1, hi, hj, e => by
    rw [List.nodup_cons] at hn
    simp only [List.getElem_cons_zero, List.getElem_cons_succ] at e
    exact absurd (e ▸ List.getElem_mem (by simpa using hj)) hn.1
  | x :: l, hn, i + 1, 0, hi, hj, e => by
    rw [List.nodup_cons] at hn
    simp only [List.getElem_cons_zero, List.getElem_cons_succ] at e
    exact absurd (e ▸ List.getElem_mem (by simpa using hi)) hn.1
  | x :: l, hn, i + 1, j + 1, hi, hj, e => by
    rw [List.nodup_cons] at hn
    simp only [List.getElem_cons_succ] at e
    rw [nodup_inj hn.2 (by simpa using hi) (by simpa using hj) e]
theorem get_inj {atts : List Int} (hn : atts.Nodup) {pl : List Nat} (hp : pl.Nodup) (hi : ∀ i ∈ pl, i < atts.length) : (pl.map fun i => atts.getD i 0).Nodup := by
  induction pl with
  | nil => simp
  | cons i pl ih =>
    rw [List.nodup_cons] at hp
    rw [List.map_cons, List.nodup_cons]
    refine ⟨fun hm => ?_, ih hp.2 (fun x hx => hi x (by simp [hx]))⟩
    obtain ⟨j, hj, e⟩ := List.mem_map.1 hm
    have h1 := hi i (by simp)
    have h2 := hi j (by simp [hj])
    simp only [List.getD_eq_getElem?_getD, List.getElem?_eq_getElem h1, List.getElem?_eq_getElem h2, Option.getD_some] at e
    have : j = i := nodup_inj hn h2 h1 e
    exact hp.1 (this ▸ hj)

/-- What Found tells is Legal. -/
theorem found_legal {l : List EvD} {hp com : List Int} (h : (foundP l hp com).1 = 0) : (legalP l hp (foundP l hp com).2 com).2.1 = 0 := by
  by_cases hb : begE l hp com = 0
  · by_cases h6 : 6 < (attS l).length
    · rw [foundP_two l hp com hb h6] at h; cases h
    · cases hf : foundPl l hp com with
      | none => rw [foundP_three l hp com hb h6 hf] at h; cases h
      | some pl =>
        rw [foundP_four l hp com hb h6 hf]
        unfold foundPl at hf
        obtain ⟨s, e1, e2, e3, e4, e5⟩ := dfs_sound l (com ++ inS l 3) (attS l) _ [] _ _ _ _ hf (by simp) (by simp) (by simp)
        rw [List.nil_append] at e1
        subst e1
        have hord : ordOk l (pl.map fun i => (attS l).getD i 0) = true := by
          unfold ordOk eachP
          simp only [Bool.and_eq_true, decide_eq_true_eq, List.length_map]
          refine ⟨e2, get_inj (attS_nodup l) e3 e4, fun x hx => ?_⟩
          obtain ⟨j, hj, rfl⟩ := List.mem_map.1 hx
          have h1 := e4 j hj
          simp [List.getD_eq_getElem?_getD, h1]
        unfold legalP
        rw [if_neg (by rw [hb]; simp), if_neg (by rw [hord]; simp)]
        exact e5 0
  · rw [foundP_one l hp com hb] at h
    exact absurd h hb

/-- Where it finds none, the attempts' own order is none. -/
theorem found_none {l : List EvD} {hp com : List Int} (h : (foundP l hp com).1 ≠ 0) : (foundP l hp com).2 = [] ∧ ((legalP l hp (attS l) com).2.1 ≠ 0 ∨ (foundP l hp com).1 = 4) := by
  by_cases hb : begE l hp com = 0
  · by_cases h6 : 6 < (attS l).length
    · rw [foundP_two l hp com hb h6]; exact ⟨rfl, .inr rfl⟩
    · cases hf : foundPl l hp com with
      | none =>
        rw [foundP_three l hp com hb h6 hf]
        refine ⟨rfl, .inl fun hl => ?_⟩
        have hord : ordOk l (attS l) = true := by
          unfold ordOk eachP
          simp [attS_nodup]
        unfold legalP at hl
        rw [if_neg (by rw [hb]; simp), if_neg (by rw [hord]; simp)] at hl
        have := dfs_complete l (com ++ inS l 3) (attS l) (List.range (attS l).length) [] (attS l) hp 0 (by simpa using List.nodup_range) (by simp) (by rw [range_get]; exact hl)
        rw [List.length_range] at this
        unfold foundPl at hf
        rw [hf] at this
        cases this
      | some pl => rw [foundP_four l hp com hb h6 hf] at h; exact absurd rfl h
  · rw [foundP_one l hp com hb]
    refine ⟨rfl, .inl ?_⟩
    unfold legalP
    rw [if_pos hb]
    exact hb
theorem legal_zero {l : List EvD} {hp o com : List Int} (h : (legalP l hp o com).2.1 = 0) : (legalP l hp o com).1 = 0 := by
  unfold legalP at *
  split
  · rfl
  · rename_i h1
    rw [if_neg h1] at h
    split
    · rfl
    · rename_i h2
      rw [if_neg h2] at h
      exact walkO_zero _ _ _ _ _ _ h

end Go.Proofs.Ytjacclbifeoclaa
