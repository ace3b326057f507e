/-
  WITHOUT THE EVENTS OF SOME ATTEMPTS: plain data. No walk.
-/
import Derived.Test.YtjacclbifeoclaaGreatOpqSerPl
namespace Go.Proofs.YtjacclbifeoclaaGreat
set_option linter.unusedVariables false
set_option linter.unusedSimpArgs false
open Go.RowKit Go.Maps

abbrev keptP (kp : Int → Bool) (l : List EvD) : List EvD := l.filter fun e => kp e.a
theorem kept_cut (kp : Int → Bool) (l : List EvD) {a : Int} (h : kp a = true) : cutS a (keptP kp l) = cutS a l := by
  unfold cutS keptP
  rw [List.filter_filter]
  refine List.filter_congr fun e he => ?_
  by_cases h1 : e.a = a
  · simp [h1, h]
  · simp [h1]
theorem kept_run (kp : Int → Bool) (l : List EvD) : ∀ M K N, (∀ a, kp a = true → K a = M a) → runC M l = some N → ∃ K', runC K (keptP kp l) = some K' := by
  induction l with
  | nil => intro M K N _ _; exact ⟨K, rfl⟩
  | cons e l ih =>
    intro M K N hM h
    unfold runC at h
    cases hs : stepC M e with
    | none => rw [hs] at h; cases h
    | some M1 =>
      rw [hs] at h
      by_cases he : kp e.a = true
      · have hc : keptP kp (e :: l) = e :: keptP kp l := by simp [keptP, he]
        rw [hc]
        obtain ⟨r, e1, e2⟩ := step_same (M' := K) (hM _ he).symm hs
        obtain ⟨K', hK⟩ := ih M1 (updF K e.a r) N (fun a ha => by
          rw [e1]
          unfold updF
          split
          · rfl
          · exact hM a ha) h
        refine ⟨K', ?_⟩
        show runC K (e :: keptP kp l) = _
        unfold runC
        rw [e2]
        exact hK
      · have hc : keptP kp (e :: l) = keptP kp l := by simp [keptP, he]
        rw [hc]
        obtain ⟨r, e1, _⟩ := step_same (M' := M) rfl hs
        exact ih M1 K N (fun a ha => by rw [e1, updF_other _ _ (show a ≠ e.a from fun x => he (by rw [← x]; exact ha))]; exact hM a ha) h
theorem kept_right (kp : Int → Bool) {l : List EvD} (h : rightS l = true) : rightS (keptP kp l) = true := by
  obtain ⟨N, hN⟩ := right_run h
  obtain ⟨K, hK⟩ := kept_run kp l (fun _ => none) (fun _ => none) N (fun _ _ => rfl) hN
  unfold rightS at *
  simp only [Bool.and_eq_true, decide_eq_true_eq] at h ⊢
  refine ⟨Nat.le_trans (List.length_filter_le _ _) h.1, by rw [hK]; rfl⟩
theorem kept_att' (kp : Int → Bool) (l : List EvD) : ∀ acc : List Int, (keptP kp l).foldl attStep (acc.filter kp) = (l.foldl attStep acc).filter kp := by
  induction l with
  | nil => intro acc; rfl
  | cons e l ih =>
    intro acc
    by_cases he : kp e.a = true
    · have hc : keptP kp (e :: l) = e :: keptP kp l := by simp [keptP, he]
      rw [hc, List.foldl_cons, List.foldl_cons, ← ih]
      congr 1
      unfold attStep
      by_cases h1 : e.k = 1 ∧ ¬ e.a ∈ acc
      · rw [if_pos h1, if_pos ⟨h1.1, fun hm => h1.2 (List.mem_filter.1 hm).1⟩, List.filter_append]
        simp [he]
      · rw [if_neg h1, if_neg (fun h2 => h1 ⟨h2.1, fun hm => h2.2 (List.mem_filter.2 ⟨hm, he⟩)⟩)]
    · have hc : keptP kp (e :: l) = keptP kp l := by simp [keptP, he]
      rw [hc, List.foldl_cons, ← ih]
      congr 1
      unfold attStep
      split
      · rw [List.filter_append]
        simp [he]
      · rfl
theorem kept_att (kp : Int → Bool) (l : List EvD) : attS (keptP kp l) = (attS l).filter kp := by
  have := kept_att' kp l []
  simpa [attS] using this
theorem kept_told (kp : Int → Bool) (l : List EvD) {x : Int} (hx : kp x = true) : ∀ s, (keptP kp l).foldl (toldStep x) s = l.foldl (toldStep x) s := by
  induction l with
  | nil => intro s; rfl
  | cons e l ih =>
    intro s
    by_cases he : kp e.a = true
    · have hc : keptP kp (e :: l) = e :: keptP kp l := by simp [keptP, he]
      rw [hc, List.foldl_cons, List.foldl_cons, ih]
    · have hc : keptP kp (e :: l) = keptP kp l := by simp [keptP, he]
      rw [hc, List.foldl_cons, ih]
      have : toldStep x s e = s := by unfold toldStep; rw [if_neg (fun h : e.a = x => he (by rw [h]; exact hx))]
      rw [this]
theorem kept_state (kp : Int → Bool) (l : List EvD) {x : Int} (hx : kp x = true) : stateS (keptP kp l) x = stateS l x := by
  unfold stateS
  rw [kept_att]
  have h1 : x ∈ (attS l).filter kp ↔ x ∈ attS l := by rw [List.mem_filter]; exact ⟨fun h => h.1, fun h => ⟨h, hx⟩⟩
  have h2 : toldS (keptP kp l) x = toldS l x := kept_told kp l hx 0
  by_cases h : x ∈ attS l
  · rw [if_pos (h1.2 h), if_pos h, h2]
  · rw [if_neg (fun h3 => h (h1.1 h3)), if_neg h]
theorem kept_bef (kp : Int → Bool) (l : List EvD) {a b : Int} (ha : kp a = true) (hb : kp b = true) : ∀ en, befS a b en (keptP kp l) = befS a b en l := by
  induction l with
  | nil => intro en; rfl
  | cons e l ih =>
    intro en
    by_cases he : kp e.a = true
    · have hc : keptP kp (e :: l) = e :: keptP kp l := by simp [keptP, he]
      rw [hc]
      unfold befS
      split
      · rfl
      · exact ih _
    · have hc : keptP kp (e :: l) = keptP kp l := by simp [keptP, he]
      rw [hc, ih]
      conv => rhs; unfold befS
      have h1 : ¬ (e.k = 1 ∧ e.a = b) := fun h => he (by rw [h.2]; exact hb)
      have h2 : decide (e.a = a) = false := decide_eq_false (fun h : e.a = a => he (by rw [h]; exact ha))
      rw [if_neg h1, h2]
      simp
theorem kept_fit (kp : Int → Bool) (l : List EvD) (hp : List Int) {a : Int} (ha : kp a = true) : fitP (keptP kp l) hp a = fitP l hp a := by
  unfold fitP rdP wrP
  rw [kept_cut kp l ha]
theorem kept_beh (kp : Int → Bool) (l : List EvD) (com hp : List Int) {a : Int} (ha : kp a = true) : behP (keptP kp l) com hp a = behP l com hp a := by
  unfold behP wrP
  rw [kept_cut kp l ha]
theorem kept_walk (kp : Int → Bool) (l : List EvD) (com : List Int) (hc : ∀ a, kp a = false → a ∉ com) : ∀ (o lf hp : List Int) (k k' : Nat), (walkO l com o lf hp k).2.1 = 0 →
    (walkO (keptP kp l) com (o.filter kp) (lf.filter kp) hp k').2 = (walkO l com o lf hp k).2
  | [], lf, hp, k, k', _ => rfl
  | a :: o, lf, hp, k, k', h => by
    obtain ⟨h1, h2⟩ := walkO_cons h
    have e1 : (walkO l com (a :: o) lf hp k).2 = (walkO l com o (putO l com lf hp a).2.1 (putO l com lf hp a).2.2 (k + 1)).2 := by
      conv => lhs; unfold walkO
      rw [if_pos h1]
    have hany : (lf.any fun o => befS o a false l) = false := by
      cases hq : (lf.any fun o => befS o a false l) with
      | false => rfl
      | true => unfold putO at h1; rw [if_pos hq] at h1; cases h1
    have hfit : fitP l hp a = true := by
      cases hq : fitP l hp a with
      | true => rfl
      | false => unfold putO at h1; rw [if_neg (by rw [hany]; simp), if_pos hq] at h1; cases h1
    have hput : putO l com lf hp a = (0, lf.filter fun o => !(o == a), behP l com hp a) := by
      unfold putO
      rw [if_neg (by rw [hany]; simp), if_neg (by rw [hfit]; simp)]
    rw [e1]
    rw [hput] at h2 ⊢
    simp only at h2 ⊢
    by_cases ha : kp a = true
    · have hany2 : ((lf.filter kp).any fun o => befS o a false (keptP kp l)) = false := by
        rw [List.any_eq_false] at hany ⊢
        intro x hx
        obtain ⟨hx1, hx2⟩ := List.mem_filter.1 hx
        rw [kept_bef kp l hx2 ha]
        exact hany x hx1
      have hput2 : putO (keptP kp l) com (lf.filter kp) hp a = (0, (lf.filter kp).filter fun o => !(o == a), behP l com hp a) := by
        unfold putO
        rw [if_neg (by rw [hany2]; simp), if_neg (by rw [kept_fit kp l hp ha, hfit]; simp), kept_beh kp l com hp ha]
      have hf : (a :: o).filter kp = a :: o.filter kp := by simp [ha]
      rw [hf]
      conv => lhs; unfold walkO
      rw [hput2]
      simp only [if_true]
      have hcomm : (lf.filter kp).filter (fun o => !(o == a)) = (lf.filter fun o => !(o == a)).filter kp := by rw [List.filter_filter, List.filter_filter]; exact List.filter_congr fun x _ => Bool.and_comm _ _
      rw [hcomm]
      exact kept_walk kp l com hc o _ _ _ _ h2
    · have ha' : kp a = false := by simpa using ha
      have hf : (a :: o).filter kp = o.filter kp := by simp [ha]
      have hb : behP l com hp a = hp := by unfold behP; rw [if_neg (hc a ha')]
      rw [hb] at h2 ⊢
      rw [hf]
      have hlf : (lf.filter fun o => !(o == a)).filter kp = lf.filter kp := by
        rw [List.filter_filter]
        refine List.filter_congr fun x _ => ?_
        by_cases hx : x = a
        · rw [hx, ha']; rfl
        · simp [hx]
      rw [← hlf]
      exact kept_walk kp l com hc o _ _ _ _ h2

theorem walk_len (l : List EvD) (com : List Int) : ∀ (o lf hp : List Int) (k : Nat), (walkO l com o lf hp k).2.1 = 0 → (walkO l com o lf hp k).2.2.length = hp.length
  | [], _, _, _, _ => rfl
  | a :: o, lf, hp, k, h => by
    obtain ⟨h1, h2⟩ := walkO_cons h
    have e1 : (walkO l com (a :: o) lf hp k).2 = (walkO l com o (putO l com lf hp a).2.1 (putO l com lf hp a).2.2 (k + 1)).2 := by
      conv => lhs; unfold walkO
      rw [if_pos h1]
    rw [e1, walk_len l com o _ _ _ h2, (putO_len l com lf hp a).2]
theorem legal_len {l : List EvD} {hp o com : List Int} (hl : l.length ≤ 1000) (h : (legalP l hp o com).2.1 = 0) : (legalP l hp o com).2.2.length ≤ 12 := by
  have hb : begE l hp com = 0 := by
    unfold legalP at h
    split at h
    · rename_i h1; exact absurd h h1
    · rename_i h1; simpa using h1
  have ho := begO_of hl hb
  unfold legalP at h ⊢
  rw [if_neg (by rw [hb]; simp)] at h ⊢
  split at h
  · cases h
  · rename_i h2
    rw [if_neg h2, walk_len _ _ _ _ _ _ h]
    exact ho.hpl
theorem nodup_filter {l : List Int} (f : Int → Bool) (h : l.Nodup) : (l.filter f).Nodup := h.sublist List.filter_sublist

/-- The heap without the events of the aborted ones. -/
theorem aborts_legal {l : List EvD} {hp o com : List Int} (hl : l.length ≤ 1000) (h : (legalP l hp o com).2.1 = 0) :
    (legalP (keptP (fun a => stateS l a != 4) l) hp (o.filter fun a => stateS l a != 4) com).2 = (legalP l hp o com).2 := by
  obtain ⟨kp, hkp⟩ : ∃ kp : Int → Bool, kp = fun a => stateS l a != 4 := ⟨_, rfl⟩
  have hkx : ∀ a, kp a = (stateS l a != 4) := fun a => by rw [hkp]
  rw [← hkp]
  have hb : begE l hp com = 0 := by
    unfold legalP at h
    split at h
    · rename_i h1; exact absurd h h1
    · rename_i h1; simpa using h1
  have ho := begO_of hl hb
  have hord : ordOk l o = true := by
    unfold legalP at h
    rw [if_neg (by rw [hb]; simp)] at h
    cases hq : ordOk l o with
    | true => rfl
    | false => rw [if_pos hq] at h; cases h
  have hin : ∀ s, s ≠ 4 → inS (keptP kp l) s = inS l s := fun s hs => by
    unfold inS
    rw [kept_att, List.filter_filter]
    refine List.filter_congr fun x _ => ?_
    by_cases hx : kp x = true
    · rw [hx, kept_state kp l hx]; simp
    · have hx' : kp x = false := by simpa using hx
      rw [hx']
      have : stateS l x = 4 := by rw [hkx] at hx'; simpa using hx'
      rw [this]
      have h4 : ¬ (4 : Int) = s := fun e => hs e.symm
      simp [h4]
  have hb2 : begE (keptP kp l) hp com = 0 := by
    unfold begE
    rw [if_neg (by rw [kept_right kp ho.right, ho.hok]; simp), hin 2 (by decide), if_neg (by rw [ho.each]; simp)]
  have hord' := hord
  unfold ordOk eachP at hord'
  simp only [Bool.and_eq_true, decide_eq_true_eq] at hord'
  obtain ⟨hlen, hnd, hsub⟩ := hord'
  have hsub2 : ∀ x ∈ attS l, x ∈ o := fun x hx => by
    refine Classical.byContradiction fun hno => ?_
    have h1 : o.length ≤ ((attS l).filter fun y => y != x).length := List.Nodup.length_le_of_subset hnd (fun y hy => List.mem_filter.2 ⟨hsub y hy, by simp; exact fun e => hno (e ▸ hy)⟩)
    have h2 : ((attS l).filter fun y => y != x).length < (attS l).length := by
      rw [List.length_filter_lt_length_iff_exists]
      exact ⟨x, hx, by simp⟩
    omega
  have hord2 : ordOk (keptP kp l) (o.filter kp) = true := by
    unfold ordOk eachP
    rw [kept_att]
    simp only [Bool.and_eq_true, decide_eq_true_eq]
    refine ⟨Nat.le_antisymm ?_ ?_, nodup_filter kp hnd, fun x hx => ?_⟩
    · exact List.Nodup.length_le_of_subset (nodup_filter kp hnd) (fun x hx => List.mem_filter.2 ⟨hsub x (List.mem_filter.1 hx).1, (List.mem_filter.1 hx).2⟩)
    · exact List.Nodup.length_le_of_subset (nodup_filter kp (attS_nodup l)) (fun x hx => List.mem_filter.2 ⟨hsub2 x (List.mem_filter.1 hx).1, (List.mem_filter.1 hx).2⟩)
    · exact List.mem_filter.2 ⟨hsub x (List.mem_filter.1 hx).1, (List.mem_filter.1 hx).2⟩
  have hcom : ∀ a, kp a = false → a ∉ com ++ inS l 3 := fun a ha hm => by
    have h4 : stateS l a = 4 := by rw [hkx] at ha; simpa using ha
    rcases List.mem_append.1 hm with hm | hm
    · have he := ho.each
      unfold eachP at he
      simp only [decide_eq_true_eq] at he
      have := (List.mem_filter.1 (he.2 a hm)).2
      rw [h4] at this
      simp at this
    · have := (List.mem_filter.1 hm).2
      rw [h4] at this
      simp at this
  unfold legalP at h ⊢
  rw [if_neg (by rw [hb]; simp), if_neg (by rw [hord]; simp)] at h
  rw [if_neg (by rw [hb2]; simp), if_neg (by rw [hord2]; simp), if_neg (by rw [hb]; simp), if_neg (by rw [hord]; simp), hin 3 (by decide), kept_att]
  exact kept_walk kp l _ hcom o (attS l) hp 0 0 h

end Go.Proofs.YtjacclbifeoclaaGreat
