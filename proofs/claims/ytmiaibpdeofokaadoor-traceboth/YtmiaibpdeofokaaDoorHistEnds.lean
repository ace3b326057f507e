/-
  RIGHT EVENTS: how far each is, by the courses; what ended stays so; each is in one state. No walk.
-/
import Derived.Test.YtmiaibpdeofokaaDoorHistStates
import Derived.Test.YtmiaibpdeofokaaDoorHistOrder
namespace Go.Proofs.YtmiaibpdeofokaaDoor
set_option linter.unusedVariables false
set_option linter.unusedSimpArgs false

theorem attM (l : List EvD) : ∀ (acc : List Int) (a : Int), a ∈ l.foldl attStep acc ↔ a ∈ acc ∨ ∃ e ∈ l, e.k = 1 ∧ e.a = a := by
  induction l with
  | nil => intro acc a; simp
  | cons e l ih =>
    intro acc a
    rw [List.foldl_cons, ih]
    unfold attStep
    constructor
    · rintro (h | ⟨x, hx, h⟩)
      · split at h
        · rename_i hk
          rw [List.mem_append] at h
          rcases h with h | h
          · exact .inl h
          · simp at h; exact .inr ⟨e, by simp, hk.1, h.symm⟩
        · exact .inl h
      · exact .inr ⟨x, List.mem_cons_of_mem _ hx, h⟩
    · rintro (h | ⟨x, hx, h1, h2⟩)
      · left
        split
        · exact List.mem_append_left _ h
        · exact h
      · rcases List.mem_cons.1 hx with rfl | hx
        · left
          split
          · rw [h2]; simp
          · rename_i hk
            have : x.a ∈ acc := by
              by_cases hm : x.a ∈ acc
              · exact hm
              · exact absurd ⟨h1, hm⟩ hk
            rw [← h2]; exact this
        · exact .inr ⟨x, hx, h1, h2⟩
theorem attSm (l : List EvD) (a : Int) : a ∈ attS l ↔ ∃ e ∈ l, e.k = 1 ∧ e.a = a := by
  unfold attS
  rw [attM]
  simp

theorem told_none (l : List EvD) (x : Int) (h : ∀ e ∈ l, e.a ≠ x) : ∀ s, l.foldl (toldStep x) s = s := by
  induction l with
  | nil => intro s; rfl
  | cons e l ih =>
    intro s
    rw [List.foldl_cons, ih (fun e' he' => h e' (List.mem_cons_of_mem _ he'))]
    unfold toldStep
    rw [if_neg (h e (by simp))]

theorem state_snoc {l : List EvD} {k : Nat} (hk : k < l.length) (x : Int) : stateS (l.take (k + 1)) x = if x ∈ attS (l.take k) ∨ (l[k].k = 1 ∧ l[k].a = x) then max (toldStep x (toldS (l.take k) x) l[k]) 1 else 0 := by
  unfold stateS
  rw [toldS_snoc hk]
  have hm : (x ∈ attS (l.take (k + 1))) ↔ (x ∈ attS (l.take k) ∨ (l[k].k = 1 ∧ l[k].a = x)) := by
    rw [attSm, attSm, List.take_succ_eq_append_getElem hk]
    simp only [List.mem_append, List.mem_singleton]
    constructor
    · rintro ⟨e, he | rfl, h⟩
      · exact .inl ⟨e, he, h⟩
      · exact .inr h
    · rintro (⟨e, he, h⟩ | h)
      · exact ⟨e, .inl he, h⟩
      · exact ⟨_, .inr rfl, h⟩
  by_cases h : x ∈ attS (l.take k) ∨ (l[k].k = 1 ∧ l[k].a = x)
  · rw [if_pos h, if_pos (hm.2 h)]
  · rw [if_neg h, if_neg (fun q => h (hm.1 q))]

/-- What comes of one that has begun, by what kind. -/
theorem behind_ways {st : Int} {Fs : List Fr} {e : EvD} {st' : Int} {Fs' : List Fr} (h : behindS st Fs e = some (st', Fs')) :
    (e.k = 1 ∧ st = 0 ∧ st' = 1) ∨ (e.k ≠ 1 ∧ st ≠ 0 ∧ st ≠ 3 ∧ st ≠ 4 ∧ ((e.k = 7 ∧ st' = 2) ∨ (e.k = 8 ∧ st' = 3) ∨ (e.k = 9 ∧ st' = 4) ∨ (2 ≤ e.k ∧ e.k ≤ 6 ∧ st' = 1 ∧ st = 1))) := by
  unfold behindS at h
  split at h
  · cases h
  · split at h
    · rename_i hk
      split at h
      · simp at h; exact .inl ⟨hk, by assumption, h.1.symm⟩
      · cases h
    · rename_i hk1
      right
      split at h
      · rename_i hk
        split at h
        · rename_i hs
          simp at h
          exact ⟨hk1, by omega, by omega, by omega, .inr (.inr (.inr ⟨hk.1, hk.2, h.1.symm, hs.1⟩))⟩
        · cases h
      · split at h
        · rename_i hk
          split at h
          · rename_i hs
            simp at h
            exact ⟨hk1, by omega, by omega, by omega, .inl ⟨hk, h.1.symm⟩⟩
          · cases h
        · split at h
          · rename_i hk
            split at h
            · rename_i hs
              simp at h
              exact ⟨hk1, by omega, by omega, by omega, .inr (.inl ⟨hk, h.1.symm⟩)⟩
            · cases h
          · split at h
            · rename_i hk
              split at h
              · rename_i hs
                simp at h
                exact ⟨hk1, by omega, by omega, by omega, .inr (.inr (.inl ⟨hk, h.1.symm⟩))⟩
              · cases h
            · cases h

/-- How far each is, is what its course says. -/
theorem state_run {l : List EvD} : ∀ (n : Nat) {M : CM}, n ≤ l.length → runC M0 (l.take n) = some M → ∀ x, stC M x = stateS (l.take n) x := by
  intro n
  induction n with
  | zero => intro M hn h x; simp [runC] at h; rw [← h]; rfl
  | succ n ih =>
    intro M hn h x
    have hnl : n < l.length := by omega
    obtain ⟨Mi, Mj, h1, h2, h3⟩ := step_at (l := l.take (n + 1)) h n (by simp; omega)
    have hl : (l.take (n + 1)).take n = l.take n := by rw [List.take_take]; congr 1; omega
    have hl2 : (l.take (n + 1)).take (n + 1) = l.take (n + 1) := by rw [List.take_take]; congr 1; omega
    rw [hl] at h1
    rw [hl2, h] at h2
    cases h2
    have he : (l.take (n + 1))[n]'(by simp; omega) = l[n] := by simp
    rw [he] at h3
    obtain ⟨st, Fs, hb, rfl, hpos, _⟩ := step_parts h3
    have ih' := ih (by omega) h1
    rw [state_snoc hnl]
    by_cases hx : l[n].a = x
    · subst hx
      rw [stC_upd_same]
      rw [ih'] at hb
      have hst : stateS (l.take n) l[n].a = if l[n].a ∈ attS (l.take n) then max (toldS (l.take n) l[n].a) 1 else 0 := rfl
      rcases behind_ways hb with ⟨hk, hz, rfl⟩ | ⟨hk, hz, h3', h4', hw⟩
      · rw [if_pos (.inr ⟨hk, rfl⟩)]
        have hz2 : stC Mi l[n].a = 0 := by rw [ih']; exact hz
        have hn0 := zero_none n h1 (by omega) _ hz2
        have ht : toldS (l.take n) l[n].a = 0 := told_none _ _ (fun e he => by
          obtain ⟨j, hj, rfl⟩ := List.getElem_of_mem he
          simp only [List.getElem_take]
          simp at hj
          exact hn0 j (by omega) (by omega)) 0
        rw [ht]
        unfold toldStep reachS
        rw [if_pos rfl, if_neg (by omega), if_neg (by omega), if_neg (by omega)]
        rfl
      · have hmem : l[n].a ∈ attS (l.take n) := by
          by_cases hm : l[n].a ∈ attS (l.take n)
          · exact hm
          · rw [hst, if_neg hm] at hz; exact absurd rfl hz
        rw [if_pos (.inl hmem)]
        rw [hst, if_pos hmem] at hw
        unfold toldStep reachS
        rw [if_pos rfl]
        rcases hw with ⟨hk7, rfl⟩ | ⟨hk8, rfl⟩ | ⟨hk9, rfl⟩ | ⟨ha, hb', rfl, hone⟩
        · rw [if_pos hk7]; rfl
        · rw [if_neg (by omega), if_pos hk8]; rfl
        · rw [if_neg (by omega), if_neg (by omega), if_pos hk9]; rfl
        · rw [if_neg (by omega), if_neg (by omega), if_neg (by omega)]; exact hone.symm
    · rw [stC_upd_other _ _ (fun h => hx h.symm), ih']
      unfold stateS toldStep
      rw [if_neg hx]
      by_cases hm : x ∈ attS (l.take n)
      · rw [if_pos hm, if_pos (.inl hm)]
      · rw [if_neg hm, if_neg (by rintro (h | h); exact hm h; exact hx h.2)]

/-- What ended stays so. -/
theorem end_stays (x : Int) (l : List EvD) : ∀ M N, runC M l = some N → (stC M x = 3 ∨ stC M x = 4) → stC N x = stC M x := by
  induction l with
  | nil => intro M N h _; simp [runC] at h; rw [h]
  | cons e l ih =>
    intro M N h hs
    simp only [runC] at h
    cases hq : stepC M e with
    | none => rw [hq] at h; cases h
    | some M1 =>
      rw [hq] at h
      simp only [Option.bind_some] at h
      obtain ⟨st, Fs, hb, rfl, hp, _⟩ := step_parts hq
      by_cases hx : e.a = x
      · subst hx
        rcases behind_ways hb with ⟨_, hz, _⟩ | ⟨_, _, h3, h4, _⟩
        · omega
        · rcases hs with hs | hs
          · exact absurd hs h3
          · exact absurd hs h4
      · have e1 : stC (updF M e.a (st, Fs)) x = stC M x := stC_upd_other _ _ (fun h => hx h.symm)
        rw [← e1]
        exact ih _ _ h (by rw [e1]; exact hs)
theorem state_stays {l : List EvD} {M : CM} (h : runC M0 l = some M) {k : Nat} (hk : k ≤ l.length) {x : Int} (hs : stateS (l.take k) x = 3 ∨ stateS (l.take k) x = 4) : stateS l x = stateS (l.take k) x := by
  obtain ⟨Mk, hMk⟩ := run_at h k hk
  have e1 := state_run k hk hMk x
  have e2 := state_run l.length (Nat.le_refl _) (by rw [List.take_length]; exact h) x
  rw [List.take_length] at e2
  have hrest : runC Mk (l.drop k) = some M := by
    have hh := h
    rw [← List.take_append_drop k l, runC_app, hMk] at hh
    exact hh
  have e3 := end_stays x (l.drop k) Mk M hrest (by rw [e1]; exact hs)
  rw [← e2, e3, e1]

/-- Each is in one of four states. -/
theorem state_range (l : List EvD) {x : Int} (hx : x ∈ attS l) : 1 ≤ stateS l x ∧ stateS l x ≤ 4 := by
  unfold stateS
  rw [if_pos hx]
  have := toldS_range l x 0 (by omega)
  change 0 ≤ toldS l x ∧ toldS l x ≤ 4 at this
  omega
theorem four_count (g : Int → Int) (xs : List Int) (h : ∀ x ∈ xs, 1 ≤ g x ∧ g x ≤ 4) :
    (xs.filter fun x => !(g x != 1)).length + (xs.filter fun x => !(g x != 2)).length + (xs.filter fun x => !(g x != 3)).length + (xs.filter fun x => !(g x != 4)).length = xs.length := by
  induction xs with
  | nil => rfl
  | cons x xs ih =>
    have ih' := ih (fun y hy => h y (List.mem_cons_of_mem _ hy))
    have hx := h x (by simp)
    have hw : g x = 1 ∨ g x = 2 ∨ g x = 3 ∨ g x = 4 := by omega
    rcases hw with e | e | e | e
    all_goals
      simp only [List.filter_cons, e]
      simp
      try simp at ih'
      omega

end Go.Proofs.YtmiaibpdeofokaaDoor
