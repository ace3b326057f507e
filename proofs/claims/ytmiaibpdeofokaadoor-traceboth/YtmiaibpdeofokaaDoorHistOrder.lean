/-
  RIGHT EVENTS: what was before; Before is an order. No walk.
-/
import Derived.Test.YtmiaibpdeofokaaDoorHistLists
namespace Go.Proofs.YtmiaibpdeofokaaDoor
set_option linter.unusedVariables false
set_option linter.unusedSimpArgs false

abbrev M0 : CM := fun _ => none
/-- Right events, one behind the other. -/
theorem run_at {l : List EvD} {M : CM} (h : runC M0 l = some M) (i : Nat) (hi : i ≤ l.length) : ∃ Mi, runC M0 (l.take i) = some Mi := by
  have e : l = l.take i ++ l.drop i := (List.take_append_drop _ _).symm
  rw [e, runC_app] at h
  cases hq : runC M0 (l.take i) with
  | none => rw [hq] at h; cases h
  | some Mi => exact ⟨Mi, rfl⟩
theorem step_at {l : List EvD} {M : CM} (h : runC M0 l = some M) (i : Nat) (hi : i < l.length) : ∃ Mi Mj, runC M0 (l.take i) = some Mi ∧ runC M0 (l.take (i + 1)) = some Mj ∧ stepC Mi l[i] = some Mj := by
  obtain ⟨Mi, h1⟩ := run_at h i (by omega)
  obtain ⟨Mj, h2⟩ := run_at h (i + 1) (by omega)
  refine ⟨Mi, Mj, h1, h2, ?_⟩
  rw [← runC_snoc hi h1]
  exact h2

theorem step_parts {M M' : CM} {e : EvD} (h : stepC M e = some M') : ∃ st Fs, behindS (stC M e.a) (fsC M e.a) e = some (st, Fs) ∧ M' = updF M e.a (st, Fs) ∧ 1 ≤ st ∧ (0 ≤ e.a ∧ e.a < 64) := by
  unfold stepC at h
  split at h
  · rename_i ha
    cases hq : behindS (stC M e.a) (fsC M e.a) e with
    | none => rw [hq] at h; cases h
    | some r =>
      rw [hq] at h
      simp at h
      obtain ⟨st, Fs⟩ := r
      exact ⟨st, Fs, rfl, h.symm, behindS_pos hq, ha⟩
  · cases h
theorem stC_upd_same (M : CM) (a : Int) (r : Int × List Fr) : stC (updF M a r) a = r.1 := by unfold stC; rw [updF_same]; rfl
theorem fsC_upd_same (M : CM) (a : Int) (r : Int × List Fr) : fsC (updF M a r) a = r.2 := by unfold fsC; rw [updF_same]; rfl
theorem stC_upd_other (M : CM) {a b : Int} (r : Int × List Fr) (h : b ≠ a) : stC (updF M a r) b = stC M b := by unfold stC; rw [updF_other M r h]
theorem fsC_upd_other (M : CM) {a b : Int} (r : Int × List Fr) (h : b ≠ a) : fsC (updF M a r) b = fsC M b := by unfold fsC; rw [updF_other M r h]

/-- What can't come of one that has not begun; Began of one that has. -/
theorem behind_zero {Fs : List Fr} {e : EvD} {r : Int × List Fr} (h : behindS 0 Fs e = some r) : e.k = 1 := by
  unfold behindS at h
  split at h
  · cases h
  · split at h
    · assumption
    · exfalso
      split at h
      · rw [if_neg (by omega)] at h; cases h
      · split at h
        · rw [if_neg (by omega)] at h; cases h
        · split at h
          · rw [if_neg (by omega)] at h; cases h
          · split at h
            · rw [if_neg (by omega)] at h; cases h
            · cases h
theorem behind_began {st : Int} {Fs : List Fr} {e : EvD} {r : Int × List Fr} (h : behindS st Fs e = some r) (hk : e.k = 1) : st = 0 ∧ r = (1, [f0]) := by
  unfold behindS at h
  split at h
  · cases h
  · try rw [if_pos hk] at h
    split at h
    · simp at h; exact ⟨by assumption, h.symm⟩
    · cases h

/-- What is 0 has had no event; what is not has begun. -/
theorem zero_none {l : List EvD} : ∀ (n : Nat) {M : CM}, runC M0 (l.take n) = some M → n ≤ l.length → ∀ a, stC M a = 0 → ∀ j (hj : j < l.length), j < n → l[j].a ≠ a := by
  intro n
  induction n with
  | zero => intro M h hn a h0 j hj hjn; omega
  | succ n ih =>
    intro M h hn a h0 j hj hjn e
    obtain ⟨Mi, Mj, h1, h2, h3⟩ := step_at (l := l.take (n + 1)) h n (by simp; omega)
    have hl : (l.take (n + 1)).take n = l.take n := by rw [List.take_take]; congr 1; omega
    have hl2 : (l.take (n + 1)).take (n + 1) = l.take (n + 1) := by rw [List.take_take]; congr 1; omega
    rw [hl] at h1
    rw [hl2, h] at h2
    cases h2
    have he : (l.take (n + 1))[n]'(by simp; omega) = l[n] := by simp
    rw [he] at h3
    obtain ⟨st, Fs, hb, rfl, hpos, _⟩ := step_parts h3
    by_cases hjn' : j = n
    · subst hjn'
      rw [← e, stC_upd_same] at h0
      simp at h0
      omega
    · by_cases hna : l[n].a = a
      · rw [← hna, stC_upd_same] at h0; simp at h0; omega
      · rw [stC_upd_other _ _ (fun h => hna h.symm)] at h0
        exact ih h1 (by omega) a h0 j hj (by omega) e
theorem pos_began {l : List EvD} : ∀ (n : Nat) {M : CM}, runC M0 (l.take n) = some M → n ≤ l.length → ∀ a, stC M a ≠ 0 → ∃ j, ∃ hj : j < l.length, j < n ∧ l[j].k = 1 ∧ l[j].a = a := by
  intro n
  induction n with
  | zero => intro M h hn a h0; simp [runC] at h; rw [← h] at h0; exact absurd rfl h0
  | succ n ih =>
    intro M h hn a h0
    obtain ⟨Mi, Mj, h1, h2, h3⟩ := step_at (l := l.take (n + 1)) h n (by simp; omega)
    have hl : (l.take (n + 1)).take n = l.take n := by rw [List.take_take]; congr 1; omega
    have hl2 : (l.take (n + 1)).take (n + 1) = l.take (n + 1) := by rw [List.take_take]; congr 1; omega
    rw [hl] at h1
    rw [hl2, h] at h2
    cases h2
    have he : (l.take (n + 1))[n]'(by simp; omega) = l[n] := by simp
    rw [he] at h3
    obtain ⟨st, Fs, hb, rfl, hpos, _⟩ := step_parts h3
    by_cases hna : l[n].a = a
    · by_cases hz : stC Mi l[n].a = 0
      · rw [hz] at hb
        exact ⟨n, by omega, by omega, behind_zero hb, hna⟩
      · obtain ⟨j, hj, hjn, h4, h5⟩ := ih h1 (by omega) l[n].a hz
        exact ⟨j, hj, by omega, h4, h5.trans hna⟩
    · rw [stC_upd_other _ _ (fun h => hna h.symm)] at h0
      obtain ⟨j, hj, hjn, h4, h5⟩ := ih h1 (by omega) a h0
      exact ⟨j, hj, by omega, h4, h5⟩

/-- Began is an attempt's first event. -/
theorem began_first {l : List EvD} {M : CM} (h : runC M0 l = some M) {i : Nat} (hi : i < l.length) (hk : l[i].k = 1) : ∀ j (hj : j < l.length), j < i → l[j].a ≠ l[i].a := by
  obtain ⟨Mi, Mj, h1, h2, h3⟩ := step_at h i hi
  obtain ⟨st, Fs, hb, _, _, _⟩ := step_parts h3
  exact zero_none i h1 (by omega) _ (behind_began hb hk).1
/-- What is no Began has one ahead. -/
theorem began_ahead {l : List EvD} {M : CM} (h : runC M0 l = some M) {i : Nat} (hi : i < l.length) (hk : l[i].k ≠ 1) : ∃ j, ∃ hj : j < l.length, j < i ∧ l[j].k = 1 ∧ l[j].a = l[i].a := by
  obtain ⟨Mi, Mj, h1, h2, h3⟩ := step_at h i hi
  obtain ⟨st, Fs, hb, _, _, _⟩ := step_parts h3
  refine pos_began i h1 (by omega) _ (fun h0 => ?_)
  rw [h0] at hb
  exact hk (behind_zero hb)

/-- Before, by places. -/
theorem bef_iff (a b : Int) (l : List EvD) : ∀ en, befS a b en l = true ↔ ∃ i, ∃ hi : i < l.length, l[i].k = 1 ∧ l[i].a = b ∧ (∀ j (hj : j < l.length), j < i → ¬ (l[j].k = 1 ∧ l[j].a = b)) ∧ (en = true ∨ ∃ j, ∃ hj : j < l.length, j < i ∧ l[j].a = a ∧ (l[j].k = 8 ∨ l[j].k = 9)) := by
  induction l with
  | nil => intro en; simp [befS]
  | cons e l ih =>
    intro en
    unfold befS
    by_cases h : e.k = 1 ∧ e.a = b
    · rw [if_pos h]
      constructor
      · intro he; exact ⟨0, by simp, h.1, h.2, by intro j hj h0; omega, .inl he⟩
      · rintro ⟨i, hi, h1, h2, h3, h4⟩
        cases i with
        | zero =>
          rcases h4 with h4 | ⟨j, hj, hj0, _⟩
          · exact h4
          · omega
        | succ i => exact absurd h (h3 0 (by simp) (by omega))
    · rw [if_neg h, ih]
      constructor
      · rintro ⟨i, hi, h1, h2, h3, h4⟩
        refine ⟨i + 1, by simpa using hi, by simpa using h1, by simpa using h2, ?_, ?_⟩
        · intro j hj hji
          cases j with
          | zero => simpa using h
          | succ j => simpa using h3 j (by simpa using hj) (by omega)
        · rcases h4 with h4 | ⟨j, hj, hji, h5, h6⟩
          · simp at h4
            rcases h4 with h4 | ⟨h5, h6⟩
            · exact .inl h4
            · exact .inr ⟨0, by simp, by omega, by simpa using h5, by simpa using h6⟩
          · exact .inr ⟨j + 1, by simpa using hj, by omega, by simpa using h5, by simpa using h6⟩
      · rintro ⟨i, hi, h1, h2, h3, h4⟩
        cases i with
        | zero => exact absurd ⟨by simpa using h1, by simpa using h2⟩ h
        | succ i =>
          refine ⟨i, by simpa using hi, by simpa using h1, by simpa using h2, ?_, ?_⟩
          · intro j hj hji
            exact h3 (j + 1) (by simpa using hj) (by omega)
          · rcases h4 with h4 | ⟨j, hj, hji, h5, h6⟩
            · exact .inl (by simp [h4])
            · cases j with
              | zero =>
                left
                simp at h5 h6
                simp [h5, h6]
              | succ j => exact .inr ⟨j, by simpa using hj, by omega, by simpa using h5, by simpa using h6⟩

theorem bef_self {l : List EvD} {M : CM} (h : runC M0 l = some M) (a : Int) : befS a a false l = false := by
  rw [Bool.eq_false_iff]
  intro hb
  obtain ⟨i, hi, h1, h2, h3, h4⟩ := (bef_iff a a l false).1 hb
  rcases h4 with h4 | ⟨j, hj, hji, h5, h6⟩
  · cases h4
  · exact began_first h hi h1 j hj hji (h5.trans h2.symm)
/-- What had ended had begun ahead. -/
theorem end_began {l : List EvD} {M : CM} (h : runC M0 l = some M) {a : Int} {j : Nat} (hj : j < l.length) (ha : l[j].a = a) (hk : l[j].k = 8 ∨ l[j].k = 9) {i : Nat} (hi : i < l.length) (h1 : l[i].k = 1) (h2 : l[i].a = a) : i < j := by
  obtain ⟨i', hi', hlt, h3, h4⟩ := began_ahead h hj (by omega)
  rcases Nat.lt_trichotomy i i' with h5 | h5 | h5
  · exact absurd (h2.trans (ha.symm.trans h4.symm)) (began_first h hi' h3 i hi h5)
  · omega
  · exact absurd (h4.trans (ha.trans h2.symm)) (began_first h hi h1 i' hi' h5)
theorem bef_anti {l : List EvD} {M : CM} (h : runC M0 l = some M) {a b : Int} (hab : befS a b false l = true) : befS b a false l = false := by
  rw [Bool.eq_false_iff]
  intro hba
  obtain ⟨i, hi, h1, h2, h3, h4⟩ := (bef_iff a b l false).1 hab
  obtain ⟨i', hi', h1', h2', h3', h4'⟩ := (bef_iff b a l false).1 hba
  rcases h4 with h4 | ⟨j, hj, hji, h5, h6⟩
  · cases h4
  · rcases h4' with h4' | ⟨j', hj', hji', h5', h6'⟩
    · cases h4'
    · have q1 := end_began h hj h5 h6 hi' h1' h2'
      have q2 := end_began h hj' h5' h6' hi h1 h2
      omega
theorem bef_trans {l : List EvD} {M : CM} (h : runC M0 l = some M) {a b c : Int} (hab : befS a b false l = true) (hbc : befS b c false l = true) : befS a c false l = true := by
  obtain ⟨i, hi, h1, h2, h3, h4⟩ := (bef_iff a b l false).1 hab
  obtain ⟨i', hi', h1', h2', h3', h4'⟩ := (bef_iff b c l false).1 hbc
  rcases h4 with h4 | ⟨j, hj, hji, h5, h6⟩
  · cases h4
  · rcases h4' with h4' | ⟨j', hj', hji', h5', h6'⟩
    · cases h4'
    · have q := end_began h hj' h5' h6' hi h1 h2
      exact (bef_iff a c l false).2 ⟨i', hi', h1', h2', h3', .inr ⟨j, hj, by omega, h5, h6⟩⟩

end Go.Proofs.YtmiaibpdeofokaaDoor
