/-
  THE DOCUMENT's 'fits', as plain data: it holds of an event just where the courses go on. No walk.
-/
import Derived.Test.YtmiaibpdeofokaaDoorHistRef
namespace Go.Proofs.YtmiaibpdeofokaaDoor
set_option linter.unusedVariables false
set_option linter.unusedSimpArgs false

theorem behind_forms {st : Int} {Fs : List Fr} {e : EvD} {st' : Int} {Fs' : List Fr} (h : behindS st Fs e = some (st', Fs')) :
    (e.k = 1 ∧ st = 0 ∧ st' = 1 ∧ Fs' = [f0]) ∨ (2 ≤ e.k ∧ e.k ≤ 6 ∧ st = 1 ∧ st' = 1 ∧ Fs' = (noteS Fs e).2) ∨ (e.k = 7 ∧ st = 1 ∧ st' = 2 ∧ Fs' = Fs) ∨ (e.k = 8 ∧ st = 2 ∧ st' = 3 ∧ Fs' = Fs) ∨ (e.k = 9 ∧ (st = 1 ∨ st = 2) ∧ st' = 4 ∧ Fs' = Fs) := by
  unfold behindS at h
  split at h
  · cases h
  · split at h
    · rename_i hk
      split at h
      · simp at h; exact .inl ⟨hk, by assumption, h.1.symm, h.2.symm⟩
      · cases h
    · right
      split at h
      · rename_i hk
        split at h
        · rename_i hs
          simp at h
          exact .inl ⟨hk.1, hk.2, hs.1, h.1.symm, h.2.symm⟩
        · cases h
      · right
        split at h
        · rename_i hk
          split at h
          · rename_i hs
            simp at h
            exact .inl ⟨hk, hs.1, h.1.symm, h.2.symm⟩
          · cases h
        · right
          split at h
          · rename_i hk
            split at h
            · rename_i hs
              simp at h
              exact .inl ⟨hk, hs, h.1.symm, h.2.symm⟩
            · cases h
          · right
            split at h
            · rename_i hk
              split at h
              · rename_i hs
                simp at h
                exact ⟨hk, hs, h.1.symm, h.2.symm⟩
              · cases h
            · cases h

theorem noteS_other (Fs : List Fr) (e : EvD) (h : ¬ (3 ≤ e.k ∧ e.k ≤ 6)) : noteS Fs e = (0, Fs) := by
  unfold noteS
  rw [if_neg (by omega), if_neg (by omega), if_neg (by omega), if_neg (by omega)]
theorem noteAll_app (Fs : List Fr) (c : List EvD) (e : EvD) : noteAll Fs (c ++ [e]) = (noteS (noteAll Fs c) e).2 := by
  unfold noteAll
  rw [List.foldl_append]
  rfl
theorem note_cut {a : Int} {l : List EvD} {k : Nat} (hk : k < l.length) : noteAll [f0] (cutS a (l.take (k + 1))) = if l[k].a = a then (noteS (noteAll [f0] (cutS a (l.take k))) l[k]).2 else noteAll [f0] (cutS a (l.take k)) := by
  rw [cutS_snoc hk]
  split
  · rw [noteAll_app]
  · rfl
theorem noteS_ne {Fs : List Fr} (h : Fs ≠ []) (e : EvD) : (noteS Fs e).2 ≠ [] := by
  cases Fs with
  | nil => exact absurd rfl h
  | cons f r =>
    unfold noteS
    split
    · rw [putS]
      repeat' split
      all_goals simp
    · split
      · unfold pushS
        split <;> simp
      · split
        · unfold dropS
          split
          · simp
          · simp
        · split
          · unfold mergeS
            split
            · simp
            · simp
          · simp
theorem noteAll_ne (c : List EvD) : ∀ Fs : List Fr, Fs ≠ [] → noteAll Fs c ≠ [] := by
  induction c with
  | nil => intro Fs h; exact h
  | cons e c ih => intro Fs h; exact ih _ (noteS_ne h e)

/-- What the courses are behind right events. -/
structure RunI (l : List EvD) (n : Nat) (M : CM) (a : Int) : Prop where
  began : seenS l n a 1 = decide (stC M a ≠ 0)
  ended : (seenS l n a 8 || seenS l n a 9) = decide (stC M a = 3 ∨ stC M a = 4)
  one : stC M a = 1 → seenS l n a 7 = false
  two : stC M a = 2 → seenS l n a 7 = true
  zero : stC M a = 0 → (∀ k, seenS l n a k = false) ∧ cutS a (l.take n) = []
  fs : stC M a ≠ 0 → fsC M a = noteAll [f0] (cutS a (l.take n))
  rng : 0 ≤ stC M a ∧ stC M a ≤ 4

theorem run_inv {l : List EvD} : ∀ (n : Nat) {M : CM}, n ≤ l.length → runC M0 (l.take n) = some M → ∀ a, RunI l n M a := by
  intro n
  induction n with
  | zero =>
    intro M hn h a
    simp [runC] at h
    subst h
    refine ⟨rfl, rfl, fun _ => rfl, fun h => absurd h (by simp [stC]), fun _ => ⟨fun k => rfl, rfl⟩, fun h => absurd rfl h, by simp [stC]⟩
  | succ n ih =>
    intro M hn h a
    have hnl : n < l.length := by omega
    obtain ⟨Mi, Mj, h1, h2, h3⟩ := step_at (l := l.take (n + 1)) h n (by simp; omega)
    have hl : (l.take (n + 1)).take n = l.take n := by rw [List.take_take]; congr 1; omega
    have hl2 : (l.take (n + 1)).take (n + 1) = l.take (n + 1) := by rw [List.take_take]; congr 1; omega
    rw [hl] at h1
    rw [hl2, h] at h2
    cases h2
    have he : (l.take (n + 1))[n]'(by simp; omega) = l[n] := by simp
    rw [he] at h3
    obtain ⟨st, Fs, hb, rfl, hpos, _⟩ := step_parts h3
    have I := ih (by omega) h1 a
    have hsn := fun k => seenS_snoc hnl a k
    have hct := cutS_snoc (a := a) hnl
    have hnt := note_cut (a := a) hnl
    by_cases hx : l[n].a = a
    · rw [hx] at hb hsn
      simp only [beq_self_eq_true, Bool.true_and] at hsn
      rw [if_pos hx] at hct hnt
      have e1 : stC (updF Mi l[n].a (st, Fs)) a = st := by rw [hx]; exact stC_upd_same _ _ _
      have e2 : fsC (updF Mi l[n].a (st, Fs)) a = Fs := by rw [hx]; exact fsC_upd_same _ _ _
      obtain ⟨i1, i2, i3, i4, i5, i6, i7⟩ := I
      have hfs : Fs = noteAll [f0] (cutS a (l.take (n + 1))) := by
        rcases behind_forms hb with ⟨k1, s0, s1, rfl⟩ | ⟨k1, k2, s0, s1, rfl⟩ | ⟨k1, s0, s1, rfl⟩ | ⟨k1, s0, s1, rfl⟩ | ⟨k1, s0, s1, rfl⟩
        · rw [hnt, (i5 s0).2, noteS_other _ _ (by omega)]; rfl
        · rw [hnt, ← i6 (by omega)]
        · rw [hnt, ← i6 (by omega), noteS_other _ _ (by omega)]
        · rw [hnt, ← i6 (by omega), noteS_other _ _ (by omega)]
        · rw [hnt, ← i6 (by omega), noteS_other _ _ (by omega)]
      refine ⟨?_, ?_, ?_, ?_, ?_, ?_, ?_⟩
      all_goals rw [e1]
      · rw [hsn, i1]
        rcases behind_forms hb with ⟨k1, s0, rfl, _⟩ | ⟨k1, k2, s0, rfl, _⟩ | ⟨k1, s0, rfl, _⟩ | ⟨k1, s0, rfl, _⟩ | ⟨k1, s0, rfl, _⟩
        · rw [k1]; simp
        · rw [s0]; simp
        · rw [s0]; simp
        · rw [s0]; simp
        · rcases s0 with s0 | s0 <;> rw [s0] <;> simp
      · rw [hsn, hsn]
        have e : ∀ p q r s : Bool, ((p || q) || (r || s)) = ((p || r) || (q || s)) := by decide
        rw [e, i2]
        rcases behind_forms hb with ⟨k1, s0, rfl, _⟩ | ⟨k1, k2, s0, rfl, _⟩ | ⟨k1, s0, rfl, _⟩ | ⟨k1, s0, rfl, _⟩ | ⟨k1, s0, rfl, _⟩
        · rw [k1, s0]; simp
        · have p8 : (l[n].k == 8) = false := by simp; omega
          have p9 : (l[n].k == 9) = false := by simp; omega
          rw [s0, p8, p9]; simp
        · rw [k1, s0]; simp
        · rw [k1, s0]; simp
        · rcases s0 with s0 | s0 <;> rw [k1, s0] <;> simp
      · intro hs
        rw [hsn]
        rcases behind_forms hb with ⟨k1, s0, rfl, _⟩ | ⟨k1, k2, s0, rfl, _⟩ | ⟨k1, s0, rfl, _⟩ | ⟨k1, s0, rfl, _⟩ | ⟨k1, s0, rfl, _⟩
        · rw [k1, (i5 s0).1]; rfl
        · have p7 : (l[n].k == 7) = false := by simp; omega
          rw [i3 s0, p7]; rfl
        · omega
        · omega
        · omega
      · intro hs
        rw [hsn]
        rcases behind_forms hb with ⟨k1, s0, rfl, _⟩ | ⟨k1, k2, s0, rfl, _⟩ | ⟨k1, s0, rfl, _⟩ | ⟨k1, s0, rfl, _⟩ | ⟨k1, s0, rfl, _⟩
        · omega
        · omega
        · rw [k1]; simp
        · omega
        · omega
      · intro hs; omega
      · intro _; rw [e2]; exact hfs
      · rcases behind_forms hb with ⟨k1, s0, rfl, _⟩ | ⟨k1, k2, s0, rfl, _⟩ | ⟨k1, s0, rfl, _⟩ | ⟨k1, s0, rfl, _⟩ | ⟨k1, s0, rfl, _⟩ <;> omega
    · have e1 : stC (updF Mi l[n].a (st, Fs)) a = stC Mi a := stC_upd_other _ _ (fun h => hx h.symm)
      have e2 : fsC (updF Mi l[n].a (st, Fs)) a = fsC Mi a := fsC_upd_other _ _ (fun h => hx h.symm)
      have p : (l[n].a == a) = false := by simpa using hx
      simp only [p, Bool.false_and, Bool.or_false] at hsn
      rw [if_neg hx] at hct
      obtain ⟨i1, i2, i3, i4, i5, i6, i7⟩ := I
      refine ⟨?_, ?_, ?_, ?_, ?_, ?_, ?_⟩
      all_goals rw [e1]
      · rw [hsn]; exact i1
      · rw [hsn, hsn]; exact i2
      · rw [hsn]; exact i3
      · rw [hsn]; exact i4
      · intro hs; exact ⟨fun k => by rw [hsn]; exact (i5 hs).1 k, by rw [hct]; exact (i5 hs).2⟩
      · rw [e2, hct]; exact i6
      · exact i7

def bareS (e : EvD) : Bool := decide (e.t = 0) && decide (e.v = 0)
/-- What 'fits' answers. -/
def fitQ (e : EvD) (b t en : Bool) (Fs : List Fr) : Bool :=
  if 0 ≤ e.a ∧ e.a < 64 then
    if e.k = 1 then bareS e && !b
    else if b = false ∨ en = true then false
    else if e.k = 8 then bareS e && t
    else if e.k = 9 then bareS e
    else if e.k = 2 then !t && (decide (0 ≤ e.t) && decide (e.t < 12) && rightB e.v)
    else if e.k = 3 then !t && decide ((noteS Fs e).1 = 0)
    else if e.k = 4 ∨ e.k = 5 ∨ e.k = 6 then !t && bareS e && decide ((noteS Fs e).1 = 0)
    else if e.k = 7 then !t && bareS e && decide (Fs.length - 1 = 0)
    else false
  else false

theorem named_bare {e : EvD} (h2 : e.k ≠ 2) (h3 : e.k ≠ 3) : namedS e = bareS e := by
  obtain ⟨k, a, t, v⟩ := e
  unfold namedS bareS
  simp only at h2 h3 ⊢
  rw [decide_eq_false h2, decide_eq_false h3]
  by_cases ht : t = 0
  · by_cases hv : v = 0
    · subst ht hv
      have hr0 : rightB 0 = true := by decide
      rw [hr0]
      simp
    · rw [decide_eq_false hv]; simp
  · rw [decide_eq_false ht]; simp
theorem put_named {Fs : List Fr} (h : Fs ≠ []) {t v : Int} (hp : (putS Fs t v).1 = 0) : (decide (0 ≤ t) && decide (t < 12) && rightB v) = true := by
  cases Fs with
  | nil => exact absurd rfl h
  | cons f r =>
    rw [putS] at hp
    split at hp
    · simp at hp
    · rename_i ht
      split at hp
      · simp at hp
      · rename_i hv
        have : 0 ≤ t ∧ t < 12 := Decidable.not_not.1 ht
        simp [this.1, this.2]
        simpa using hv

theorem fit_eq {st : Int} {Fs : List Fr} {e : EvD} {b t en : Bool} (ha : 0 ≤ e.a ∧ e.a < 64) (hst : 0 ≤ st ∧ st ≤ 4) (hb : b = decide (st ≠ 0)) (hen : en = decide (st = 3 ∨ st = 4)) (h1 : st = 1 → t = false) (h2 : st = 2 → t = true) (hF : st ≠ 0 → Fs ≠ []) :
    (behindS st Fs e).isSome = fitQ e b t en Fs := by
  unfold fitQ
  rw [if_pos ha]
  by_cases k1 : e.k = 1
  · rw [if_pos k1]
    unfold behindS
    rw [named_bare (by omega) (by omega), if_pos k1, hb]
    cases bareS e <;> by_cases h0 : st = 0 <;> simp [h0]
  · rw [if_neg k1]
    by_cases h0 : st = 0
    · have : (behindS st Fs e) = none := by
        cases hq : behindS st Fs e with
        | none => rfl
        | some r => rw [h0] at hq; exact absurd (behind_zero hq) k1
      rw [this, if_pos (.inl (by rw [hb, h0]; rfl))]; rfl
    · by_cases h34 : st = 3 ∨ st = 4
      · have : (behindS st Fs e) = none := by
          cases hq : behindS st Fs e with
          | none => rfl
          | some r =>
            obtain ⟨a', b'⟩ := r
            exfalso
            rcases behind_forms hq with ⟨_, s0, _⟩ | ⟨_, _, s0, _⟩ | ⟨_, s0, _⟩ | ⟨_, s0, _⟩ | ⟨_, s0, _⟩ <;> omega
        rw [this, if_pos (.inr (by rw [hen]; simpa using h34))]; rfl
      · rw [if_neg (by rw [hb, hen]; simp only [decide_eq_false_iff_not, decide_eq_true_eq]; rintro (h | h); exact h h0; exact h34 h)]
        have hst12 : st = 1 ∨ st = 2 := by omega
        have hF := hF h0
        have body : ∀ r : Bool, (namedS e = false → r = false) → (namedS e = true → (if e.k = 1 then (if st = 0 then some (1, [f0]) else none) else if 2 ≤ e.k ∧ e.k ≤ 6 then (if st = 1 ∧ (noteS Fs e).1 = 0 then some (1, (noteS Fs e).2) else none) else if e.k = 7 then (if st = 1 ∧ Fs.length - 1 = 0 then some (2, Fs) else none) else if e.k = 8 then (if st = 2 then some (3, Fs) else none) else if e.k = 9 then (if st = 1 ∨ st = 2 then some (4, Fs) else none) else none : Option (Int × List Fr)).isSome = r) → (behindS st Fs e).isSome = r := by
          intro r hf ht
          unfold behindS
          by_cases hN : namedS e = false
          · rw [if_pos hN, hf hN]; rfl
          · rw [if_neg hN]; exact ht (by simpa using hN)
        refine body _ ?_ ?_
        · intro hN
          by_cases k2 : e.k = 2
          · have hnm : namedS e = (decide (0 ≤ e.t) && decide (e.t < 12) && rightB e.v) := by unfold namedS; rw [k2]; simp
            rw [if_neg (show ¬ e.k = 8 by omega), if_neg (show ¬ e.k = 9 by omega), if_pos k2, ← hnm, hN, Bool.and_false]
          · by_cases k3 : e.k = 3
            · have hnm : namedS e = (decide (0 ≤ e.t) && decide (e.t < 12) && rightB e.v) := by unfold namedS; rw [k3]; simp
              have hpn : (noteS Fs e).1 = 0 → (decide (0 ≤ e.t) && decide (e.t < 12) && rightB e.v) = true := by
                unfold noteS
                rw [if_pos k3]
                exact put_named hF
              rw [if_neg (show ¬ e.k = 8 by omega), if_neg (show ¬ e.k = 9 by omega), if_neg k2, if_pos k3]
              have hz : ¬ (noteS Fs e).1 = 0 := fun hz => by have := hpn hz; rw [← hnm, hN] at this; cases this
              rw [decide_eq_false hz, Bool.and_false]
            · have hnb := named_bare k2 k3
              rw [hN] at hnb
              rw [← hnb]
              simp [k2, k3]
        · intro hN
          rw [if_neg k1]
          by_cases k2 : e.k = 2
          · have hnm : namedS e = (decide (0 ≤ e.t) && decide (e.t < 12) && rightB e.v) := by unfold namedS; rw [k2]; simp
            rw [if_pos (show 2 ≤ e.k ∧ e.k ≤ 6 by omega), if_neg (show ¬ e.k = 8 by omega), if_neg (show ¬ e.k = 9 by omega), if_pos k2, ← hnm, hN, noteS_other _ _ (by omega)]
            rcases hst12 with s | s
            · rw [h1 s, s]; simp
            · rw [h2 s, s]; simp
          · by_cases k3 : e.k = 3
            · rw [if_pos (show 2 ≤ e.k ∧ e.k ≤ 6 by omega), if_neg (show ¬ e.k = 8 by omega), if_neg (show ¬ e.k = 9 by omega), if_neg k2, if_pos k3]
              rcases hst12 with s | s
              · rw [h1 s, s]
                by_cases hz : (noteS Fs e).1 = 0 <;> simp [hz]
              · rw [h2 s, s]; simp
            · have hnb := named_bare k2 k3
              rw [hN] at hnb
              rw [← hnb]
              by_cases k456 : e.k = 4 ∨ e.k = 5 ∨ e.k = 6
              · rw [if_pos (show 2 ≤ e.k ∧ e.k ≤ 6 by omega), if_neg (show ¬ e.k = 8 by omega), if_neg (show ¬ e.k = 9 by omega), if_neg k2, if_neg k3, if_pos k456]
                rcases hst12 with s | s
                · rw [h1 s, s]
                  by_cases hz : (noteS Fs e).1 = 0 <;> simp [hz]
                · rw [h2 s, s]; simp
              · rw [if_neg (show ¬ (2 ≤ e.k ∧ e.k ≤ 6) by omega)]
                by_cases k7 : e.k = 7
                · rw [if_pos k7, if_neg (show ¬ e.k = 8 by omega), if_neg (show ¬ e.k = 9 by omega), if_neg k2, if_neg k3, if_neg k456, if_pos k7]
                  rcases hst12 with s | s
                  · rw [h1 s, s]
                    by_cases hz : Fs.length - 1 = 0 <;> simp [hz]
                  · rw [h2 s, s]; simp
                · rw [if_neg k7]
                  by_cases k8 : e.k = 8
                  · rw [if_pos k8, if_pos k8]
                    rcases hst12 with s | s
                    · rw [h1 s, s]; simp
                    · rw [h2 s, s]; simp
                  · rw [if_neg k8]
                    by_cases k9 : e.k = 9
                    · rw [if_pos k9, if_neg k8, if_pos k9]
                      rcases hst12 with s | s <;> rw [s] <;> simp
                    · simp [k9, k8, k2, k3, k456, k7]

def fitsS (l : List EvD) (i : Nat) (e : EvD) : Bool := fitQ e (seenS l i e.a 1) (seenS l i e.a 7) (seenS l i e.a 8 || seenS l i e.a 9) (noteAll [f0] (cutS e.a (l.take i)))

/-- An event fits just where the courses go on. -/
theorem fits_step {l : List EvD} {i : Nat} (hi : i < l.length) {M : CM} (h : runC M0 (l.take i) = some M) (e : EvD) : (stepC M e).isSome = fitsS l i e := by
  have I := run_inv i (by omega) h e.a
  unfold stepC
  by_cases ha : 0 ≤ e.a ∧ e.a < 64
  · rw [if_pos ha, Option.isSome_map]
    have hne : noteAll [f0] (cutS e.a (l.take i)) ≠ [] := noteAll_ne _ _ (by simp)
    by_cases h0 : stC M e.a = 0
    · unfold fitsS
      rw [fit_eq (b := seenS l i e.a 1) (t := seenS l i e.a 7) (en := (seenS l i e.a 8 || seenS l i e.a 9)) ha I.rng I.began I.ended I.one I.two (fun h => absurd h0 h)]
      unfold fitQ
      have hbf : seenS l i e.a 1 = false := (I.zero h0).1 1
      rw [if_pos ha, if_pos ha]
      by_cases k1 : e.k = 1
      · rw [if_pos k1, if_pos k1]
      · rw [if_neg k1, if_neg k1, if_pos (.inl hbf), if_pos (.inl hbf)]
    · rw [← I.fs h0] at hne
      unfold fitsS
      rw [← I.fs h0]
      exact fit_eq ha I.rng I.began I.ended I.one I.two (fun _ => hne)
  · rw [if_neg ha]
    unfold fitsS fitQ
    rw [if_neg ha]
    rfl

end Go.Proofs.YtmiaibpdeofokaaDoor
