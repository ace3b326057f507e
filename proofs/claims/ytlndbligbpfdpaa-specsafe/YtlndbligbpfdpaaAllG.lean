/-
  HOW DEEP THE STACK IS: what Depths tells, and where a program that may be run stands. Plain data.
-/
import Derived.Test.YtlndbligbpfdpaaSkPln
import Derived.Test.YtlndbligbpfdpaaAllC
import Derived.Test.YtlndbligbpfdpaaAllF
namespace Go.Proofs.Ytlndbligbpfdpaa
set_option linter.unusedVariables false
set_option linter.unusedSimpArgs false
open Go.RowKit

theorem least_no {D : List Int} {G : List Bool} {N : Nat} (h : leastV D G N = none) {j : Nat} (hj : j < N) (hd : dAt D j ≠ -1) : G.getD j false = true := by
  unfold leastV at h
  rw [List.find?_eq_none] at h
  have := h j (by simpa using hj)
  cases hg : G.getD j false with
  | true => rfl
  | false => rw [hg] at this; simp [hd] at this
theorem least_hit {D : List Int} {G : List Bool} {N i : Nat} (h : leastV D G N = some i) : i < N ∧ dAt D i ≠ -1 ∧ G.getD i false = false := by
  unfold leastV at h
  have h1 := List.find?_some h
  have h2 := List.mem_of_find?_eq_some h
  simp only [List.mem_range] at h2
  simp only [Bool.and_eq_true, decide_eq_true_eq, Bool.not_eq_true'] at h1
  exact ⟨h2, h1.1, h1.2⟩
theorem rounds_settled (l : List InsD) : ∀ (n : Nat) (D : List Int) (G : List Bool), D.length = l.length → G.length = l.length → G.count false ≤ n → (∀ j < l.length, G.getD j false = true → Settled l D j) → (roundsV l n D G).1 = 0 →
    (∀ j < l.length, dAt (roundsV l n D G).2.2 j ≠ -1 → Settled l (roundsV l n D G).2.2 j) ∧ (∀ j, dAt D j ≠ -1 → dAt (roundsV l n D G).2.2 j = dAt D j) ∧ (roundsV l n D G).2.2.length = l.length
  | 0, D, G, hD, hG, hc, hs, h0 => by
    refine ⟨fun j hj hd => hs j hj ?_, fun j hj => rfl, hD⟩
    cases hg : G.getD j false with
    | true => rfl
    | false =>
      have hjl : j < G.length := by omega
      have : false ∈ G := by
        have : G[j] = false := by simpa [List.getD_eq_getElem?_getD, hjl] using hg
        rw [← this]; exact List.getElem_mem hjl
      have := List.count_pos_iff.2 this
      omega
  | n + 1, D, G, hD, hG, hc, hs, h0 => by
    cases hl : leastV D G l.length with
    | none =>
      have e : roundsV l (n + 1) D G = (0, 0, D) := by
        conv => lhs; unfold roundsV
        rw [hl]
      rw [e]
      exact ⟨fun j hj hd => hs j hj (least_no hl hj hd), fun _ _ => rfl, hD⟩
    | some i =>
      obtain ⟨hi, hdi, hgi⟩ := least_hit hl
      rw [rounds_some hl] at h0 ⊢
      by_cases he : (sprV l D i).1 ≠ 0
      · rw [if_pos he] at h0; exact absurd h0 he
      · rw [if_neg he] at h0 ⊢
        have he : (sprV l D i).1 = 0 := by simpa using he
        obtain ⟨e, hst, _, _⟩ := spr_settled hD hdi (D' := (sprV l D i).2.1) (m := (sprV l D i).2.2) (by rw [← he])
        have hc2 := count_set (by rw [hG]; exact hi) hgi
        obtain ⟨a1, a2, a3⟩ := rounds_settled l n (sprV l D i).2.1 (G.set i true) (e.len.trans hD) (by simpa using hG) (by omega) (fun j hj hgj => by
          by_cases hji : j = i
          · subst hji; exact hst
          · rw [List.getD_eq_getElem?_getD, List.getElem?_set_ne (fun q => hji q.symm), ← List.getD_eq_getElem?_getD] at hgj
            exact (hs j hj hgj).ext e) h0
        refine ⟨a1, fun j hj => ?_, a3⟩
        rw [a2 j (by rw [e.old j hj]; exact hj), e.old j hj]

/-- What Depths tells, if nothing is wrong. -/
structure DepOk (l : List InsD) (d : List Int) : Prop where
  len : d.length = l.length
  set_ : ∀ j < l.length, dAt d j ≠ -1 → Settled l d j
  zero : 0 < l.length → dAt d 0 = 0
theorem dep_ok {l : List InsD} (h : (depV l).1 = 0) : DepOk l (depV l).2.2 := by
  unfold depV at h ⊢
  split
  · rename_i k e; rw [e] at h; simp at h
  · rename_i e
    rw [e] at h
    simp only at h
    have hb := begin_inv l
    have h0 : 0 < l.length → dAt (beginD l.length) 0 = 0 := fun h => by
      unfold dAt beginD
      cases hl : l.length with
      | zero => omega
      | succ n => rfl
    obtain ⟨a1, a2, a3⟩ := rounds_settled l l.length _ _ hb.dl hb.gl (by rw [List.count_replicate_self]; exact Nat.le_refl _) hb.set_ h
    exact ⟨a3, a1, fun hl => by rw [a2 0 (by rw [h0 hl]; decide), h0 hl]⟩
/-- What Check tells, if nothing is wrong. -/
structure ChkOk (l : List InsD) (t : Int) : Prop where
  n0 : 0 < l.length
  n1 : l.length ≤ 64
  right : ∀ i ∈ l, rightI i = true
  reg : regV l = none
  bel : ∀ k < l.length, okBel l k = true
  rch : ∀ k < l.length, rchV l (insV l l.length) t k = true
  dep : (depV l).1 = 0
theorem fbad_not {p : Nat → Bool} {N : Nat} (h : fbad p N = none) {k : Nat} (hk : k < N) : p k = true := by
  unfold fbad at h
  rw [List.find?_eq_none] at h
  have := h k (by simpa using hk)
  cases hp : p k with
  | true => rfl
  | false => rw [hp] at this; simp at this
theorem chk_ok {l : List InsD} {t : Int} (h : (chkV l t).2 = 0) : ChkOk l t := by
  unfold chkV at h
  split at h
  · simp at h
  rename_i hl
  split at h
  · simp at h
  rename_i h1
  split at h
  · simp at h
  rename_i h2
  split at h
  · simp at h
  rename_i h3
  split at h
  · simp at h
  rename_i h4
  refine ⟨by omega, by omega, fun i hi => ?_, h2, fun k hk => fbad_not h3 hk, fun k hk => fbad_not h4 hk, h⟩
  obtain ⟨k, hk, rfl⟩ := List.getElem_of_mem hi
  have := fbad_not h1 hk
  unfold okRight at this
  rw [List.getElem?_eq_getElem hk] at this
  exact this

/-- A plain instruction pushes as many as its Effect tells. -/
theorem push_count (D : WD) (i : InsD) (pp : List Int) (h : plainO i.op = true) : ((pushW D i pp).length : Int) = pushV i.op := by
  unfold plainO at h
  simp only [Bool.not_eq_true', decide_eq_false_iff_not, not_or] at h
  unfold pushW pushV
  generalize i.op = o at *
  by_cases h1 : o = 1
  · subst h1; rfl
  by_cases h2 : o = 2
  · subst h2; rfl
  by_cases h3 : o = 16
  · subst h3; rfl
  by_cases h4 : o = 18
  · subst h4; rfl
  by_cases h5 : o = 12
  · subst h5; rfl
  by_cases h6 : o = 15
  · subst h6; rfl
  by_cases h7 : o = 8 ∨ o = 9 ∨ o = 10 ∨ o = 11 ∨ o = 13 ∨ o = 14
  · rw [if_neg h1, if_neg h2, if_neg h3, if_neg h4, if_neg h5, if_neg h6, if_pos h7, if_pos (by omega)]; rfl
  · rw [if_neg h1, if_neg h2, if_neg h3, if_neg h4, if_neg h5, if_neg h6, if_neg h7, if_neg (by omega), if_neg (by omega)]; rfl
theorem setL_st (D : WD) (a x : Int) : (D.setL a x).st = D.st ∧ (D.setL a x).pc = D.pc ∧ (D.setL a x).out = D.out ∧ (D.setL a x).fuel = D.fuel := by
  unfold WD.setL
  split
  · exact ⟨rfl, rfl, rfl, rfl⟩
  split
  · exact ⟨rfl, rfl, rfl, rfl⟩
  split
  · exact ⟨rfl, rfl, rfl, rfl⟩
  · exact ⟨rfl, rfl, rfl, rfl⟩
theorem len_int {n k m : Nat} {p q : Int} (hp : p = (k : Int)) (hk : k ≤ n) (hq : (m : Int) = q) (l r : List Int) (hl : l.length = n) (hr : r.length = m) : ((l.take (n - k) ++ r).length : Int) = (n : Int) - p + q := by
  rw [List.length_append, List.length_take, hl, hr]; omega

/-- Where a step goes, and how deep the stack is then. -/
theorem stepW_goes {l : List InsD} {D : WD} (h0 : (stepW l D).1 = 0) :
    0 ≤ D.pc ∧ D.pc < l.length ∧ (stepW l D).2.pc ∈ nextV l D.pc.toNat ∧ ((stepW l D).2.st.length : Int) = (D.st.length : Int) - popV (opAt l D.pc.toNat) + pushV (opAt l D.pc.toNat) := by
  unfold stepW at h0 ⊢
  split at h0
  · simp at h0
  rename_i hp
  rw [if_neg hp]
  split at h0
  · simp at h0
  rename_i hr
  rw [if_neg hr]
  split at h0
  · simp at h0
  rename_i hpo
  rw [if_neg hpo]
  split at h0
  · simp at h0
  rename_i hf
  rw [if_neg hf]
  have hpl : 0 ≤ D.pc ∧ D.pc < l.length := by
    unfold placeP at hp
    simp only [Bool.not_eq_false, Bool.and_eq_true, decide_eq_true_eq] at hp
    exact hp
  refine ⟨hpl.1, hpl.2, ?_⟩
  obtain ⟨k, hk⟩ := Int.eq_ofNat_of_zero_le hpl.1
  have hkl : k < l.length := by omega
  have hgd : l.getD D.pc.toNat ⟨0, 0, 0⟩ = l[k] := by rw [hk, Int.toNat_natCast, List.getD, List.getElem?_eq_getElem hkl]; rfl
  rw [hgd] at h0 hf hpo ⊢
  have hop : opAt l D.pc.toNat = l[k].op := by rw [hk, Int.toNat_natCast]; exact opAt_get hkl
  have harg : argAt l D.pc.toNat = l[k].arg := by rw [hk, Int.toNat_natCast]; exact argAt_get hkl
  have hpo' : plainO l[k].op = true := by simpa using hpo
  have hpc : ((D.pc.toNat : Nat) : Int) = D.pc := by omega
  have hpn := hpo'
  unfold plainO at hpn
  simp only [Bool.not_eq_true', decide_eq_false_iff_not, not_or] at hpn
  have hf' : fitsW l[k].op D.st.length = true := by simpa using hf
  unfold fitsW at hf'
  simp only [Bool.and_eq_true, decide_eq_true_eq] at hf'
  have hN : nextV l D.pc.toNat = if l[k].op = 19 then [l[k].arg] else if l[k].op = 20 then [D.pc + 1, l[k].arg] else if l[k].op = 23 then [D.pc + 1, l[k].arg + 1] else if l[k].op = 24 then [l[k].arg + 1] else if l[k].op = 26 ∨ l[k].op = 28 then [] else [D.pc + 1] := by unfold nextV; rw [hop, harg, hpc]
  rw [hop]
  generalize nextV l D.pc.toNat = N at *
  generalize l[k] = i at *
  unfold doW at h0 ⊢
  have pl := pop_le i.op
  split
  · rename_i h27
    rw [if_pos h27] at h0
    split
    · refine ⟨by rw [hN, if_neg (by omega), if_neg (by omega), if_neg (by omega), if_neg (by omega), if_neg (by omega)]; simp, ?_⟩
      rw [h27] at hf' ⊢
      exact len_int (k := 1) (m := 0) rfl (by have := hf'.1; have : popV 27 = 1 := rfl; omega) rfl _ _ rfl rfl
    · rename_i q; rw [if_neg q] at h0; simp at h0
  rename_i h27
  rw [if_neg h27] at h0
  split
  · rename_i h3
    refine ⟨by rw [hN, if_neg (by omega), if_neg (by omega), if_neg (by omega), if_neg (by omega), if_neg (by omega)]; simp, ?_⟩
    rw [h3] at hf' ⊢
    exact len_int (k := 1) (m := 0) rfl (by have := hf'.1; have : popV 3 = 1 := rfl; omega) rfl _ _ rfl rfl
  rename_i h3
  rw [if_neg h3] at h0
  split
  · rename_i h19
    rw [if_pos h19] at h0
    split
    · refine ⟨by rw [hN, if_pos h19]; simp, ?_⟩
      rw [h19] at hf' ⊢
      exact len_int (k := 0) (m := 0) rfl (by omega) rfl _ _ rfl rfl
    · rename_i q; rw [if_neg q] at h0; simp at h0
  rename_i h19
  rw [if_neg h19] at h0
  split
  · rename_i h20
    rw [if_pos h20] at h0
    have hst : ∀ x : Int, ((D.st.take (D.st.length - 1) ++ ([] : List Int)).length : Int) = (D.st.length : Int) - popV 20 + pushV 20 := fun _ =>
      len_int (k := 1) (m := 0) rfl (by rw [h20] at hf'; have := hf'.1; have : popV 20 = 1 := rfl; omega) rfl _ _ rfl rfl
    split
    · refine ⟨by rw [hN, if_neg h19, if_pos h20]; simp, ?_⟩
      rw [h20]; exact hst 0
    · rename_i q
      rw [if_neg q] at h0
      split
      · refine ⟨by rw [hN, if_neg h19, if_pos h20]; simp, ?_⟩
        rw [h20]; exact hst 0
      · rename_i q2; rw [if_neg q2] at h0; simp at h0
  rename_i h20
  refine ⟨by rw [hN, if_neg h19, if_neg h20, if_neg (by omega), if_neg (by omega), if_neg (by omega)]; simp, ?_⟩
  exact len_int (k := (popV i.op).toNat) (m := (pushV i.op).toNat) (by omega) (by omega) (by have := push_le i.op; omega) _ _ rfl (by have := push_count D i (D.st.drop (D.st.length - (popV i.op).toNat)) hpo'; omega)

/-- Where it stands: at a place, the stack as deep as is told. -/
def AtD (l : List InsD) (d : List Int) (D : WD) : Prop := 0 ≤ D.pc ∧ D.pc < l.length ∧ dAt d D.pc.toNat = (D.st.length : Int)
theorem AtD.step {l : List InsD} {d : List Int} (hd : DepOk l d) {D : WD} (h : AtD l d D) (h0 : (stepW l D).1 = 0) : AtD l d (stepW l D).2 := by
  obtain ⟨h1, h2, h3⟩ := h
  obtain ⟨_, _, g1, g2⟩ := stepW_goes h0
  have hs := hd.set_ D.pc.toNat (by omega) (by rw [h3]; omega)
  obtain ⟨n1, n2, n3⟩ := hs.nxt _ g1
  refine ⟨n1, n2, ?_⟩
  rw [n3, g2]
  unfold behV
  rw [h3]
theorem AtD.pln {l : List InsD} {d : List Int} (hd : DepOk l d) : ∀ (n : Nat) {D : WD}, AtD l d D → AtD l d (plnN l n D).2
  | 0, D, h => by
    unfold plnN
    split
    · exact h
    · split
      · exact h
      · exact h
  | n + 1, D, h => by
    unfold plnN
    split
    · exact h
    · split
      · exact h
      · split
        · rename_i h0
          exact AtD.pln hd n (AtD.step hd (D := { D with fuel := D.fuel - 1 }) h h0)
        · exact h
theorem AtD.start {l : List InsD} {d : List Int} (hd : DepOk l d) (hl : 0 < l.length) (f : Int) (a b c e : Int) : AtD l d ⟨0, [], a, b, c, e, [], f⟩ := ⟨Int.le_refl 0, by show (0 : Int) < _; omega, hd.zero hl⟩

end Go.Proofs.Ytlndbligbpfdpaa
/-
  A PROGRAM THAT MAY BE RUN IS STUCK BY FUEL, BY WHAT IT PUTS OUT, OR BY AN INDEX ALONE: plain data.
-/
namespace Go.Proofs.Ytlndbligbpfdpaa
set_option linter.unusedVariables false
set_option linter.unusedSimpArgs false
open Go.RowKit

/-- What is open ahead of a place. -/
abbrev opS (l : List InsD) (k : Nat) : List Nat := (runV true mayV l k).op
theorem wr_stay {l : List InsD} {k : Nat} (h : (runV true mayV l (k + 1)).wr = none) : (runV true mayV l k).wr = none := by
  refine Classical.byContradiction fun hw => ?_
  have h1 : (step1V true l k (runV true mayV l k)).wr ≠ none := by
    unfold step1V
    split
    · unfold shutV
      split
      · exact blame_some _ _
      · split
        · show (if _ then _ else _) ≠ none
          split
          · exact blame_some _ _
          · exact hw
        · exact blame_some _ _
    · exact hw
  unfold runV stepV at h
  split at h
  · unfold beginV at h
    simp only at h
    split at h
    · exact h1 h
    · exact blame_some _ _ h
  · exact h1 h
theorem wr_none {l : List InsD} (h : regV l = none) : (∀ n k, k + n = l.length → (runV true mayV l k).wr = none) ∧ opS l l.length = [] := by
  unfold regV endV at h
  split at h
  · cases h
  · rename_i hw
    have hop : opS l l.length = [] := by
      cases e : opS l l.length with
      | nil => rfl
      | cons a r => simp only [opS] at e; rw [e] at h; simp at h
    refine ⟨fun n => ?_, hop⟩
    induction n with
    | zero => intro k hk; obtain rfl : k = l.length := by omega
              exact hw
    | succ n ih => intro k hk; exact wr_stay (ih (k + 1) (by omega))
/-- What becomes of what is open, at a place. -/
def Stp (l : List InsD) (k : Nat) (S S' : List Nat) : Prop := ∃ r1, ((closesV (opAt l k) = true ∧ ∃ t, S = t :: r1 ∧ closerV (opAt l t) = opAt l k ∧ argAt l t = (k : Int)) ∨ (closesV (opAt l k) = false ∧ r1 = S)) ∧ ((opensV (opAt l k) = true ∧ S' = k :: r1 ∧ mayV (opAt l k) r1 = true) ∨ (opensV (opAt l k) = false ∧ S' = r1))
theorem stp_of {l : List InsD} {k : Nat} (h : (runV true mayV l (k + 1)).wr = none) : Stp l k (opS l k) (opS l (k + 1)) := by
  have h1 : (step1V true l k (runV true mayV l k)).wr = none ∧ ((opensV (opAt l k) = true ∧ opS l (k + 1) = k :: (step1V true l k (runV true mayV l k)).op ∧ mayV (opAt l k) (step1V true l k (runV true mayV l k)).op = true) ∨ (opensV (opAt l k) = false ∧ opS l (k + 1) = (step1V true l k (runV true mayV l k)).op)) := by
    have e : runV true mayV l (k + 1) = stepV true mayV l k (runV true mayV l k) := rfl
    unfold opS
    rw [e] at h ⊢
    unfold stepV at h ⊢
    split at h
    · rename_i ho
      rw [if_pos ho]
      unfold beginV at h ⊢
      simp only at h ⊢
      split at h
      · rename_i hm; exact ⟨h, .inl ⟨ho, (by first | rfl | trivial), hm⟩⟩
      · exact absurd h (blame_some _ _)
    · rename_i ho
      rw [if_neg ho]
      exact ⟨h, .inr ⟨by simpa using ho, rfl⟩⟩
  obtain ⟨hw, hrest⟩ := h1
  refine ⟨_, ?_, hrest⟩
  unfold step1V at hw ⊢
  split at hw
  · rename_i hc
    rw [if_pos hc]
    left
    refine ⟨hc, ?_⟩
    unfold shutV at hw ⊢
    cases e : (runV true mayV l k).op with
    | nil => rw [e] at hw; exact absurd hw (blame_some _ _)
    | cons t r =>
      rw [e] at hw
      simp only at hw ⊢
      split at hw
      · rename_i hcl
        rw [if_pos hcl]
        simp only at hw
        split at hw
        · exact absurd hw (blame_some _ _)
        · rename_i ha
          refine ⟨t, e, hcl, ?_⟩
          exact Classical.byContradiction fun hne => ha ⟨trivial, hne⟩
      · exact absurd hw (blame_some _ _)
  · rename_i hc
    rw [if_neg hc]
    exact .inr ⟨by simpa using hc, rfl⟩

theorem stp_at {l : List InsD} (hreg : regV l = none) {k : Nat} (hk : k < l.length) : Stp l k (opS l k) (opS l (k + 1)) := stp_of ((wr_none hreg).1 (l.length - (k + 1)) (k + 1) (by omega))
/-- What stands below one that is open. -/
theorem below {l : List InsD} (hreg : regV l = none) : ∀ (k : Nat), k ≤ l.length → ∀ (s1 : List Nat) (t : Nat) (r : List Nat), opS l k = s1 ++ t :: r → r = (opS l (t + 1)).tail := by
  intro k
  induction k with
  | zero => intro _ s1 t r h; have : opS l 0 = [] := rfl; rw [this] at h; simp at h
  | succ k ih =>
    intro hk s1 t r h
    obtain ⟨r1, h1, h2⟩ := stp_at hreg (k := k) (by omega)
    have sub : ∀ s1, r1 = s1 ++ t :: r → r = (opS l (t + 1)).tail := by
      intro s1 e
      rcases h1 with ⟨_, t0, e0, _⟩ | ⟨_, e0⟩
      · exact ih (by omega) (t0 :: s1) t r (by rw [e0, e]; rfl)
      · exact ih (by omega) s1 t r (by rw [← e0, e])
    rcases h2 with ⟨_, e2, _⟩ | ⟨_, e2⟩
    · rw [e2] at h
      cases s1 with
      | nil =>
        simp only [List.nil_append, List.cons.injEq] at h
        obtain ⟨rfl, rfl⟩ := h
        rw [e2]; rfl
      | cons a s1 =>
        simp only [List.cons_append, List.cons.injEq] at h
        exact sub s1 h.2
    · rw [e2] at h; exact sub s1 h
/-- Where what is open is closed. -/
theorem closed {l : List InsD} (hreg : regV l = none) : ∀ (n k : Nat), k + n = l.length → ∀ t ∈ opS l k, ∃ q : Nat, k ≤ q ∧ q < l.length ∧ argAt l t = (q : Int) ∧ opS l q = t :: (opS l (t + 1)).tail ∧ closerV (opAt l t) = opAt l q ∧ closesV (opAt l q) = true := by
  intro n
  induction n with
  | zero => intro k hk t ht; obtain rfl : k = l.length := by omega
            rw [(wr_none hreg).2] at ht; simp at ht
  | succ n ih =>
    intro k hk t ht
    obtain ⟨r1, h1, h2⟩ := stp_at hreg (k := k) (by omega)
    have sub : t ∈ r1 → ∃ q : Nat, k ≤ q ∧ q < l.length ∧ argAt l t = (q : Int) ∧ opS l q = t :: (opS l (t + 1)).tail ∧ closerV (opAt l t) = opAt l q ∧ closesV (opAt l q) = true := by
      intro hr
      have : t ∈ opS l (k + 1) := by
        rcases h2 with ⟨_, e2, _⟩ | ⟨_, e2⟩
        · rw [e2]; simp [hr]
        · rw [e2]; exact hr
      obtain ⟨q, q1, rest⟩ := ih (k + 1) (by omega) t this
      exact ⟨q, by omega, rest⟩
    rcases h1 with ⟨hc, t0, e0, h3, h4⟩ | ⟨_, e0⟩
    · rw [e0] at ht
      rcases List.mem_cons.1 ht with rfl | ht
      · refine ⟨k, Nat.le_refl _, by omega, h4, ?_, h3, hc⟩
        rw [e0, below hreg k (by omega) [] t r1 (by rw [e0]; rfl)]
      · exact sub ht
    · exact sub (by rw [e0]; exact ht)
/-- The same innermost one: the same are open. -/
theorem same_top {l : List InsD} (hreg : regV l = none) {j k : Nat} (hj : j ≤ l.length) (hk : k ≤ l.length) (h : topV (opS l j) = topV (opS l k)) : opS l j = opS l k := by
  cases ej : opS l j with
  | nil =>
    cases ek : opS l k with
    | nil => rfl
    | cons b s => rw [ej, ek] at h; simp [topV] at h
  | cons a r =>
    cases ek : opS l k with
    | nil => rw [ej, ek] at h; simp [topV] at h
    | cons b s =>
      rw [ej, ek] at h
      simp only [topV] at h
      obtain rfl : a = b := by omega
      rw [below hreg j hj [] a r (by rw [ej]; rfl), below hreg k hk [] a s (by rw [ek]; rfl)]

/-- The marks are the left arms that are open. -/
def MkOk (l : List InsD) (d : List Int) : List MkD → List Nat → Prop
  | ms, [] => ms = []
  | ms, t :: r => (opAt l t = 23 ∧ ∃ m ms', ms = m :: ms' ∧ m.e = argAt l t ∧ (m.D.st.length : Int) = dAt d t ∧ t < l.length ∧ MkOk l d ms' r) ∨ (opAt l t ≠ 23 ∧ MkOk l d ms r)
/-- Within a block. -/
structure BInv (l : List InsD) (d : List Int) (X : BX) : Prop where
  at' : AtD l d X.D
  op : opS l X.D.pc.toNat ≠ []
  mks : MkOk l d X.ms.reverse (opS l X.D.pc.toNat)
/-- The innermost mark, and where it goes on. -/
theorem mk_last {l : List InsD} (hreg : regV l = none) {d : List Int} : ∀ (S : List Nat) (ms : List MkD) (m : MkD) (rest : List MkD), ms = m :: rest → MkOk l d ms S → (∃ k s0, k ≤ l.length ∧ opS l k = s0 ++ S) → ∃ t r s1, S = s1 ++ t :: r ∧ opAt l t = 23 ∧ m.e = argAt l t ∧ (m.D.st.length : Int) = dAt d t ∧ t < l.length ∧ MkOk l d rest r
  | [], ms, m, rest, e, h, _ => by rw [e] at h; simp [MkOk] at h
  | t :: r, ms, m, rest, e, h, ⟨k, s0, hk, hs⟩ => by
    simp only [MkOk] at h
    rcases h with ⟨h23, m', ms', e', h1, h2, h3, h4⟩ | ⟨_, h4⟩
    · rw [e] at e'
      simp only [List.cons.injEq] at e'
      obtain ⟨rfl, rfl⟩ := e'
      exact ⟨t, r, [], rfl, h23, h1, h2, h3, h4⟩
    · obtain ⟨t', r', s1, q1, q2⟩ := mk_last hreg r ms m rest e h4 ⟨k, s0 ++ [t], hk, by rw [hs]; simp⟩
      exact ⟨t', r', t :: s1, by rw [q1]; rfl, q2⟩

theorem settled_at {l : List InsD} {d : List Int} (hd : DepOk l d) {D : WD} (h : AtD l d D) : Settled l d D.pc.toNat := hd.set_ _ (by have := h.1; have := h.2.1; omega) (by rw [h.2.2]; omega)
theorem fits_at {l : List InsD} {d : List Int} (hd : DepOk l d) {D : WD} (h : AtD l d D) : fitsW (opAt l D.pc.toNat) D.st.length = true := by
  have s := settled_at hd h
  have h1 := s.pop
  have h2 := s.top
  unfold behV at h2
  rw [h.2.2] at h1 h2
  unfold fitsW
  simp only [Bool.and_eq_true, decide_eq_true_eq]
  omega
theorem here_at {l : List InsD} {t : Int} (ok : ChkOk l t) {d : List Int} {D : WD} (h : AtD l d D) : ∃ i, hereP l D.pc = some i ∧ i.op = opAt l D.pc.toNat ∧ i.arg = argAt l D.pc.toNat ∧ rightI i = true ∧ placeP D.pc l.length = true ∧ l.getD D.pc.toNat ⟨0, 0, 0⟩ = i := by
  have hk : D.pc.toNat < l.length := by have := h.1; have := h.2.1; omega
  have hg : l.getD D.pc.toNat ⟨0, 0, 0⟩ = l[D.pc.toNat] := by rw [List.getD_eq_getElem?_getD, List.getElem?_eq_getElem hk]; rfl
  have hp : placeP D.pc l.length = true := by
    unfold placeP
    simp only [Bool.and_eq_true, decide_eq_true_eq]
    exact ⟨h.1, h.2.1⟩
  have hr := ok.right _ (List.getElem_mem hk)
  refine ⟨l[D.pc.toNat], ?_, (opAt_get hk).symm, (argAt_get hk).symm, hr, hp, hg⟩
  unfold hereP
  rw [if_pos hp, hg, if_pos hr]
/-- A plain instruction: no error but what is put out, or a place; what is open stays. -/
theorem step_safe {l : List InsD} {t : Int} (ok : ChkOk l t) {d : List Int} (hd : DepOk l d) {D : WD} (h : AtD l d D) (hpl : plainO (opAt l D.pc.toNat) = true) : (stepW l D).1 = 2 ∨ (stepW l D).1 = 4 ∨ ((stepW l D).1 = 0 ∧ AtD l d (stepW l D).2 ∧ opS l (stepW l D).2.pc.toNat = opS l D.pc.toNat) := by
  obtain ⟨i, _, ho, ha, hr, hp, hg⟩ := here_at ok h
  have hf := fits_at hd h
  have herr : (stepW l D).1 = 0 ∨ (stepW l D).1 = 2 ∨ (stepW l D).1 = 4 := by
    unfold stepW
    rw [if_neg (by rw [hp]; simp), hg, if_neg (by rw [hr]; simp), ho, if_neg (by rw [hpl]; simp), if_neg (by rw [hf]; simp)]
    unfold doW
    split
    · split
      · exact .inl rfl
      · exact .inr (.inr rfl)
    split
    · exact .inl rfl
    split
    · split
      · exact .inl rfl
      · exact .inr (.inl rfl)
    split
    · split
      · exact .inl rfl
      · split
        · exact .inl rfl
        · exact .inr (.inl rfl)
    · exact .inl rfl
  rcases herr with h0 | h0 | h0
  · right; right
    have hat := AtD.step hd h h0
    refine ⟨h0, hat, ?_⟩
    obtain ⟨_, _, g1, _⟩ := stepW_goes h0
    generalize (stepW l D).2 = D' at *
    have hk : D.pc.toNat < l.length := by have := h.1; have := h.2.1; omega
    have hpc : ((D.pc.toNat : Nat) : Int) = D.pc := by have := h.1; omega
    have hnc : closesV (opAt l D.pc.toNat) = false ∧ opensV (opAt l D.pc.toNat) = false := by
      unfold plainO at hpl
      simp only [Bool.not_eq_true', decide_eq_false_iff_not, not_or] at hpl
      unfold closesV opensV
      simp only [decide_eq_false_iff_not]
      omega
    have hnext : opS l (D.pc.toNat + 1) = opS l D.pc.toNat := by
      obtain ⟨r1, h1, h2⟩ := stp_at ok.reg hk
      rcases h1 with ⟨c, _⟩ | ⟨_, e1⟩
      · rw [hnc.1] at c; cases c
      · rcases h2 with ⟨c, _⟩ | ⟨_, e2⟩
        · rw [hnc.2] at c; cases c
        · rw [e2, e1]
    have hjump : (opAt l D.pc.toNat = 19 ∨ opAt l D.pc.toNat = 20) → ∀ q : Int, q = argAt l D.pc.toNat → opS l q.toNat = opS l D.pc.toNat := by
      intro h19 q hq
      have hrc := ok.rch _ hk
      unfold rchV at hrc
      rw [if_neg (by unfold varV; simp only [decide_eq_true_eq]; omega), if_pos h19] at hrc
      simp only [Bool.and_eq_true, decide_eq_true_eq, beq_iff_eq] at hrc
      obtain ⟨⟨a0, a1⟩, a2⟩ := hrc
      rw [← hq] at a0 a1 a2
      have e1 : ∀ j, j < l.length → (insV l l.length).getD j 0 = topV (opS l j) := fun j hj => by
        unfold insV
        rw [List.getD_eq_getElem?_getD, List.getElem?_map, List.getElem?_range hj]; rfl
      rw [e1 _ (by omega), e1 _ hk] at a2
      exact same_top ok.reg (by omega) (by omega) a2
    unfold nextV at g1
    rw [hpc] at g1
    split at g1
    · rename_i h19
      simp only [List.mem_singleton] at g1
      exact hjump (.inl h19) _ g1
    split at g1
    · rename_i h20
      simp only [List.mem_cons, List.not_mem_nil, or_false] at g1
      rcases g1 with g1 | g1
      · rw [g1, show (D.pc + 1).toNat = D.pc.toNat + 1 by omega]; exact hnext
      · exact hjump (.inr h20) _ g1
    split at g1
    · rename_i h23; rw [h23] at hnc; exact absurd hnc.2 (by decide)
    split at g1
    · rename_i h24; rw [h24] at hnc; exact absurd hnc.2 (by decide)
    split at g1
    · simp at g1
    · simp only [List.mem_singleton] at g1
      rw [g1, show (D.pc + 1).toNat = D.pc.toNat + 1 by omega]; exact hnext
  · exact .inl h0
  · exact .inr (.inl h0)

/-- Arms stand within something. -/
theorem arm_in {l : List InsD} (hreg : regV l = none) {k t : Nat} {r s1 : List Nat} (hk : k ≤ l.length) (h : opS l k = s1 ++ t :: r) (ht : opAt l t = 23) : r ≠ [] := by
  intro c
  have htl : t < k := run_lt k t (by show t ∈ opS l k; rw [h]; simp)
  obtain ⟨r2, g1, g2⟩ := stp_at hreg (k := t) (by omega)
  have hb := below hreg k hk s1 t r h
  rcases g2 with ⟨_, g3, g4⟩ | ⟨c2, _⟩
  · rw [g3] at hb
    simp only [List.tail_cons] at hb
    unfold mayV at g4
    rw [ht, if_neg (by decide), if_pos rfl] at g4
    simp only [decide_eq_true_eq] at g4
    rw [← hb, c] at g4
    simp at g4
  · rw [ht] at c2; exact absurd c2 (by decide)
theorem right_in {l : List InsD} (hreg : regV l = none) {k t : Nat} {r s1 : List Nat} (hk : k ≤ l.length) (h : opS l k = s1 ++ t :: r) (ht : opAt l t = 24) : r ≠ [] := by
  have htl : t < k := run_lt k t (by show t ∈ opS l k; rw [h]; simp)
  obtain ⟨r2, g1, g2⟩ := stp_at hreg (k := t) (by omega)
  have hb := below hreg k hk s1 t r h
  rcases g1 with ⟨_, u, g3, g4, _⟩ | ⟨c, _⟩
  · have hu : opAt l u = 23 := by
      rw [ht] at g4
      unfold closerV at g4
      split at g4
      · omega
      split at g4
      · assumption
      split at g4
      · omega
      · omega
    rcases g2 with ⟨_, g5, _⟩ | ⟨c, _⟩
    · rw [g5] at hb
      simp only [List.tail_cons] at hb
      rw [hb]
      exact arm_in hreg (k := t) (s1 := []) (by omega) (by rw [g3]; rfl) hu
    · rw [ht] at c; exact absurd c (by decide)
  · rw [ht] at c; exact absurd c (by decide)

/-- A bracket, or Retry: where it goes on. -/
theorem br_safe {l : List InsD} {t : Int} (ok : ChkOk l t) {d : List Int} (hd : DepOk l d) {X : BX} (h : BInv l d X) {i : InsD} (ho : i.op = opAt l X.D.pc.toNat) (ha : i.arg = argAt l X.D.pc.toNat) (hop : i.op = 22 ∨ i.op = 23 ∨ i.op = 24 ∨ i.op = 25 ∨ i.op = 26) :
    (brB X i).1 = -1 ∨ ((brB X i).1 = 0 ∧ AtD l d (brB X i).2.D ∧ (i.op = 22 → opS l (brB X i).2.D.pc.toNat = []) ∧ (i.op ≠ 22 → BInv l d (brB X i).2)) := by
  have hs := settled_at hd h.at'
  obtain ⟨p0, p1, p2⟩ := h.at'
  have hk : X.D.pc.toNat < l.length := by omega
  have hpc : ((X.D.pc.toNat : Nat) : Int) = X.D.pc := by omega
  obtain ⟨r1, h1, h2⟩ := stp_at ok.reg hk
  have hmk := h.mks
  have hne := h.op
  generalize hkk : X.D.pc.toNat = k at *
  have pp : ∀ o, o = 22 ∨ o = 23 ∨ o = 24 ∨ o = 25 ∨ o = 26 → popV o = 0 ∧ pushV o = 0 := by
    intro o q
    rcases q with rfl | rfl | rfl | rfl | rfl <;> exact ⟨rfl, rfl⟩
  have hbeh : behV l d k = (X.D.st.length : Int) := by
    unfold behV
    obtain ⟨a, b⟩ := pp (opAt l k) (by rw [← ho]; exact hop)
    rw [a, b, p2]; omega
  have hnx := hs.nxt
  rw [hbeh] at hnx
  have nx1 : (opAt l k = 22 ∨ opAt l k = 23 ∨ opAt l k = 25) → 0 ≤ X.D.pc + 1 ∧ X.D.pc + 1 < l.length ∧ dAt d (X.D.pc + 1).toNat = (X.D.st.length : Int) := fun q => by
    refine hnx _ ?_
    unfold nextV
    rcases q with q | q | q <;> (rw [q]; simp; omega)
  have k1 : (X.D.pc + 1).toNat = k + 1 := by omega
  unfold brB
  rcases hop with q | q | q | q | q
  · -- End
    have qo : opAt l k = 22 := by rw [← ho]; exact q
    rw [if_neg (by omega), if_neg (by omega), if_neg (by omega), if_neg (by omega)]
    right
    refine ⟨rfl, nx1 (.inl qo), fun _ => ?_, fun c => absurd q c⟩
    show opS l (X.D.pc + 1).toNat = []
    rw [k1]
    rcases h1 with ⟨_, t0, e0, e1, e2⟩ | ⟨c, _⟩
    · rcases h2 with ⟨c, _⟩ | ⟨_, e3⟩
      · rw [qo] at c; exact absurd c (by decide)
      · rw [e3]
        have hb := below ok.reg k (by omega) [] t0 r1 (by rw [e0]; rfl)
        rw [hb]
        have ht0 : opAt l t0 = 21 := by
          rw [qo] at e1
          unfold closerV at e1
          split at e1
          · assumption
          split at e1
          · omega
          split at e1
          · omega
          · omega
        have htl : t0 < k := run_lt k t0 (by show t0 ∈ opS l k; rw [e0]; simp)
        obtain ⟨r2, g1, g2⟩ := stp_at ok.reg (k := t0) (by omega)
        rcases g2 with ⟨_, g3, g4⟩ | ⟨c, _⟩
        · rw [g3]
          unfold mayV at g4
          rw [ht0, if_pos rfl] at g4
          have : r2.length = 0 := by simpa using g4
          simpa using this
        · rw [ht0] at c; exact absurd c (by decide)
    · rw [qo] at c; exact absurd c (by decide)
  · -- OrElse
    have qo : opAt l k = 23 := by rw [← ho]; exact q
    rw [if_pos q]
    right
    refine ⟨rfl, nx1 (.inr (.inl qo)), fun c => by omega, fun _ => ?_⟩
    have e : opS l (k + 1) = k :: opS l k := by
      rcases h1 with ⟨c, _⟩ | ⟨_, e1⟩
      · rw [qo] at c; exact absurd c (by decide)
      · rcases h2 with ⟨_, e2, _⟩ | ⟨c, _⟩
        · rw [e2, e1]
        · rw [qo] at c; exact absurd c (by decide)
    refine ⟨nx1 (.inr (.inl qo)), ?_, ?_⟩
    · show opS l (X.D.pc + 1).toNat ≠ []
      rw [k1, e]; simp
    · show MkOk l d (X.ms ++ [(⟨X.D, X.h, i.arg⟩ : MkD)]).reverse (opS l (X.D.pc + 1).toNat)
      rw [k1, e, List.reverse_append]
      exact .inl ⟨qo, ⟨X.D, X.h, i.arg⟩, X.ms.reverse, rfl, ha, p2.symm, hk, hmk⟩
  · -- Else
    have qo : opAt l k = 24 := by rw [← ho]; exact q
    rw [if_neg (by omega), if_pos q]
    rcases h1 with ⟨_, t0, e0, e1, e2⟩ | ⟨c, _⟩
    · have ht0 : opAt l t0 = 23 := by
        rw [qo] at e1
        unfold closerV at e1
        split at e1
        · omega
        split at e1
        · assumption
        split at e1
        · omega
        · omega
      rw [e0] at hmk
      simp only [MkOk] at hmk
      rcases hmk with ⟨_, m, ms', em, _, _, _, hrest⟩ | ⟨c, _⟩
      · have hlast : X.ms.getLast? = some m := by rw [← List.head?_reverse, em]; rfl
        have hdrop : X.ms.dropLast.reverse = ms' := by rw [← List.tail_reverse, em]; rfl
        rw [hlast]
        right
        have hnext : 0 ≤ i.arg + 1 ∧ i.arg + 1 < l.length ∧ dAt d (i.arg + 1).toNat = (X.D.st.length : Int) := by
          refine hnx _ ?_
          unfold nextV
          rw [qo, ha]
          simp
        -- the right arm's end
        have hin : k ∈ opS l (k + 1) := by
          rcases h2 with ⟨_, e3, _⟩ | ⟨c, _⟩
          · rw [e3]; simp
          · rw [qo] at c; exact absurd c (by decide)
        obtain ⟨qq, _, q2, q3, q4, q5, q6⟩ := closed ok.reg (l.length - (k + 1)) (k + 1) (by omega) k hin
        have htail : (opS l (k + 1)).tail = r1 := by
          rcases h2 with ⟨_, e3, _⟩ | ⟨c, _⟩
          · rw [e3]; rfl
          · rw [qo] at c; exact absurd c (by decide)
        have q25 : opAt l qq = 25 := by rw [← q5, qo]; rfl
        have e5 : opS l (qq + 1) = r1 := by
          obtain ⟨r2, g1, g2⟩ := stp_at ok.reg q2
          rcases g1 with ⟨_, t1, f0, _⟩ | ⟨c, _⟩
          · rcases g2 with ⟨c, _⟩ | ⟨_, f3⟩
            · rw [q25] at c; exact absurd c (by decide)
            · rw [q4, htail] at f0
              simp only [List.cons.injEq] at f0
              rw [f3, ← f0.2]
          · rw [q25] at c; exact absurd c (by decide)
        have kq : (i.arg + 1).toNat = qq + 1 := by rw [ha, q3]; omega
        refine ⟨rfl, hnext, fun c => by omega, fun _ => ⟨hnext, ?_, ?_⟩⟩
        · show opS l (i.arg + 1).toNat ≠ []
          rw [kq, e5]
          exact arm_in ok.reg (k := k) (s1 := []) (by omega) (by rw [e0]; rfl) ht0
        · show MkOk l d X.ms.dropLast.reverse (opS l (i.arg + 1).toNat)
          rw [kq, e5, hdrop]; exact hrest
      · exact absurd ht0 c
    · rw [qo] at c; exact absurd c (by decide)
  · -- EndOr
    have qo : opAt l k = 25 := by rw [← ho]; exact q
    rw [if_neg (by omega), if_neg (by omega), if_pos q]
    right
    rcases h1 with ⟨_, t0, e0, e1, e2⟩ | ⟨c, _⟩
    · have ht0 : opAt l t0 = 24 := by
        rw [qo] at e1
        unfold closerV at e1
        split at e1
        · omega
        split at e1
        · omega
        split at e1
        · assumption
        · omega
      rw [e0] at hmk
      simp only [MkOk] at hmk
      rcases hmk with ⟨c, _⟩ | ⟨_, hrest⟩
      · omega
      · have e5 : opS l (k + 1) = r1 := by
          rcases h2 with ⟨c, _⟩ | ⟨_, e3⟩
          · rw [qo] at c; exact absurd c (by decide)
          · exact e3
        refine ⟨rfl, nx1 (.inr (.inr qo)), fun c => by omega, fun _ => ⟨nx1 (.inr (.inr qo)), ?_, ?_⟩⟩
        · show opS l (X.D.pc + 1).toNat ≠ []
          rw [k1, e5]
          exact right_in ok.reg (k := k) (s1 := []) (by omega) (by rw [e0]; rfl) ht0
        · show MkOk l d X.ms.reverse (opS l (X.D.pc + 1).toNat)
          rw [k1, e5]; exact hrest
    · rw [qo] at c; exact absurd c (by decide)
  · -- Retry
    rw [if_neg (by omega), if_neg (by omega), if_neg (by omega), if_pos q]
    cases hl : X.ms.getLast? with
    | none => exact .inl rfl
    | some m =>
      right
      have hrev : ∃ rest, X.ms.reverse = m :: rest ∧ X.ms.dropLast.reverse = rest := by
        cases er : X.ms.reverse with
        | nil => rw [← List.head?_reverse, er] at hl; cases hl
        | cons a rest =>
          rw [← List.head?_reverse, er] at hl
          simp only [List.head?_cons, Option.some.injEq] at hl
          subst hl
          exact ⟨rest, rfl, by rw [← List.tail_reverse, er]; rfl⟩
      obtain ⟨rest, e1, e2⟩ := hrev
      obtain ⟨tt, r, s1, f1, f2, f3, f4, f5, f6⟩ := mk_last ok.reg (opS l k) X.ms.reverse m rest e1 hmk ⟨k, [], by omega, rfl⟩
      -- the left arm's end
      have hin : tt ∈ opS l k := by rw [f1]; simp
      obtain ⟨qq, _, q2, q3, q4, q5, q6⟩ := closed ok.reg (l.length - k) k (by omega) tt hin
      have hb := below ok.reg k (by omega) s1 tt r f1
      rw [← hb] at q4
      have q24 : opAt l qq = 24 := by rw [← q5, f2]; rfl
      have e5 : opS l (qq + 1) = qq :: r := by
        obtain ⟨r2, g1, g2⟩ := stp_at ok.reg q2
        rcases g1 with ⟨_, t1, g3, _⟩ | ⟨c, _⟩
        · rcases g2 with ⟨_, g4, _⟩ | ⟨c, _⟩
          · rw [q4] at g3
            simp only [List.cons.injEq] at g3
            rw [g4, ← g3.2]
          · rw [q24] at c; exact absurd c (by decide)
        · rw [q24] at c; exact absurd c (by decide)
      have hst := hd.set_ tt f5 (by rw [← f4]; omega)
      have hnext : 0 ≤ m.e + 1 ∧ m.e + 1 < l.length ∧ dAt d (m.e + 1).toNat = (m.D.st.length : Int) := by
        have hm := hst.nxt (m.e + 1) (by unfold nextV; rw [f2, f3]; simp)
        refine ⟨hm.1, hm.2.1, ?_⟩
        rw [hm.2.2, f4]
        unfold behV
        rw [f2]
        show dAt d tt - 0 + 0 = _
        omega
      have kq : (m.e + 1).toNat = qq + 1 := by rw [f3, q3]; omega
      refine ⟨rfl, hnext, fun c => by omega, fun _ => ⟨hnext, ?_, ?_⟩⟩
      · show opS l (m.e + 1).toNat ≠ []
        rw [kq, e5]; simp
      · show MkOk l d X.ms.dropLast.reverse (opS l (m.e + 1).toNat)
        rw [kq, e5, e2]
        exact .inr ⟨by omega, f6⟩

/-- How a block, or a walk, may end: it is done, to be retried, or stuck by fuel, by what it puts out, by an index. -/
def MayEr (e : Int) : Prop := e = -1 ∨ e = 2 ∨ e = 4 ∨ e = 11
theorem reach_safe {l : List InsD} {d : List Int} (hd : DepOk l d) {t : Int} (ok : ChkOk l t) {X : BX} (h : BInv l d X) {i : InsD} (ho : i.op = opAt l X.D.pc.toNat) (hop : i.op = 4 ∨ i.op = 5 ∨ i.op = 6 ∨ i.op = 7) :
    (reachB X i).1 = 2 ∨ ((reachB X i).1 = 0 ∧ BInv l d (reachB X i).2) := by
  have hs := settled_at hd h.at'
  have hf := fits_at hd h.at'
  obtain ⟨p0, p1, p2⟩ := h.at'
  have hk : X.D.pc.toNat < l.length := by omega
  have hpc : ((X.D.pc.toNat : Nat) : Int) = X.D.pc := by omega
  obtain ⟨r1, h1, h2⟩ := stp_at ok.reg hk
  have hmk := h.mks
  have hne := h.op
  generalize hkk : X.D.pc.toNat = k at *
  have k1 : (X.D.pc + 1).toNat = k + 1 := by omega
  have hnc : closesV (opAt l k) = false ∧ opensV (opAt l k) = false := by
    clear h1 h2
    rw [ho] at hop
    unfold closesV opensV
    simp only [decide_eq_false_iff_not]
    omega
  have hnext : opS l (k + 1) = opS l k := by
    rcases h1 with ⟨c, _⟩ | ⟨_, e1⟩
    · rw [hnc.1] at c; cases c
    · rcases h2 with ⟨c, _⟩ | ⟨_, e2⟩
      · rw [hnc.2] at c; cases c
      · rw [e2, e1]
  clear h1 h2
  have hn := hs.nxt (X.D.pc + 1) (by
    rw [ho] at hop
    unfold nextV
    rw [if_neg (by omega), if_neg (by omega), if_neg (by omega), if_neg (by omega), if_neg (by omega)]
    simp; omega)
  have hpop := hs.pop
  rw [p2] at hpop
  have pl := pop_le (opAt l k)
  have pu := push_le (opAt l k)
  unfold behV at hn
  rw [p2] at hn
  have fin : ∀ (D' : WD) (h' : List Int), D'.pc = X.D.pc + 1 → (D'.st.length : Int) = (X.D.st.length : Int) - popV (opAt l k) + pushV (opAt l k) → BInv l d { X with D := D', h := h' } := fun D' h' e1 e2 => by
    refine ⟨⟨by show 0 ≤ D'.pc; rw [e1]; exact hn.1, by show D'.pc < _; rw [e1]; exact hn.2.1, by show dAt d D'.pc.toNat = _; rw [e1, hn.2.2, e2]⟩, ?_, ?_⟩
    · show opS l D'.pc.toNat ≠ []
      rw [e1, k1, hnext]; exact hne
    · show MkOk l d X.ms.reverse (opS l D'.pc.toNat)
      rw [e1, k1, hnext]; exact hmk
  unfold reachB
  rw [ho, if_neg (by rw [hf]; simp)]
  split
  · exact .inl rfl
  · rename_i tv _
    right
    split
    · rename_i h46
      refine ⟨rfl, fin _ X.h rfl ?_⟩
      have hp1 : pushV (opAt l k) = 1 := by rcases h46 with q | q <;> (rw [q]; rfl)
      show ((X.D.st.take (X.D.st.length - (popV (opAt l k)).toNat) ++ [_]).length : Int) = _
      rw [List.length_append, List.length_take, List.length_singleton, hp1]; omega
    · rename_i h46
      refine ⟨rfl, fin _ _ rfl ?_⟩
      have hp1 : pushV (opAt l k) = 0 := by
        rw [ho] at hop
        rcases hop with q | q | q | q
        · exact absurd (.inl q) h46
        · rw [q]; rfl
        · exact absurd (.inr q) h46
        · rw [q]; rfl
      show ((X.D.st.take (X.D.st.length - (popV (opAt l k)).toNat) ++ []).length : Int) = _
      rw [List.length_append, List.length_take, List.length_nil, hp1]; omega
theorem do_safe {l : List InsD} {t : Int} (ok : ChkOk l t) {d : List Int} (hd : DepOk l d) {X : BX} (h : BInv l d X) {i : InsD} (ho : i.op = opAt l X.D.pc.toNat) (ha : i.arg = argAt l X.D.pc.toNat) :
    MayEr (doB l X i).1 ∨ ((doB l X i).1 = 0 ∧ AtD l d (doB l X i).2.D ∧ (i.op = 22 → opS l (doB l X i).2.D.pc.toNat = []) ∧ (i.op ≠ 22 → BInv l d (doB l X i).2)) := by
  obtain ⟨p0, p1, p2⟩ := h.at'
  have hk : X.D.pc.toNat < l.length := by omega
  unfold doB
  split
  · rename_i hq
    exfalso
    rw [ho] at hq
    rcases hq with q | q | q
    · have hb := ok.bel _ hk
      unfold okBel belV at hb
      rw [q, if_neg (by decide), if_pos (by decide)] at hb
      unfold insV at hb
      rw [List.getD_eq_getElem?_getD, List.getElem?_map, List.getElem?_range hk] at hb
      have hne := h.op
      simp only [Option.map_some, Option.getD_some] at hb
      cases e : opS l X.D.pc.toNat with
      | nil => exact hne e
      | cons a r => simp only [opS] at e; rw [e] at hb; simp [topV] at hb
    · have hb := ok.bel _ hk
      unfold okBel belV at hb
      rw [q, if_neg (by decide), if_pos (by decide)] at hb
      unfold insV at hb
      rw [List.getD_eq_getElem?_getD, List.getElem?_map, List.getElem?_range hk] at hb
      have hne := h.op
      simp only [Option.map_some, Option.getD_some] at hb
      cases e : opS l X.D.pc.toNat with
      | nil => exact hne e
      | cons a r => simp only [opS] at e; rw [e] at hb; simp [topV] at hb
    · obtain ⟨r1, h1, h2⟩ := stp_at ok.reg hk
      rcases h1 with ⟨c, _⟩ | ⟨_, e1⟩
      · rw [q] at c; exact absurd c (by decide)
      · rcases h2 with ⟨_, _, g⟩ | ⟨c, _⟩
        · unfold mayV at g
          rw [q, if_pos rfl] at g
          have : r1.length = 0 := by simpa using g
          exact h.op (by rw [← e1]; simpa using this)
        · rw [q] at c; exact absurd c (by decide)
  split
  · rename_i hq
    rcases reach_safe hd ok h ho hq with q | ⟨q, r⟩
    · exact .inl (.inr (.inl q))
    · exact .inr ⟨q, r.at', fun c => by omega, fun _ => r⟩
  split
  · rename_i hq
    have hf := fits_at hd h.at'
    rw [ho, if_neg (by rw [hf]; simp), ← ho]
    rcases br_safe ok hd h ho ha hq with q | q
    · exact .inl (.inl q)
    · exact .inr q
  · rename_i h1 h2 h3
    have hpl : plainO (opAt l X.D.pc.toNat) = true := by
      rw [ho] at h1 h2 h3
      unfold plainO
      simp only [Bool.not_eq_true', decide_eq_false_iff_not]
      omega
    rcases step_safe ok hd h.at' hpl with q | q | ⟨q, r, e⟩
    · exact .inl (.inr (.inl q))
    · exact .inl (.inr (.inr (.inl q)))
    · refine .inr ⟨q, r, fun c => by omega, fun _ => ⟨r, ?_, ?_⟩⟩
      · show opS l (stepW l X.D).2.pc.toNat ≠ []
        rw [e]; exact h.op
      · show MkOk l d X.ms.reverse (opS l (stepW l X.D).2.pc.toNat)
        rw [e]; exact h.mks
theorem runB_safe {l : List InsD} {t : Int} (ok : ChkOk l t) {d : List Int} (hd : DepOk l d) : ∀ (n : Nat) (X : BX), BInv l d X → MayEr (runB l n X).1 ∨ ((runB l n X).1 = 0 ∧ AtD l d (runB l n X).2.D ∧ opS l (runB l n X).2.D.pc.toNat = [])
  | 0, X, h => by
    obtain ⟨i, hh, _⟩ := here_at ok h.at'
    have e : runB l 0 X = (11, X) := by unfold runB; rw [hh]
    rw [e]; exact .inl (.inr (.inr (.inr rfl)))
  | n + 1, X, h => by
    obtain ⟨i, hh, ho, ha, _⟩ := here_at ok h.at'
    rw [run_some hh]
    have h1 : BInv l d { X with D := { X.D with fuel := X.D.fuel - 1 } } := ⟨h.at', h.op, h.mks⟩
    have hdo := do_safe ok hd h1 (i := i) ho ha
    rcases hdo with q | ⟨q, r1, r2, r3⟩
    · have hne : (doB l { X with D := { X.D with fuel := X.D.fuel - 1 } } i).1 ≠ 0 := by
        unfold MayEr at q; omega
      rw [if_neg hne]; exact .inl q
    · rw [if_pos q]
      by_cases h22 : i.op = 22
      · rw [if_pos h22]; exact .inr ⟨q, r1, r2 h22⟩
      · rw [if_neg h22]; exact runB_safe ok hd n _ (r3 h22)
def MayE2 (e : Int) : Prop := e = 2 ∨ e = 4 ∨ e = 11
/-- A walk outside of blocks. -/
theorem pln_safe {l : List InsD} {t : Int} (ok : ChkOk l t) {d : List Int} (hd : DepOk l d) : ∀ (n : Nat) (D : WD), AtD l d D → opS l D.pc.toNat = [] → ((plnN l n D).1 = (4, 0) ∧ opAtW l (plnN l n D).2.pc = 21 ∧ AtD l d (plnN l n D).2 ∧ opS l (plnN l n D).2.pc.toNat = []) ∨ (plnN l n D).1 = (1, 0) ∨ ((plnN l n D).1.1 = 3 ∧ MayE2 (plnN l n D).1.2) := by
  intro n
  induction n with
  | zero =>
    intro D h he
    by_cases h21 : opAtW l D.pc = 21
    · rw [pln_21 h21]; exact .inl ⟨rfl, h21, h, he⟩
    by_cases h28 : opAtW l D.pc = 28
    · rw [pln_28 h28]; exact .inr (.inl rfl)
    rw [pln_0 h21 h28]; exact .inr (.inr ⟨rfl, .inr (.inr rfl)⟩)
  | succ n ih =>
    intro D h he
    by_cases h21 : opAtW l D.pc = 21
    · rw [pln_21 h21]; exact .inl ⟨rfl, h21, h, he⟩
    by_cases h28 : opAtW l D.pc = 28
    · rw [pln_28 h28]; exact .inr (.inl rfl)
    rw [pln_s h21 h28]
    have hk : D.pc.toNat < l.length := by have := h.1; have := h.2.1; omega
    have hat : opAtW l D.pc = opAt l D.pc.toNat := by
      obtain ⟨i, _, ho, _, _, hp, hg⟩ := here_at ok h
      unfold opAtW
      rw [if_pos hp, hg, ho]
    have hpl : plainO (opAt l D.pc.toNat) = true := by
      rw [hat] at h21 h28
      obtain ⟨r1, h1, h2⟩ := stp_at ok.reg hk
      have hnc : closesV (opAt l D.pc.toNat) = false := by
        rcases h1 with ⟨_, t0, e0, _⟩ | ⟨c, _⟩
        · rw [he] at e0; cases e0
        · exact c
      have h23 : opAt l D.pc.toNat ≠ 23 := fun c => by
        rcases h1 with ⟨_, t0, e0, _⟩ | ⟨_, e1⟩
        · rw [he] at e0; cases e0
        · rcases h2 with ⟨_, _, g⟩ | ⟨g, _⟩
          · unfold mayV at g
            rw [c, if_neg (by decide), if_pos rfl, e1, he] at g
            simp at g
          · rw [c] at g; exact absurd g (by decide)
      clear h1 h2
      have hb := ok.bel _ hk
      unfold okBel belV at hb
      have hin : ((insV l l.length).getD D.pc.toNat 0 != -1) = false := by
        unfold insV
        rw [List.getD_eq_getElem?_getD, List.getElem?_map, List.getElem?_range hk]
        simp only [Option.map_some, Option.getD_some]
        simp only [opS] at he
        rw [he]; rfl
      rw [hin] at hb
      unfold closesV at hnc
      simp only [decide_eq_false_iff_not] at hnc
      unfold plainO
      simp only [Bool.not_eq_true', decide_eq_false_iff_not]
      intro q
      split at hb
      · cases hb
      · omega
    have h' : AtD l d { D with fuel := D.fuel - 1 } := h
    rcases step_safe ok hd h' hpl with q | q | ⟨q, r, e⟩
    · rw [if_neg (by rw [q]; decide)]; exact .inr (.inr ⟨rfl, by rw [q]; exact .inl rfl⟩)
    · rw [if_neg (by rw [q]; decide)]; exact .inr (.inr ⟨rfl, by rw [q]; exact .inr (.inl rfl)⟩)
    · rw [if_pos q]; exact ih _ r (by rw [e]; exact he)
/-- A block. -/
theorem out_safe {l : List InsD} {t : Int} (ok : ChkOk l t) {d : List Int} (hd : DepOk l d) {D : WD} (h : AtD l d D) (he : opS l D.pc.toNat = []) (h21 : opAtW l D.pc = 21) (hp : List Int) (f : Int) :
    MayEr (outX l D hp f).1 ∨ ((outX l D hp f).1 = 0 ∧ AtD l d (outX l D hp f).2.D ∧ opS l (outX l D hp f).2.D.pc.toNat = []) := by
  unfold outX endB
  rw [if_pos h21]
  refine runB_safe ok hd _ _ ?_
  have hk : D.pc.toNat < l.length := by have := h.1; have := h.2.1; omega
  have hpc : ((D.pc.toNat : Nat) : Int) = D.pc := by have := h.1; omega
  have hop : opAt l D.pc.toNat = 21 := by
    obtain ⟨i, _, ho, _, _, hp', hg⟩ := here_at ok h
    unfold opAtW at h21
    rw [if_pos hp', hg, ho] at h21
    exact h21
  have hs := settled_at hd h
  have hn := hs.nxt (D.pc + 1) (by unfold nextV; rw [hop]; simp; omega)
  unfold behV at hn
  rw [hop, h.2.2] at hn
  have k1 : (D.pc + 1).toNat = D.pc.toNat + 1 := by have := h.1; omega
  have e : opS l (D.pc.toNat + 1) = [D.pc.toNat] := by
    obtain ⟨r1, h1, h2⟩ := stp_at ok.reg hk
    rcases h1 with ⟨c, _⟩ | ⟨_, e1⟩
    · rw [hop] at c; exact absurd c (by decide)
    · rcases h2 with ⟨_, g, _⟩ | ⟨c, _⟩
      · rw [g, e1, he]
      · rw [hop] at c; exact absurd c (by decide)
  refine ⟨⟨hn.1, hn.2.1, ?_⟩, ?_, ?_⟩
  · show dAt d (D.pc + 1).toNat = (D.st.length : Int)
    rw [hn.2.2]
    show (D.st.length : Int) - 0 + 0 = _
    omega
  · show opS l (D.pc + 1).toNat ≠ []
    rw [k1, e]; simp
  · show MkOk l d ([] : List MkD).reverse (opS l (D.pc + 1).toNat)
    rw [k1, e]
    exact .inr ⟨by rw [hop]; decide, rfl⟩
/-- A whole run. -/
theorem run_safe {l : List InsD} {t : Int} (ok : ChkOk l t) {d : List Int} (hd : DepOk l d) (f : Int) : ∀ (n : Nat) (D : WD) (h : List Int) (am : List Bool), AtD l d D → opS l D.pc.toNat = [] → (runR l f n D h am).1.1 ≠ 3 ∨ (runR l f n D h am).1.2 = 11 ∨ (runR l f n D h am).1.2 = 4 ∨ (runR l f n D h am).1.2 = 2 := by
  intro n
  induction n with
  | zero =>
    intro D h am hat he
    have hp := pln_safe ok hd (fuelW f).toNat { D with fuel := fuelW f } hat he
    by_cases h4 : (plainX l D f).1.1 = 4
    · rw [run_out h4]; exact .inr (.inl rfl)
    · rw [run_far h4]
      rcases hp with ⟨q, _⟩ | q | ⟨_, q⟩
      · exact absurd (congrArg Prod.fst q) h4
      · left
        show (plainX l D f).1.1 ≠ 3
        have : (plainX l D f).1 = (1, 0) := q
        rw [this]; decide
      · right
        have : MayE2 (plainX l D f).1.2 := q
        unfold MayE2 at this
        show (plainX l D f).1.2 = 11 ∨ (plainX l D f).1.2 = 4 ∨ (plainX l D f).1.2 = 2
        omega
  | succ n ih =>
    intro D h am hat he
    have hp := pln_safe ok hd (fuelW f).toNat { D with fuel := fuelW f } hat he
    by_cases h4 : (plainX l D f).1.1 = 4
    · rw [run_next h4]
      rcases hp with ⟨_, q2, q3, q4⟩ | q | ⟨q, _⟩
      · have ho := out_safe ok hd (D := (plainX l D f).2) q3 q4 q2 h f
        split
        · rename_i h0
          rcases ho with r | ⟨_, r1, r2⟩
          · unfold MayEr at r; omega
          · exact ih _ _ _ r1 r2
        · rename_i h0
          rcases ho with r | ⟨r, _⟩
          · unfold MayEr at r
            by_cases hm : (outX l (plainX l D f).2 h f).1 = -1
            · left; simp only [hm, if_true]; decide
            · right; simp only [if_neg hm]; omega
          · exact absurd r h0
      · have : (plainX l D f).1 = (1, 0) := q
        rw [this] at h4; exact absurd h4 (by decide)
      · have : (plainX l D f).1.1 = 3 := q
        omega
    · rw [run_far h4]
      rcases hp with ⟨q, _⟩ | q | ⟨_, q⟩
      · exact absurd (congrArg Prod.fst q) h4
      · left
        show (plainX l D f).1.1 ≠ 3
        have : (plainX l D f).1 = (1, 0) := q
        rw [this]; decide
      · right
        have : MayE2 (plainX l D f).1.2 := q
        unfold MayE2 at this
        show (plainX l D f).1.2 = 11 ∨ (plainX l D f).1.2 = 4 ∨ (plainX l D f).1.2 = 2
        omega

end Go.Proofs.Ytlndbligbpfdpaa
