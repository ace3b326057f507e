/-
  HOW DEEP THE STACK IS: what Depths tells, and where a program that may be run stands. Plain data.
-/
import Derived.Test.YtlndbligbpfdpaaSkPln
import Derived.Test.YtlndbligbpfdpaaAllC
namespace Go.Proofs.Ytlndbligbpfdpaa
set_option linter.unusedVariables false
set_option linter.unusedSimpArgs false
open Go.RowKit

theorem least_no {D : List Int} {G : List Bool} {N : Nat} (h : leastV D G N = none) {j : Nat} (hj : j < N) (hd : dAt D j ≠ -1) : G.getD j false = true := by
  unfold leastV at h
  rw [List.find?_eq_none] at h
  have := h j (by simpa using hj)
  cases hg : G.getD j false with
  | true => rfl
  | false => rw [hg] at this; simp [hd] at this
theorem least_hit {D : List Int} {G : List Bool} {N i : Nat} (h : leastV D G N = some i) : i < N ∧ dAt D i ≠ -1 ∧ G.getD i false = false := by
  unfold leastV at h
  have h1 := List.find?_some h
  have h2 := List.mem_of_find?_eq_some h
  simp only [List.mem_range] at h2
  simp only [Bool.and_eq_true, decide_eq_true_eq, Bool.not_eq_true'] at h1
  exact ⟨h2, h1.1, h1.2⟩
theorem rounds_settled (l : List InsD) : ∀ (n : Nat) (D : List Int) (G : List Bool), D.length = l.length → G.length = l.length → G.count false ≤ n → (∀ j < l.length, G.getD j false = true → Settled l D j) → (roundsV l n D G).1 = 0 →
    (∀ j < l.length, dAt (roundsV l n D G).2.2 j ≠ -1 → Settled l (roundsV l n D G).2.2 j) ∧ (∀ j, dAt D j ≠ -1 → dAt (roundsV l n D G).2.2 j = dAt D j) ∧ (roundsV l n D G).2.2.length = l.length
  | 0, D, G, hD, hG, hc, hs, h0 => by
    refine ⟨fun j hj hd => hs j hj ?_, fun j hj => rfl, hD⟩
    cases hg : G.getD j false with
    | true => rfl
    | false =>
      have hjl : j < G.length := by omega
      have : false ∈ G := by
        have : G[j] = false := by simpa [List.getD_eq_getElem?_getD, hjl] using hg
        rw [← this]; exact List.getElem_mem hjl
      have := List.count_pos_iff.2 this
      omega
  | n + 1, D, G, hD, hG, hc, hs, h0 => by
    cases hl : leastV D G l.length with
    | none =>
      have e : roundsV l (n + 1) D G = (0, 0, D) := by
        conv => lhs; unfold roundsV
        rw [hl]
      rw [e]
      exact ⟨fun j hj hd => hs j hj (least_no hl hj hd), fun _ _ => rfl, hD⟩
    | some i =>
      obtain ⟨hi, hdi, hgi⟩ := least_hit hl
      rw [rounds_some hl] at h0 ⊢
      by_cases he : (sprV l D i).1 ≠ 0
      · rw [if_pos he] at h0; exact absurd h0 he
      · rw [if_neg he] at h0 ⊢
        have he : (sprV l D i).1 = 0 := by simpa using he
        obtain ⟨e, hst, _, _⟩ := spr_settled hD hdi (D' := (sprV l D i).2.1) (m := (sprV l D i).2.2) (by rw [← he])
        have hc2 := count_set (by rw [hG]; exact hi) hgi
        obtain ⟨a1, a2, a3⟩ := rounds_settled l n (sprV l D i).2.1 (G.set i true) (e.len.trans hD) (by simpa using hG) (by omega) (fun j hj hgj => by
          by_cases hji : j = i
          · subst hji; exact hst
          · rw [List.getD_eq_getElem?_getD, List.getElem?_set_ne (fun q => hji q.symm), ← List.getD_eq_getElem?_getD] at hgj
            exact (hs j hj hgj).ext e) h0
        refine ⟨a1, fun j hj => ?_, a3⟩
        rw [a2 j (by rw [e.old j hj]; exact hj), e.old j hj]

/-- What Depths tells, if nothing is wrong. -/
structure DepOk (l : List InsD) (d : List Int) : Prop where
  len : d.length = l.length
  set_ : ∀ j < l.length, dAt d j ≠ -1 → Settled l d j
  zero : 0 < l.length → dAt d 0 = 0
theorem dep_ok {l : List InsD} (h : (depV l).1 = 0) : DepOk l (depV l).2.2 := by
  unfold depV at h ⊢
  split
  · rename_i k e; rw [e] at h; simp at h
  · rename_i e
    rw [e] at h
    simp only at h
    have hb := begin_inv l
    have h0 : 0 < l.length → dAt (beginD l.length) 0 = 0 := fun h => by
      unfold dAt beginD
      cases hl : l.length with
      | zero => omega
      | succ n => rfl
    obtain ⟨a1, a2, a3⟩ := rounds_settled l l.length _ _ hb.dl hb.gl (by rw [List.count_replicate_self]; exact Nat.le_refl _) hb.set_ h
    exact ⟨a3, a1, fun hl => by rw [a2 0 (by rw [h0 hl]; decide), h0 hl]⟩
/-- What Check tells, if nothing is wrong. -/
structure ChkOk (l : List InsD) (t : Int) : Prop where
  n0 : 0 < l.length
  n1 : l.length ≤ 64
  right : ∀ i ∈ l, rightI i = true
  reg : regV l = none
  bel : ∀ k < l.length, okBel l k = true
  rch : ∀ k < l.length, rchV l (insV l l.length) t k = true
  dep : (depV l).1 = 0
theorem fbad_not {p : Nat → Bool} {N : Nat} (h : fbad p N = none) {k : Nat} (hk : k < N) : p k = true := by
  unfold fbad at h
  rw [List.find?_eq_none] at h
  have := h k (by simpa using hk)
  cases hp : p k with
  | true => rfl
  | false => rw [hp] at this; simp at this
theorem chk_ok {l : List InsD} {t : Int} (h : (chkV l t).2 = 0) : ChkOk l t := by
  unfold chkV at h
  split at h
  · simp at h
  rename_i hl
  split at h
  · simp at h
  rename_i h1
  split at h
  · simp at h
  rename_i h2
  split at h
  · simp at h
  rename_i h3
  split at h
  · simp at h
  rename_i h4
  refine ⟨by omega, by omega, fun i hi => ?_, h2, fun k hk => fbad_not h3 hk, fun k hk => fbad_not h4 hk, h⟩
  obtain ⟨k, hk, rfl⟩ := List.getElem_of_mem hi
  have := fbad_not h1 hk
  unfold okRight at this
  rw [List.getElem?_eq_getElem hk] at this
  exact this

/-- A plain instruction pushes as many as its Effect tells. -/
theorem push_count (D : WD) (i : InsD) (pp : List Int) (h : plainO i.op = true) : ((pushW D i pp).length : Int) = pushV i.op := by
  unfold plainO at h
  simp only [Bool.not_eq_true', decide_eq_false_iff_not, not_or] at h
  unfold pushW pushV
  generalize i.op = o at *
  by_cases h1 : o = 1
  · subst h1; rfl
  by_cases h2 : o = 2
  · subst h2; rfl
  by_cases h3 : o = 16
  · subst h3; rfl
  by_cases h4 : o = 18
  · subst h4; rfl
  by_cases h5 : o = 12
  · subst h5; rfl
  by_cases h6 : o = 15
  · subst h6; rfl
  by_cases h7 : o = 8 ∨ o = 9 ∨ o = 10 ∨ o = 11 ∨ o = 13 ∨ o = 14
  · rw [if_neg h1, if_neg h2, if_neg h3, if_neg h4, if_neg h5, if_neg h6, if_pos h7, if_pos (by omega)]; rfl
  · rw [if_neg h1, if_neg h2, if_neg h3, if_neg h4, if_neg h5, if_neg h6, if_neg h7, if_neg (by omega), if_neg (by omega)]; rfl
theorem setL_st (D : WD) (a x : Int) : (D.setL a x).st = D.st ∧ (D.setL a x).pc = D.pc ∧ (D.setL a x).out = D.out ∧ (D.setL a x).fuel = D.fuel := by
  unfold WD.setL
  split
  · exact ⟨rfl, rfl, rfl, rfl⟩
  split
  · exact ⟨rfl, rfl, rfl, rfl⟩
  split
  · exact ⟨rfl, rfl, rfl, rfl⟩
  · exact ⟨rfl, rfl, rfl, rfl⟩
theorem len_int {n k m : Nat} {p q : Int} (hp : p = (k : Int)) (hk : k ≤ n) (hq : (m : Int) = q) (l r : List Int) (hl : l.length = n) (hr : r.length = m) : ((l.take (n - k) ++ r).length : Int) = (n : Int) - p + q := by
  rw [List.length_append, List.length_take, hl, hr]; omega

/-- Where a step goes, and how deep the stack is then. -/
theorem stepW_goes {l : List InsD} {D : WD} (h0 : (stepW l D).1 = 0) :
    0 ≤ D.pc ∧ D.pc < l.length ∧ (stepW l D).2.pc ∈ nextV l D.pc.toNat ∧ ((stepW l D).2.st.length : Int) = (D.st.length : Int) - popV (opAt l D.pc.toNat) + pushV (opAt l D.pc.toNat) := by
  unfold stepW at h0 ⊢
  split at h0
  · simp at h0
  rename_i hp
  rw [if_neg hp]
  split at h0
  · simp at h0
  rename_i hr
  rw [if_neg hr]
  split at h0
  · simp at h0
  rename_i hpo
  rw [if_neg hpo]
  split at h0
  · simp at h0
  rename_i hf
  rw [if_neg hf]
  have hpl : 0 ≤ D.pc ∧ D.pc < l.length := by
    unfold placeP at hp
    simp only [Bool.not_eq_false, Bool.and_eq_true, decide_eq_true_eq] at hp
    exact hp
  refine ⟨hpl.1, hpl.2, ?_⟩
  obtain ⟨k, hk⟩ := Int.eq_ofNat_of_zero_le hpl.1
  have hkl : k < l.length := by omega
  have hgd : l.getD D.pc.toNat ⟨0, 0, 0⟩ = l[k] := by rw [hk, Int.toNat_natCast, List.getD, List.getElem?_eq_getElem hkl]; rfl
  rw [hgd] at h0 hf hpo ⊢
  have hop : opAt l D.pc.toNat = l[k].op := by rw [hk, Int.toNat_natCast]; exact opAt_get hkl
  have harg : argAt l D.pc.toNat = l[k].arg := by rw [hk, Int.toNat_natCast]; exact argAt_get hkl
  have hpo' : plainO l[k].op = true := by simpa using hpo
  have hpc : ((D.pc.toNat : Nat) : Int) = D.pc := by omega
  have hpn := hpo'
  unfold plainO at hpn
  simp only [Bool.not_eq_true', decide_eq_false_iff_not, not_or] at hpn
  have hf' : fitsW l[k].op D.st.length = true := by simpa using hf
  unfold fitsW at hf'
  simp only [Bool.and_eq_true, decide_eq_true_eq] at hf'
  have hN : nextV l D.pc.toNat = if l[k].op = 19 then [l[k].arg] else if l[k].op = 20 then [D.pc + 1, l[k].arg] else if l[k].op = 23 then [D.pc + 1, l[k].arg + 1] else if l[k].op = 24 then [l[k].arg + 1] else if l[k].op = 26 ∨ l[k].op = 28 then [] else [D.pc + 1] := by unfold nextV; rw [hop, harg, hpc]
  rw [hop]
  generalize nextV l D.pc.toNat = N at *
  generalize l[k] = i at *
  unfold doW at h0 ⊢
  have pl := pop_le i.op
  split
  · rename_i h27
    rw [if_pos h27] at h0
    split
    · refine ⟨by rw [hN, if_neg (by omega), if_neg (by omega), if_neg (by omega), if_neg (by omega), if_neg (by omega)]; simp, ?_⟩
      rw [h27] at hf' ⊢
      exact len_int (k := 1) (m := 0) rfl (by have := hf'.1; have : popV 27 = 1 := rfl; omega) rfl _ _ rfl rfl
    · rename_i q; rw [if_neg q] at h0; simp at h0
  rename_i h27
  rw [if_neg h27] at h0
  split
  · rename_i h3
    refine ⟨by rw [hN, if_neg (by omega), if_neg (by omega), if_neg (by omega), if_neg (by omega), if_neg (by omega)]; simp, ?_⟩
    rw [h3] at hf' ⊢
    exact len_int (k := 1) (m := 0) rfl (by have := hf'.1; have : popV 3 = 1 := rfl; omega) rfl _ _ rfl rfl
  rename_i h3
  rw [if_neg h3] at h0
  split
  · rename_i h19
    rw [if_pos h19] at h0
    split
    · refine ⟨by rw [hN, if_pos h19]; simp, ?_⟩
      rw [h19] at hf' ⊢
      exact len_int (k := 0) (m := 0) rfl (by omega) rfl _ _ rfl rfl
    · rename_i q; rw [if_neg q] at h0; simp at h0
  rename_i h19
  rw [if_neg h19] at h0
  split
  · rename_i h20
    rw [if_pos h20] at h0
    have hst : ∀ x : Int, ((D.st.take (D.st.length - 1) ++ ([] : List Int)).length : Int) = (D.st.length : Int) - popV 20 + pushV 20 := fun _ =>
      len_int (k := 1) (m := 0) rfl (by rw [h20] at hf'; have := hf'.1; have : popV 20 = 1 := rfl; omega) rfl _ _ rfl rfl
    split
    · refine ⟨by rw [hN, if_neg h19, if_pos h20]; simp, ?_⟩
      rw [h20]; exact hst 0
    · rename_i q
      rw [if_neg q] at h0
      split
      · refine ⟨by rw [hN, if_neg h19, if_pos h20]; simp, ?_⟩
        rw [h20]; exact hst 0
      · rename_i q2; rw [if_neg q2] at h0; simp at h0
  rename_i h20
  refine ⟨by rw [hN, if_neg h19, if_neg h20, if_neg (by omega), if_neg (by omega), if_neg (by omega)]; simp, ?_⟩
  exact len_int (k := (popV i.op).toNat) (m := (pushV i.op).toNat) (by omega) (by omega) (by have := push_le i.op; omega) _ _ rfl (by have := push_count D i (D.st.drop (D.st.length - (popV i.op).toNat)) hpo'; omega)

/-- Where it stands: at a place, the stack as deep as is told. -/
def AtD (l : List InsD) (d : List Int) (D : WD) : Prop := 0 ≤ D.pc ∧ D.pc < l.length ∧ dAt d D.pc.toNat = (D.st.length : Int)
theorem AtD.step {l : List InsD} {d : List Int} (hd : DepOk l d) {D : WD} (h : AtD l d D) (h0 : (stepW l D).1 = 0) : AtD l d (stepW l D).2 := by
  obtain ⟨h1, h2, h3⟩ := h
  obtain ⟨_, _, g1, g2⟩ := stepW_goes h0
  have hs := hd.set_ D.pc.toNat (by omega) (by rw [h3]; omega)
  obtain ⟨n1, n2, n3⟩ := hs.nxt _ g1
  refine ⟨n1, n2, ?_⟩
  rw [n3, g2]
  unfold behV
  rw [h3]
theorem AtD.pln {l : List InsD} {d : List Int} (hd : DepOk l d) : ∀ (n : Nat) {D : WD}, AtD l d D → AtD l d (plnN l n D).2
  | 0, D, h => by
    unfold plnN
    split
    · exact h
    · split
      · exact h
      · exact h
  | n + 1, D, h => by
    unfold plnN
    split
    · exact h
    · split
      · exact h
      · split
        · rename_i h0
          exact AtD.pln hd n (AtD.step hd (D := { D with fuel := D.fuel - 1 }) h h0)
        · exact h
theorem AtD.start {l : List InsD} {d : List Int} (hd : DepOk l d) (hl : 0 < l.length) (f : Int) (a b c e : Int) : AtD l d ⟨0, [], a, b, c, e, [], f⟩ := ⟨Int.le_refl 0, by show (0 : Int) < _; omega, hd.zero hl⟩

end Go.Proofs.Ytlndbligbpfdpaa
