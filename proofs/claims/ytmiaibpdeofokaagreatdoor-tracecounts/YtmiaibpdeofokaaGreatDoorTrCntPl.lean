/-
  package trace: BEFORE AND MEET AS PLAIN DATA, of both sides.
-/
import Derived.Test.YtmiaibpdeofokaaGreatDoorTrConfG
import Derived.Test.YtmiaibpdeofokaaGreatDoorTrRMeet
import Derived.Test.YtmiaibpdeofokaaGreatDoorAllB
namespace Go.Proofs.YtmiaibpdeofokaaGreatDoor
set_option linter.unusedVariables false
set_option linter.unusedSimpArgs false
open Go.RowKit Go.Maps

theorem bg_le {l : List EvD} {x : Int} {j : Nat} (hj : j < l.length) (ha : l[j].a = x) (hk : l[j].k = 1) : ∀ k, j < k → k ≤ l.length → begN l x k ≤ (j : Int) := by
  intro k
  induction k with
  | zero => intro h; omega
  | succ k ih =>
    intro h1 h2
    rw [begN_succ (by omega)]
    by_cases e : j = k
    · subst e
      rw [if_pos ha]
      unfold begQ
      rw [if_pos hk]
      omega
    · have := ih (by omega) (by omega)
      unfold begQ
      split
      · split <;> omega
      · omega
theorem bg_ge {l : List EvD} {x : Int} {c : Int} (hc : c ≤ l.length) (h : ∀ j (hj : j < l.length), l[j].a = x → l[j].k = 1 → c ≤ (j : Int)) : ∀ k, k ≤ l.length → c ≤ begN l x k := by
  intro k
  induction k with
  | zero => intro _; exact hc
  | succ k ih =>
    intro h2
    have i0 := ih (by omega)
    rw [begN_succ (by omega)]
    by_cases ha : l[k].a = x
    · rw [if_pos ha]
      unfold begQ
      by_cases hk : l[k].k = 1
      · rw [if_pos hk]
        have := h k (by omega) ha hk
        omega
      · rw [if_neg hk]; exact i0
    · rw [if_neg ha]; exact i0
theorem en_lt {l : List EvD} {a : Int} {n : Nat} (hn : n ≤ l.length) : ∀ k, k ≤ l.length → (endN l a k < (n : Int) ↔ endS l (min k n) a = true) := by
  intro k
  induction k with
  | zero =>
    intro _
    have e : min 0 n = 0 := by omega
    rw [e]
    unfold endN endS seenS
    simp
    omega
  | succ k ih =>
    intro h2
    have i0 := ih (by omega)
    rw [endN_succ (by omega)]
    by_cases hkn : k < n
    · have e1 : min (k + 1) n = k + 1 := by omega
      have e2 : min k n = k := by omega
      rw [e1, endS_snoc (by omega)]
      rw [e2] at i0
      by_cases ha : l[k].a = a
      · rw [if_pos ha]
        unfold endQ
        by_cases hk : l[k].k = 8 ∨ l[k].k = 9
        · rw [if_pos hk]
          have : (decide (l[k].a = a) && (decide (l[k].k = 8) || decide (l[k].k = 9))) = true := by simp [ha]; exact hk
          rw [this, Bool.or_true]
          simp
          omega
        · rw [if_neg hk]
          have : (decide (l[k].a = a) && (decide (l[k].k = 8) || decide (l[k].k = 9))) = false := by
            have h8 : ¬ l[k].k = 8 := fun h => hk (.inl h)
            have h9 : ¬ l[k].k = 9 := fun h => hk (.inr h)
            simp [h8, h9]
          rw [this, Bool.or_false]
          exact i0
      · rw [if_neg ha]
        have : (decide (l[k].a = a) && (decide (l[k].k = 8) || decide (l[k].k = 9))) = false := by simp [ha]
        rw [this, Bool.or_false]
        exact i0
    · have e1 : min (k + 1) n = min k n := by omega
      rw [e1, ← i0]
      unfold endQ
      split
      · split <;> omega
      · exact Iff.rfl
theorem bef_go {l : List EvD} {a b : Int} (hb : ∃ e ∈ l, e.k = 1 ∧ e.a = b) : ∀ n k, k + n = l.length → (∀ i (hi : i < l.length), i < k → ¬ (l[i].k = 1 ∧ l[i].a = b)) → befS a b (endS l k a) (l.drop k) = decide (endN l a l.length < begN l b l.length) := by
  intro n
  induction n with
  | zero =>
    intro k hk hno
    obtain ⟨e, he, h1⟩ := hb
    obtain ⟨i, hi, rfl⟩ := List.getElem_of_mem he
    exact absurd h1 (hno i hi (by omega))
  | succ n ih =>
    intro k hk hno
    have hkl : k < l.length := by omega
    rw [List.drop_eq_getElem_cons hkl, befS]
    by_cases h : l[k].k = 1 ∧ l[k].a = b
    · rw [if_pos h]
      have e1 := bg_le hkl h.2 h.1 l.length hkl (Nat.le_refl _)
      have e2 := bg_ge (l := l) (x := b) (c := k) (by omega) (fun j hj h1 h2 => by
        by_cases hjk : j < k
        · exact absurd ⟨h2, h1⟩ (hno j hj hjk)
        · omega) l.length (Nat.le_refl _)
      have e3 : begN l b l.length = (k : Int) := by omega
      have e4 := en_lt (l := l) (a := a) (n := k) (by omega) l.length (Nat.le_refl _)
      have e5 : min l.length k = k := by omega
      rw [e5] at e4
      rw [e3, Bool.eq_iff_iff, decide_eq_true_iff]
      exact e4.symm
    · rw [if_neg h, ← endS_snoc hkl]
      refine ih (k + 1) (by omega) (fun i hi hik => ?_)
      by_cases e : i = k
      · subst e; exact h
      · exact hno i hi (by omega)
theorem att_at {l : List EvD} {i : Nat} (hi : i < (attS l).length) : ∃ e ∈ l, e.k = 1 ∧ e.a = attG l i := by
  have e : attG l i = (attS l)[i] := by unfold attG; rw [List.getD_eq_getElem?_getD, List.getElem?_eq_getElem hi]; rfl
  rw [e]
  exact (attSm l _).1 (List.getElem_mem hi)
theorem befC_eq {l : List EvD} {i j : Nat} (hj : j < (attS l).length) : befC l i j = befS (attG l i) (attG l j) false l := by
  have := bef_go (a := attG l i) (att_at hj) l.length 0 (by omega) (fun i hi h => by omega)
  have e : endS l 0 (attG l i) = false := by unfold endS seenS; simp
  rw [e, List.drop_zero] at this
  rw [this]
  rfl

theorem tch_A {l : List EvD} {x t : Int} : ∀ k, k ≤ l.length → ∀ m, tchN l x k t = some m → ∃ i, ∃ hi : i < l.length, l[i].a = x ∧ l[i].t = t ∧ l[i].k = m ∧ (m = 2 ∨ m = 3) := by
  intro k
  induction k with
  | zero => intro _ m h; unfold tchN at h; cases h
  | succ k ih =>
    intro hk m h
    have hkl : k < l.length := by omega
    rw [tchN_succ hkl] at h
    by_cases ha : l[k].a = x
    · rw [if_pos ha] at h
      unfold tchQ at h
      by_cases hb : tchB l[k] = true
      · rw [if_pos hb] at h
        have hb' : l[k].k = 2 ∨ l[k].k = 3 := by unfold tchB at hb; simpa using hb
        by_cases ht : l[k].t = t
        · rw [← ht, updF_same] at h
          rw [ht] at h
          cases hq : tchN l x k t with
          | none =>
            rw [hq] at h
            simp at h
            exact ⟨k, hkl, ha, ht, by omega, by omega⟩
          | some m0 =>
            rw [hq] at h
            simp at h
            obtain ⟨i, hi, h1, h2, h3, h4⟩ := ih (by omega) m0 hq
            by_cases hm : m0 ≤ l[k].k
            · exact ⟨k, hkl, ha, ht, by omega, by omega⟩
            · exact ⟨i, hi, h1, h2, by omega, by omega⟩
        · rw [updF_other _ _ (fun e => ht e.symm)] at h
          exact ih (by omega) m h
      · rw [if_neg hb] at h
        exact ih (by omega) m h
    · rw [if_neg ha] at h
      exact ih (by omega) m h
theorem tch_B {l : List EvD} {x t : Int} : ∀ k, k ≤ l.length → ∀ i (hi : i < l.length), i < k → l[i].a = x → l[i].t = t → tchB l[i] = true → ∃ m, tchN l x k t = some m ∧ l[i].k ≤ m := by
  intro k
  induction k with
  | zero => intro _ i hi h; omega
  | succ k ih =>
    intro hk i hi hik ha ht hb
    have hkl : k < l.length := by omega
    rw [tchN_succ hkl]
    by_cases e : i = k
    · subst e
      rw [if_pos ha]
      unfold tchQ
      rw [if_pos hb, ht, updF_same]
      exact ⟨_, rfl, by omega⟩
    · obtain ⟨m, h1, h2⟩ := ih (by omega) i hi (by omega) ha ht hb
      by_cases ha2 : l[k].a = x
      · rw [if_pos ha2]
        unfold tchQ
        by_cases hb2 : tchB l[k] = true
        · rw [if_pos hb2]
          by_cases ht2 : l[k].t = t
          · rw [ht2, updF_same, h1]
            exact ⟨_, rfl, by simp; omega⟩
          · rw [updF_other _ _ (fun e => ht2 e.symm)]
            exact ⟨m, h1, h2⟩
        · rw [if_neg hb2]; exact ⟨m, h1, h2⟩
      · rw [if_neg ha2]; exact ⟨m, h1, h2⟩
theorem meetS_iff {l : List EvD} (hwf : ∀ e ∈ l, e.Wf) (a b : Int) : meetS l a b = true ↔ Meets (tchN l a l.length) (tchN l b l.length) := by
  constructor
  · intro h
    unfold meetS at h
    rw [List.any_eq_true] at h
    obtain ⟨x, hx, h⟩ := h
    rw [List.any_eq_true] at h
    obtain ⟨y, hy, h⟩ := h
    unfold mtB at h
    simp at h
    obtain ⟨h1, h2, h3, h4⟩ := h
    obtain ⟨i, hi, rfl⟩ := List.getElem_of_mem hx
    obtain ⟨j, hj, rfl⟩ := List.getElem_of_mem hy
    have bi : tchB l[i] = true := by unfold tchB; simp; omega
    have bj : tchB l[j] = true := by unfold tchB; simp; omega
    obtain ⟨m1, e1, g1⟩ := tch_B (x := a) l.length (Nat.le_refl _) i hi hi h1 h3 bi
    obtain ⟨m2, e2, g2⟩ := tch_B (x := b) l.length (Nat.le_refl _) j hj hj h2 rfl bj
    obtain ⟨_, _, _, _, _, c1⟩ := tch_A l.length (Nat.le_refl _) m1 e1
    obtain ⟨_, _, _, _, _, c2⟩ := tch_A l.length (Nat.le_refl _) m2 e2
    exact ⟨l[j].t, m1, m2, (hwf _ hy).t, e1, e2, by omega⟩
  · rintro ⟨t, m1, m2, _, e1, e2, hm⟩
    obtain ⟨i, hi, a1, a2, a3, c1⟩ := tch_A l.length (Nat.le_refl _) m1 e1
    obtain ⟨j, hj, b1, b2, b3, c2⟩ := tch_A l.length (Nat.le_refl _) m2 e2
    unfold meetS
    refine any_at hi (any_at hj ?_)
    unfold mtB
    rw [a1, b1, a2, b2, a3, b3]
    simp
    omega

end Go.Proofs.YtmiaibpdeofokaaGreatDoor
