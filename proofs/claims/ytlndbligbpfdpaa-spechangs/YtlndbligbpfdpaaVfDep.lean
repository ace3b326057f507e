/-
  package verify: HOW MANY VALUES STAND AHEAD OF EACH PLACE, AS PLAIN DATA. No walk.
-/
import Derived.Test.YtlndbligbpfdpaaVfPlain
import Derived.Test.YtlndbligbpfdpaaCdPop
namespace Go.Proofs.Ytlndbligbpfdpaa
set_option linter.unusedVariables false
set_option linter.unusedSimpArgs false
open Go.RowKit

def nextV (l : List InsD) (i : Nat) : List Int :=
  if opAt l i = 19 then [argAt l i] else if opAt l i = 20 then [(i : Int) + 1, argAt l i] else if opAt l i = 23 then [(i : Int) + 1, argAt l i + 1] else if opAt l i = 24 then [argAt l i + 1]
  else if opAt l i = 26 ∨ opAt l i = 28 then [] else [(i : Int) + 1]
def dAt (D : List Int) (n : Nat) : Int := D.getD n (-1)
/-- One next place: the error so far, the numbers, the least place that is new. -/
def sprS (N : Nat) (beh : Int) (st : Int × List Int × Int) (n : Int) : Int × List Int × Int :=
  if st.1 ≠ 0 then st else if n < 0 ∨ (N : Int) ≤ n then (3, st.2) else if dAt st.2.1 n.toNat = -1 then (0, st.2.1.set n.toNat beh, min st.2.2 n) else if dAt st.2.1 n.toNat ≠ beh then (12, st.2) else st
def behV (l : List InsD) (D : List Int) (i : Nat) : Int := dAt D i - popV (opAt l i) + pushV (opAt l i)
def sprV (l : List InsD) (D : List Int) (i : Nat) : Int × List Int × Int :=
  if dAt D i < popV (opAt l i) ∨ 12 < behV l D i then (12, D, l.length) else (nextV l i).foldl (sprS l.length (behV l D i)) (0, D, l.length)

theorem spr_err {N : Nat} {beh : Int} {st : Int × List Int × Int} (h : st.1 ≠ 0) : ∀ ns : List Int, ns.foldl (sprS N beh) st = st
  | [] => rfl
  | n :: ns => by
    rw [List.foldl_cons]
    have : sprS N beh st n = st := by unfold sprS; rw [if_pos h]
    rw [this]
    exact spr_err h ns
/-- What became of the numbers, if nothing was wrong. -/
structure Ext (N : Nat) (beh : Int) (D : List Int) (m : Int) (D' : List Int) (m' : Int) : Prop where
  len : D'.length = D.length
  old : ∀ j, dAt D j ≠ -1 → dAt D' j = dAt D j
  new : ∀ j, dAt D j = -1 → dAt D' j = -1 ∨ (dAt D' j = beh ∧ m' ≤ j)
  le : m' ≤ m
  lst : m' = m ∨ ∃ j : Nat, m' = j ∧ j < N ∧ dAt D j = -1 ∧ dAt D' j = beh
theorem Ext.refl (N : Nat) (beh : Int) (D : List Int) (m : Int) : Ext N beh D m D m := ⟨rfl, fun _ _ => rfl, fun _ h => .inl h, Int.le_refl _, .inl rfl⟩
theorem dAt_set {D : List Int} {n j : Nat} {x : Int} (h : n < D.length) : dAt (D.set n x) j = if j = n then x else dAt D j := by
  unfold dAt
  rw [List.getD_eq_getElem?_getD, List.getD_eq_getElem?_getD, List.getElem?_set]
  split
  · rename_i e; subst e; simp [h]
  · rename_i e; rw [if_neg (fun q => e q.symm)]
theorem Ext.trans {N : Nat} {beh : Int} {D D1 D2 : List Int} {m m1 m2 : Int} (hb : beh ≠ -1) (a : Ext N beh D m D1 m1) (b : Ext N beh D1 m1 D2 m2) : Ext N beh D m D2 m2 := by
  refine ⟨b.len.trans a.len, fun j hj => ?_, fun j hj => ?_, Int.le_trans b.le a.le, ?_⟩
  · rw [b.old j (by rw [a.old j hj]; exact hj), a.old j hj]
  · rcases a.new j hj with e | ⟨e, hle⟩
    · exact b.new j e
    · right; rw [b.old j (by rw [e]; exact hb)]; exact ⟨e, Int.le_trans b.le hle⟩
  · rcases b.lst with e | ⟨j, e, hj, h1, h2⟩
    · rcases a.lst with e1 | ⟨j, e1, hj, h1, h2⟩
      · left; omega
      · right; exact ⟨j, by omega, hj, h1, by rw [b.old j (by rw [h2]; exact hb)]; exact h2⟩
    · right
      refine ⟨j, e, hj, ?_, h2⟩
      by_cases hd : dAt D j = -1
      · exact hd
      · rw [a.old j hd] at h1; exact absurd h1 hd
theorem ext_set {N : Nat} {beh : Int} {D : List Int} {m : Int} {n : Nat} (hn : n < D.length) (hN : n < N) (h : dAt D n = -1) : Ext N beh D m (D.set n beh) (min m n) := by
  refine ⟨by simp, fun j hj => ?_, fun j hj => ?_, by omega, ?_⟩
  · rw [dAt_set hn, if_neg (fun e => by subst e; exact hj h)]
  · rw [dAt_set hn]
    split
    · rename_i e; subst e; right; exact ⟨rfl, by omega⟩
    · left; exact hj
  · by_cases hm : m ≤ n
    · left; omega
    · right; exact ⟨n, by omega, hN, h, by rw [dAt_set hn]; simp⟩
theorem sprS_far {N : Nat} {beh : Int} {D : List Int} {m n : Int} (h : n < 0 ∨ (N : Int) ≤ n) : sprS N beh (0, D, m) n = (3, D, m) := by
  unfold sprS; rw [if_neg (by simp), if_pos h]
theorem sprS_new {N : Nat} {beh : Int} {D : List Int} {m n : Int} (h : ¬ (n < 0 ∨ (N : Int) ≤ n)) (h2 : dAt D n.toNat = -1) : sprS N beh (0, D, m) n = (0, D.set n.toNat beh, min m n) := by
  unfold sprS; rw [if_neg (by simp), if_neg h, if_pos h2]
theorem sprS_bad {N : Nat} {beh : Int} {D : List Int} {m n : Int} (h : ¬ (n < 0 ∨ (N : Int) ≤ n)) (h2 : dAt D n.toNat ≠ -1) (h3 : dAt D n.toNat ≠ beh) : sprS N beh (0, D, m) n = (12, D, m) := by
  unfold sprS; rw [if_neg (by simp), if_neg h, if_neg h2, if_pos h3]
theorem sprS_ok {N : Nat} {beh : Int} {D : List Int} {m n : Int} (h : ¬ (n < 0 ∨ (N : Int) ≤ n)) (h2 : dAt D n.toNat ≠ -1) (h3 : dAt D n.toNat = beh) : sprS N beh (0, D, m) n = (0, D, m) := by
  unfold sprS; rw [if_neg (by simp), if_neg h, if_neg h2, if_neg (fun q => q h3)]
theorem spr_fold {N : Nat} {beh : Int} (hb : beh ≠ -1) : ∀ (ns : List Int) (D : List Int) (m : Int), D.length = N → ∀ D' m', ns.foldl (sprS N beh) (0, D, m) = (0, D', m') → Ext N beh D m D' m' ∧ ∀ n ∈ ns, 0 ≤ n ∧ n < N ∧ dAt D' n.toNat = beh
  | [], D, m, hl, D', m', h => by
    simp only [List.foldl_nil, Prod.mk.injEq] at h
    obtain ⟨_, rfl, rfl⟩ := h
    exact ⟨Ext.refl _ _ _ _, by simp⟩
  | n :: ns, D, m, hl, D', m', h => by
    rw [List.foldl_cons] at h
    by_cases h1 : n < 0 ∨ (N : Int) ≤ n
    · rw [sprS_far h1, spr_err (by simp)] at h
      simp at h
    · by_cases h2 : dAt D n.toNat = -1
      · rw [sprS_new h1 h2] at h
        have hn : n.toNat < D.length := by omega
        obtain ⟨i1, i2⟩ := spr_fold hb ns _ _ (by simp [hl]) D' m' h
        have e1 := ext_set (N := N) (beh := beh) (m := m) hn (by omega) h2
        have hc : (n.toNat : Int) = n := by omega
        rw [hc] at e1
        refine ⟨e1.trans hb i1, ?_⟩
        intro x hx
        rcases List.mem_cons.1 hx with rfl | hx
        · refine ⟨by omega, by omega, ?_⟩
          have e2 : dAt (D.set x.toNat beh) x.toNat = beh := by rw [dAt_set hn]; simp
          rw [i1.old _ (by rw [e2]; exact hb), e2]
        · exact i2 x hx
      · by_cases h3 : dAt D n.toNat ≠ beh
        · rw [sprS_bad h1 h2 h3, spr_err (by simp)] at h
          simp at h
        · rw [sprS_ok h1 h2 (Classical.not_not.1 h3)] at h
          obtain ⟨i1, i2⟩ := spr_fold hb ns D m hl D' m' h
          refine ⟨i1, ?_⟩
          intro x hx
          rcases List.mem_cons.1 hx with rfl | hx
          · refine ⟨by omega, by omega, ?_⟩
            rw [i1.old _ h2]
            exact Classical.not_not.1 h3
          · exact i2 x hx

/-- Going through a place again has nothing new to tell. -/
structure Settled (l : List InsD) (D : List Int) (i : Nat) : Prop where
  has : dAt D i ≠ -1
  pop : ¬ dAt D i < popV (opAt l i)
  top : ¬ 12 < behV l D i
  nxt : ∀ n ∈ nextV l i, 0 ≤ n ∧ n < l.length ∧ dAt D n.toNat = behV l D i
theorem spr_still {N : Nat} {beh : Int} {D : List Int} {m : Int} (hb : beh ≠ -1) : ∀ ns : List Int, (∀ n ∈ ns, 0 ≤ n ∧ n < (N : Int) ∧ dAt D n.toNat = beh) → ns.foldl (sprS N beh) (0, D, m) = (0, D, m)
  | [], _ => rfl
  | n :: ns, h => by
    rw [List.foldl_cons]
    obtain ⟨h1, h2, h3⟩ := h n (by simp)
    rw [sprS_ok (by omega) (by rw [h3]; exact hb) h3]
    exact spr_still hb ns (fun x hx => h x (by simp [hx]))
theorem beh_ge {l : List InsD} {D : List Int} {i : Nat} (h : ¬ dAt D i < popV (opAt l i)) : 0 ≤ behV l D i := by
  have := push_le (opAt l i)
  unfold behV
  omega
theorem Settled.spr {l : List InsD} {D : List Int} {i : Nat} (h : Settled l D i) : sprV l D i = (0, D, (l.length : Int)) := by
  unfold sprV
  rw [if_neg (fun q => q.elim h.pop h.top)]
  exact spr_still (by have := beh_ge h.pop; omega) _ h.nxt
theorem Settled.ext {l : List InsD} {D D' : List Int} {i : Nat} {beh m m' : Int} (h : Settled l D i) (e : Ext l.length beh D m D' m') : Settled l D' i := by
  have h0 : dAt D' i = dAt D i := e.old i h.has
  have hb : behV l D' i = behV l D i := by unfold behV; rw [h0]
  refine ⟨by rw [h0]; exact h.has, by rw [h0]; exact h.pop, by rw [hb]; exact h.top, fun n hn => ?_⟩
  obtain ⟨h1, h2, h3⟩ := h.nxt n hn
  have := beh_ge h.pop
  exact ⟨h1, h2, by rw [hb, e.old _ (by rw [h3]; omega)]; exact h3⟩
theorem spr_settled {l : List InsD} {D D' : List Int} {i : Nat} {m : Int} (hl : D.length = l.length) (hi : dAt D i ≠ -1) (h : sprV l D i = (0, D', m)) : Ext l.length (behV l D i) D l.length D' m ∧ Settled l D' i ∧ 0 ≤ behV l D i ∧ behV l D i ≤ 12 := by
  unfold sprV at h
  split at h
  · simp at h
  · rename_i hq
    have h1 : ¬ dAt D i < popV (opAt l i) := fun q => hq (.inl q)
    have h2 : ¬ 12 < behV l D i := fun q => hq (.inr q)
    have h0 := beh_ge h1
    obtain ⟨e, hn⟩ := spr_fold (by omega) _ D _ hl D' m h
    have e0 : dAt D' i = dAt D i := e.old i hi
    have hb : behV l D' i = behV l D i := by unfold behV; rw [e0]
    exact ⟨e, ⟨by rw [e0]; exact hi, by rw [e0]; exact h1, by rw [hb]; exact h2, by rw [hb]; exact hn⟩, h0, by omega⟩

/-! ### All rounds -/
def leastV (D : List Int) (G : List Bool) (N : Nat) : Option Nat := (List.range N).find? fun i => decide (dAt D i ≠ -1) && !G.getD i false
/-- The error, the place, the numbers. -/
def roundsV (l : List InsD) : Nat → List Int → List Bool → Int × Nat × List Int
  | 0, D, _ => (0, 0, D)
  | n + 1, D, G => match leastV D G l.length with
    | none => (0, 0, D)
    | some i => if (sprV l D i).1 ≠ 0 then ((sprV l D i).1, i, []) else roundsV l n (sprV l D i).2.1 (G.set i true)
def finV (l : List InsD) (D : List Int) (G : List Bool) : Int × Nat × List Int := roundsV l (G.count false) D G
theorem count_set {G : List Bool} {i : Nat} (hi : i < G.length) (h : G.getD i false = false) : G.count false = (G.set i true).count false + 1 := by
  have hg : G[i] = false := by simpa [List.getD_eq_getElem?_getD, hi] using h
  rw [List.count_set hi, hg]
  have : 0 < G.count false := List.count_pos_iff.2 (by rw [← hg]; exact List.getElem_mem hi)
  simp
  omega
theorem least_some {D : List Int} {G : List Bool} {N i : Nat} (hi : i < N) (h1 : dAt D i ≠ -1) (h2 : G.getD i false = false) (h3 : ∀ j < i, dAt D j ≠ -1 → G.getD j false = true) : leastV D G N = some i := by
  unfold leastV
  rw [List.find?_eq_some_iff_getElem]
  refine ⟨by rw [h2]; simp [h1], i, by simpa using hi, by simp, fun j hj => ?_⟩
  simp only [List.getElem_range]
  by_cases hd : dAt D j = -1
  · simp [hd]
  · rw [h3 j hj hd]; simp
theorem least_none {D : List Int} {G : List Bool} {N : Nat} (h : ∀ j < N, dAt D j ≠ -1 → G.getD j false = true) : leastV D G N = none := by
  unfold leastV
  rw [List.find?_eq_none]
  intro j hj
  have := h j (by simpa using hj)
  by_cases hd : dAt D j = -1
  · simp [hd]
  · rw [this hd]; simp

/-- How far the walk is: all ahead of a place is gone through. -/
structure WInv (l : List InsD) (D : List Int) (G : List Bool) (at_ : Nat) : Prop where
  dl : D.length = l.length
  gl : G.length = l.length
  rng : ∀ j, -1 ≤ dAt D j ∧ dAt D j ≤ 12
  low : ∀ j < at_, dAt D j ≠ -1 → G.getD j false = true
  set_ : ∀ j < l.length, G.getD j false = true → Settled l D j
theorem WInv.skip {l : List InsD} {D : List Int} {G : List Bool} {a : Nat} (h : WInv l D G a) (ha : dAt D a = -1) : WInv l D G (a + 1) :=
  ⟨h.dl, h.gl, h.rng, fun j hj hd => h.low j (by rcases Nat.lt_succ_iff_lt_or_eq.1 hj with q | q; exact q; subst q; exact absurd ha hd) hd, h.set_⟩
theorem WInv.done {l : List InsD} {D : List Int} {G : List Bool} (h : WInv l D G l.length) : finV l D G = (0, 0, D) := by
  unfold finV
  cases G.count false with
  | zero => rfl
  | succ n => unfold roundsV; rw [least_none h.low]
theorem rounds_some {l : List InsD} {D : List Int} {G : List Bool} {n i : Nat} (h : leastV D G l.length = some i) : roundsV l (n + 1) D G = if (sprV l D i).1 ≠ 0 then ((sprV l D i).1, i, []) else roundsV l n (sprV l D i).2.1 (G.set i true) := by
  conv => lhs; unfold roundsV
  rw [h]
theorem WInv.step {l : List InsD} {D : List Int} {G : List Bool} {a : Nat} (h : WInv l D G a) (ha : a < l.length) (hd : dAt D a ≠ -1) :
    ((sprV l D a).1 ≠ 0 → finV l D G = ((sprV l D a).1, a, [])) ∧
    ((sprV l D a).1 = 0 → ∃ G', finV l D G = finV l (sprV l D a).2.1 G' ∧ WInv l (sprV l D a).2.1 G' (if (sprV l D a).2.2 < (a : Int) then (sprV l D a).2.2.toNat else a + 1) ∧ ((sprV l D a).2.2 < (a : Int) → ∃ j : Nat, (sprV l D a).2.2 = j ∧ j < l.length ∧ dAt D j = -1 ∧ dAt (sprV l D a).2.1 j ≠ -1)) := by
  by_cases hg : G.getD a false = true
  · have hs := (h.set_ a ha hg).spr
    rw [hs]
    refine ⟨fun q => absurd rfl q, fun _ => ⟨G, rfl, ?_, fun q => absurd q (by simp only; omega)⟩⟩
    rw [if_neg (by simp only; omega)]
    exact ⟨h.dl, h.gl, h.rng, fun j hj hd2 => by
      rcases Nat.lt_succ_iff_lt_or_eq.1 hj with q | q
      · exact h.low j q hd2
      · subst q; exact hg, h.set_⟩
  · have hg' : G.getD a false = false := by simpa using hg
    have hle := least_some ha hd hg' h.low
    have hc := count_set (by rw [h.gl]; exact ha) hg'
    have hfin : finV l D G = if (sprV l D a).1 ≠ 0 then ((sprV l D a).1, a, []) else finV l (sprV l D a).2.1 (G.set a true) := by
      unfold finV
      rw [hc, rounds_some hle]
    refine ⟨fun q => by rw [hfin, if_pos q], fun q => ⟨G.set a true, by rw [hfin, if_neg (by simp [q])], ?_, ?_⟩⟩
    · obtain ⟨e, hst, hb0, hb12⟩ := spr_settled h.dl hd (D' := (sprV l D a).2.1) (m := (sprV l D a).2.2) (by rw [← q])
      have hlow : ∀ j : Nat, (j : Int) < (sprV l D a).2.2 → j < a + 1 → dAt (sprV l D a).2.1 j ≠ -1 → (G.set a true).getD j false = true := by
        intro j h1 h2 h3
        by_cases hja : j = a
        · subst hja
          have : j < G.length := by rw [h.gl]; exact ha
          simp [List.getD_eq_getElem?_getD, this]
        · have h4 : dAt D j ≠ -1 := fun q2 => by
            rcases e.new j q2 with q3 | ⟨_, q3⟩
            · exact h3 q3
            · omega
          have := h.low j (by omega) h4
          rw [List.getD_eq_getElem?_getD] at this ⊢
          rw [List.getElem?_set_ne (fun q => hja q.symm)]
          exact this
      refine ⟨e.len.trans h.dl, by simpa using h.gl, fun j => ?_, ?_, fun j hj hgj => ?_⟩
      · by_cases h4 : dAt D j = -1
        · rcases e.new j h4 with q3 | ⟨q3, _⟩ <;> omega
        · rw [e.old j h4]; exact h.rng j
      · intro j hj h3
        split at hj
        · rename_i hm
          refine hlow j ?_ (by omega) h3
          rcases e.lst with q3 | ⟨i, q3, _⟩ <;> omega
        · rename_i hm
          by_cases hja : j = a
          · subst hja
            have : j < G.length := by rw [h.gl]; exact ha
            simp [List.getD_eq_getElem?_getD, this]
          · refine hlow j ?_ hj h3
            omega
      · by_cases hja : j = a
        · subst hja; exact hst
        · rw [List.getD_eq_getElem?_getD, List.getElem?_set_ne (fun q => hja q.symm), ← List.getD_eq_getElem?_getD] at hgj
          exact (h.set_ j hj hgj).ext e
    · intro hm
      obtain ⟨e, hst, hb0, hb12⟩ := spr_settled h.dl hd (D' := (sprV l D a).2.1) (m := (sprV l D a).2.2) (by rw [← q])
      rcases e.lst with q3 | ⟨j, q3, q4, q5, q6⟩
      · omega
      · exact ⟨j, q3, q4, q5, by rw [q6]; omega⟩

def beginD (N : Nat) : List Int := match N with | 0 => [] | n + 1 => 0 :: List.replicate n (-1)
/-- The error, the place, the numbers of Depths. -/
def depV (l : List InsD) : Int × Nat × List Int := match regV l with | some k => (8, k, []) | none => roundsV l l.length (beginD l.length) (List.replicate l.length false)
theorem fin_begin (l : List InsD) : finV l (beginD l.length) (List.replicate l.length false) = roundsV l l.length (beginD l.length) (List.replicate l.length false) := by
  unfold finV; rw [List.count_replicate_self]
theorem begin_inv (l : List InsD) : WInv l (beginD l.length) (List.replicate l.length false) 0 := by
  refine ⟨by cases l.length <;> simp [beginD], by simp, fun j => ?_, fun j hj => by omega, fun j hj h => ?_⟩
  · unfold dAt beginD
    cases l.length with
    | zero => simp
    | succ n =>
      cases j with
      | zero => simp
      | succ j =>
        rw [List.getD_cons_succ, List.getD_eq_getElem?_getD]
        by_cases hj : j < n
        · simp [hj]
        · rw [List.getElem?_eq_none (by simp; omega)]; simp
  · rw [List.getD_eq_getElem?_getD, List.getElem?_replicate] at h
    split at h <;> simp at h

end Go.Proofs.Ytlndbligbpfdpaa
