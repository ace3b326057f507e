/-
  THE STRIPES OF VARIABLES, AS PLAIN DATA: rising, each once. No walk.
-/
import Derived.Lib.SlicesCompact
namespace Go.Proofs.YtnlamhmjlgaomaaDoor
set_option linter.unusedVariables false
set_option linter.unusedSimpArgs false

/-- The stripe of a variable, of n. -/
def ofP (n : Nat) (v : Int) : Int := if 0 ≤ v ∧ v < 12 then (v * 5 + 3) % n else -1
/-- Those of some that are, as they come. -/
def rawP (n : Nat) (l : List Int) : List Int := (l.map (ofP n)).filter fun s => decide (0 ≤ s)
/-- The first k stripes that are one of some variable's. -/
def stripesP (n : Nat) (l : List Int) (k : Nat) : List Int := ((List.range k).filter fun (s : Nat) => l.any fun v => decide (ofP n v = (s : Int))).map fun (s : Nat) => (s : Int)

theorem ofP_lt {n : Nat} (hn : 0 < n) (v : Int) : ofP n v < n := by
  unfold ofP
  split
  · exact Int.emod_lt_of_pos _ (by omega)
  · omega
theorem ofP_in {n : Nat} (hn : 0 < n) {v : Int} (h0 : 0 ≤ v) (h1 : v < 12) : 0 ≤ ofP n v := by
  unfold ofP
  rw [if_pos ⟨h0, h1⟩]
  exact Int.emod_nonneg _ (by omega)

theorem eq_of_rising : ∀ (a b : List Int), a.Pairwise (· < ·) → b.Pairwise (· < ·) → (∀ x, x ∈ a ↔ x ∈ b) → a = b := by
  intro a
  induction a with
  | nil =>
    intro b _ _ h
    cases b with
    | nil => rfl
    | cons y b => exact absurd ((h y).2 (by simp)) (by simp)
  | cons x a ih =>
    intro b ha hb h
    cases b with
    | nil => exact absurd ((h x).1 (by simp)) (by simp)
    | cons y b =>
      rw [List.pairwise_cons] at ha hb
      have hx := (h x).1 (by simp)
      have hy := (h y).2 (by simp)
      rw [List.mem_cons] at hx hy
      obtain rfl : x = y := by
        rcases hx with e | e
        · exact e
        · rcases hy with e2 | e2
          · exact e2.symm
          · have := hb.1 x e
            have := ha.1 y e2
            omega
      congr 1
      refine ih b ha.2 hb.2 fun z => ⟨fun hz => ?_, fun hz => ?_⟩
      · have h1 := (h z).1 (by simp [hz])
        rw [List.mem_cons] at h1
        rcases h1 with e | e
        · have := ha.1 z hz
          omega
        · exact e
      · have h1 := (h z).2 (by simp [hz])
        rw [List.mem_cons] at h1
        rcases h1 with e | e
        · have := hb.1 z hz
          omega
        · exact e

theorem compactUpTo_rising (d : Array Int) (hs : ∀ i j, i ≤ j → j < d.size → d[i]! ≤ d[j]!) : ∀ m, m ≤ d.size → (Lib.compactUpTo d m).Pairwise (· < ·) ∧ (∀ x, x ∈ Lib.compactUpTo d m ↔ ∃ j, j < m ∧ d[j]! = x) := by
  intro m
  induction m with
  | zero => intro _; simp [Lib.compactUpTo]
  | succ m ih =>
    intro hm
    obtain ⟨h1, h2⟩ := ih (by omega)
    rw [Lib.compactUpTo_succ]
    by_cases hk : Lib.keeps d m = true
    · rw [if_pos hk]
      refine ⟨?_, fun x => ?_⟩
      · rw [List.pairwise_append]
        refine ⟨h1, by simp, fun a ha b hb => ?_⟩
        simp only [List.mem_singleton] at hb
        subst hb
        obtain ⟨j, hj, rfl⟩ := (h2 a).1 ha
        have h3 : m = 0 ∨ d[m]! ≠ d[m - 1]! := by simpa [Lib.keeps] using hk
        have h4 := hs j (m - 1) (by omega) (by omega)
        have h5 := hs (m - 1) m (by omega) (by omega)
        rcases h3 with h3 | h3
        · omega
        · omega
      · rw [List.mem_append, h2]
        constructor
        · rintro (⟨j, hj, e⟩ | e)
          · exact ⟨j, by omega, e⟩
          · simp at e
            exact ⟨m, by omega, by simpa using e.symm⟩
        · rintro ⟨j, hj, e⟩
          by_cases hjm : j < m
          · exact .inl ⟨j, hjm, e⟩
          · obtain rfl : j = m := by omega
            right
            simpa using e.symm
    · rw [if_neg hk, List.append_nil]
      refine ⟨h1, fun x => ?_⟩
      have h3 : ¬ (m = 0 ∨ d[m]! ≠ d[m - 1]!) := by
        intro h
        exact hk (by simpa [Lib.keeps] using h)
      rw [h2]
      constructor
      · rintro ⟨j, hj, e⟩
        exact ⟨j, by omega, e⟩
      · rintro ⟨j, hj, e⟩
        by_cases hjm : j < m
        · exact ⟨j, hjm, e⟩
        · obtain rfl : j = m := by omega
          have h4 : d[j]! = d[j - 1]! := Classical.byContradiction fun hh => h3 (.inr hh)
          exact ⟨j - 1, by omega, by rw [← h4]; exact e⟩

theorem compact_rising (l : List Int) (hs : l.Pairwise (· ≤ ·)) : (Lib.compact l).Pairwise (· < ·) ∧ ∀ x, x ∈ Lib.compact l ↔ x ∈ l := by
  have hg : ∀ i, i < l.length → l.toArray[i]! = l[i]! := fun i hi => by simp
  have hs' : ∀ i j, i ≤ j → j < l.toArray.size → l.toArray[i]! ≤ l.toArray[j]! := by
    intro i j hij hj
    have hj' : j < l.length := by simpa using hj
    have hi' : i < l.length := by omega
    rw [hg i hi', hg j hj', getElem!_pos l i hi', getElem!_pos l j hj']
    rcases Nat.lt_or_ge i j with h | h
    · exact List.pairwise_iff_getElem.1 hs i j hi' hj' h
    · obtain rfl : i = j := by omega
      exact Int.le_refl _
  obtain ⟨h1, h2⟩ := compactUpTo_rising l.toArray hs' l.length (by simp)
  refine ⟨h1, fun x => ?_⟩
  unfold Lib.compact
  rw [h2]
  constructor
  · rintro ⟨j, hj, e⟩
    rw [hg j hj, getElem!_pos l j hj] at e
    exact e ▸ List.getElem_mem hj
  · intro hx
    obtain ⟨j, hj, e⟩ := List.getElem_of_mem hx
    exact ⟨j, hj, by rw [hg j hj, getElem!_pos l j hj]; exact e⟩

theorem mem_rawP {n : Nat} {l : List Int} {x : Int} : x ∈ rawP n l ↔ 0 ≤ x ∧ ∃ v ∈ l, ofP n v = x := by
  unfold rawP
  rw [List.mem_filter, List.mem_map]
  simp
  exact and_comm

theorem mem_stripesP {n : Nat} {l : List Int} {k : Nat} {x : Int} : x ∈ stripesP n l k ↔ 0 ≤ x ∧ x < k ∧ ∃ v ∈ l, ofP n v = x := by
  unfold stripesP
  rw [List.mem_map]
  constructor
  · rintro ⟨s, hs, rfl⟩
    rw [List.mem_filter, List.mem_range, List.any_eq_true] at hs
    obtain ⟨h1, v, hv, h2⟩ := hs
    exact ⟨by omega, by omega, v, hv, by simpa using h2⟩
  · rintro ⟨h0, h1, v, hv, h2⟩
    refine ⟨x.toNat, ?_, by omega⟩
    rw [List.mem_filter, List.mem_range, List.any_eq_true]
    exact ⟨by omega, v, hv, by simp; omega⟩

theorem stripesP_rising (n : Nat) (l : List Int) (k : Nat) : (stripesP n l k).Pairwise (· < ·) := by
  unfold stripesP
  rw [List.pairwise_map]
  refine ((List.pairwise_lt_range (n := k)).filter _).imp ?_
  intro a b h
  omega

/-- WHAT IS SORTED AND MADE ONE EACH IS WHAT IS COUNTED THROUGH. -/
theorem stripes_eq {n : Nat} (hn : 0 < n) (l : List Int) : Lib.compact ((rawP n l).mergeSort fun x y => decide (x ≤ y)) = stripesP n l n := by
  have hs : ((rawP n l).mergeSort fun x y => decide (x ≤ y)).Pairwise (· ≤ ·) := by
    refine (List.pairwise_mergeSort (le := fun x y : Int => decide (x ≤ y)) ?_ ?_ _).imp ?_
    · intro a b c h1 h2
      simp at *
      omega
    · intro a b
      simp
      omega
    · intro a b h
      simpa using h
  obtain ⟨h1, h2⟩ := compact_rising _ hs
  refine eq_of_rising _ _ h1 (stripesP_rising _ _ _) fun x => ?_
  rw [h2, List.mem_mergeSort, mem_rawP, mem_stripesP]
  constructor
  · rintro ⟨h0, v, hv, rfl⟩
    exact ⟨h0, ofP_lt hn v, v, hv, rfl⟩
  · rintro ⟨h0, _, v, hv, rfl⟩
    exact ⟨h0, v, hv, rfl⟩

theorem rawP_nil (n : Nat) : rawP n [] = [] := rfl
theorem rawP_in {n : Nat} {l : List Int} {k : Nat} (hk : k < l.length) (h : 0 ≤ ofP n l[k]) : rawP n (l.take (k + 1)) = rawP n (l.take k) ++ [ofP n l[k]] := by
  unfold rawP
  rw [List.take_succ_eq_append_getElem hk, List.map_append, List.filter_append]
  simp [h]
theorem rawP_out {n : Nat} {l : List Int} {k : Nat} (hk : k < l.length) (h : ¬ 0 ≤ ofP n l[k]) : rawP n (l.take (k + 1)) = rawP n (l.take k) := by
  unfold rawP
  rw [List.take_succ_eq_append_getElem hk, List.map_append, List.filter_append]
  simp [h]
theorem rawP_le (n : Nat) (l : List Int) : (rawP n l).length ≤ l.length := by
  unfold rawP
  refine Nat.le_trans (List.length_filter_le _ _) ?_
  simp
theorem stripesP_le (n : Nat) (l : List Int) (k : Nat) : (stripesP n l k).length ≤ k := by
  unfold stripesP
  rw [List.length_map]
  exact Nat.le_trans (List.length_filter_le _ _) (by simp)
theorem stripesP_zero (n : Nat) (l : List Int) : stripesP n l 0 = [] := rfl
theorem stripesP_in {n : Nat} {l : List Int} {k : Nat} (h : (l.any fun v => decide (ofP n v = (k : Int))) = true) : stripesP n l (k + 1) = stripesP n l k ++ [(k : Int)] := by
  unfold stripesP
  rw [List.range_succ, List.filter_append, List.map_append]
  simp only [List.filter_cons, List.filter_nil, h, if_true, List.map_cons, List.map_nil]
theorem stripesP_out {n : Nat} {l : List Int} {k : Nat} (h : (l.any fun v => decide (ofP n v = (k : Int))) = false) : stripesP n l (k + 1) = stripesP n l k := by
  unfold stripesP
  rw [List.range_succ, List.filter_append, List.map_append]
  simp only [List.filter_cons, List.filter_nil, h, Bool.false_eq_true, if_false, List.map_nil, List.append_nil]

end Go.Proofs.YtnlamhmjlgaomaaDoor
