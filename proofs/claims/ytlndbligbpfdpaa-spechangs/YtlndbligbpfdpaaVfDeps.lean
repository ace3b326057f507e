/-
  package verify: Depths BY ITS CONTRACT.
-/
import Derived.Test.YtlndbligbpfdpaaVfWalk
namespace Go.Proofs.Ytlndbligbpfdpaa
set_option linter.unusedVariables false
set_option linter.unusedSimpArgs false
open Go.RowKit
attribute [local go_sem] Oper.semAt_some

/-- What was opened is open, or something is wrong, or its Arg is a place. -/
theorem opened_right {l : List InsD} : ∀ i k, k < i → opensV (opAt l k) = true → k ∈ (runV true mayV l i).op ∨ (runV true mayV l i).wr ≠ none ∨ (0 ≤ argAt l k ∧ argAt l k < i)
  | 0, k, hk, _ => by omega
  | i + 1, k, hk, ho => by
    have hs1 : ∀ k, k < i → opensV (opAt l k) = true → k ∈ (step1V true l i (runV true mayV l i)).op ∨ (step1V true l i (runV true mayV l i)).wr ≠ none ∨ (0 ≤ argAt l k ∧ argAt l k < (i : Int) + 1) := by
      intro k hk ho
      have ih := opened_right i k hk ho
      unfold step1V
      split
      · unfold shutV
        split
        · right; left; exact blame_some _ _
        · rename_i t r e
          split
          · rename_i hc
            show k ∈ r ∨ (if true = true ∧ argAt l t ≠ (i : Int) then blameV t (runV true mayV l i).wr else (runV true mayV l i).wr) ≠ none ∨ _
            by_cases ha : argAt l t = (i : Int)
            · rw [if_neg (by simp [ha])]
              rw [e] at ih
              rcases ih with h | h | h
              · rcases List.mem_cons.1 h with rfl | h
                · right; right; omega
                · left; exact h
              · right; left; exact h
              · right; right; omega
            · rw [if_pos ⟨rfl, ha⟩]
              right; left; exact blame_some _ _
          · right; left; exact blame_some _ _
      · rcases ih with h | h | h
        · exact .inl h
        · exact .inr (.inl h)
        · exact .inr (.inr (by omega))
    show k ∈ (stepV true mayV l i (runV true mayV l i)).op ∨ (stepV true mayV l i (runV true mayV l i)).wr ≠ none ∨ _
    unfold stepV
    by_cases hop : opensV (opAt l i) = true
    · rw [if_pos hop]
      rcases Nat.lt_succ_iff_lt_or_eq.1 hk with hlt | rfl
      · rcases hs1 k hlt ho with h | h | h
        · left; simp [beginV, h]
        · right; left
          unfold beginV
          simp only
          split
          · exact h
          · exact blame_some _ _
        · right; right; omega
      · left; simp [beginV]
    · rw [if_neg hop]
      rcases Nat.lt_succ_iff_lt_or_eq.1 hk with hlt | rfl
      · rcases hs1 k hlt ho with h | h | h
        · exact .inl h
        · exact .inr (.inl h)
        · exact .inr (.inr (by omega))
      · exact absurd ho hop
theorem arg_right {l : List InsD} (h : regV l = none) {k : Nat} (hk : k < l.length) (ho : opensV (opAt l k) = true) : 0 ≤ argAt l k ∧ argAt l k < l.length := by
  unfold regV endV at h
  split at h
  · simp at h
  · rename_i hw
    rcases opened_right l.length k hk ho with q | q | q
    · cases hp : (runV true mayV l l.length).op with
      | nil => rw [hp] at q; simp at q
      | cons t r => rw [hp] at h; simp at h
    · exact absurd hw q
    · exact q

/-- What Depths answers. -/
def DepPost (w : World) (l : List InsD) (e : Ending) (w' : World) : Prop :=
  ∃ v, e = .returned (.tuple #[v, .int .i64 (depV l).2.1, .int .i64 (depV l).1]) ∧ intOwnV w' w.heap.size v (depV l).2.2 ∧ Touch w w' []
theorem rounds_nil {l : List InsD} : ∀ n D G, (roundsV l n D G).1 ≠ 0 → (roundsV l n D G).2.2 = []
  | 0, D, G, h => by simp [roundsV] at h
  | n + 1, D, G, h => by
    unfold roundsV at h ⊢
    split
    · rename_i e; rw [e] at h; simp at h
    · rename_i i e
      rw [e] at h
      simp only at h
      split
      · rfl
      · rename_i hq
        rw [if_neg hq] at h
        exact rounds_nil n _ _ h

theorem rounds_zero {l : List InsD} : ∀ n D G, (roundsV l n D G).1 = 0 → (roundsV l n D G).2.1 = 0
  | 0, D, G, h => rfl
  | n + 1, D, G, h => by
    unfold roundsV at h ⊢
    split
    · rfl
    · rename_i i e
      rw [e] at h
      simp only at h
      split
      · rename_i hq; rw [if_pos hq] at h; exact absurd h hq
      · rename_i hq
        rw [if_neg hq] at h
        exact rounds_zero n _ _ h

end Go.Proofs.Ytlndbligbpfdpaa
