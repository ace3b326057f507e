/-
  package writes: All BY ITS CONTRACT: the function that yields, collected; of a log, and of none.
-/
import Derived.Test.YtmiaibpdeofokaaDoorAllA
import Derived.Deep.AppendLies
namespace Go.Proofs.YtmiaibpdeofokaaDoor
set_option linter.unusedVariables false
set_option linter.unusedSimpArgs false
open Go.RowKit Go.Maps Go.Shelf
attribute [local go_sem] Oper.semAt_some

/-- The variables below k that have a value, rising. -/
def allK (G : Int → Option Int) (k : Nat) : List (Int × Int) := (List.range k).filterMap fun (i : Nat) => (G i).map fun v => ((i : Int), v)
theorem allK_some {G : Int → Option Int} {k : Nat} {v : Int} (h : G k = some v) : allK G (k + 1) = allK G k ++ [((k : Int), v)] := by
  unfold allK
  rw [List.range_succ, List.filterMap_append]
  simp [h]
theorem allK_none {G : Int → Option Int} {k : Nat} (h : G k = none) : allK G (k + 1) = allK G k := by
  unfold allK
  rw [List.range_succ, List.filterMap_append]
  simp [h]
theorem allK_step (G : Int → Option Int) (k : Nat) : ∃ l, allK G (k + 1) = allK G k ++ l := by
  cases h : G k with
  | none => exact ⟨[], by rw [allK_none h]; simp⟩
  | some v => exact ⟨_, allK_some h⟩
theorem allK_prefix (G : Int → Option Int) (k : Nat) : ∀ n, ∃ l, allK G (k + n) = allK G k ++ l
  | 0 => ⟨[], by simp⟩
  | n + 1 => by
    obtain ⟨l, hl⟩ := allK_prefix G k n
    obtain ⟨l', hl'⟩ := allK_step G (k + n)
    exact ⟨l ++ l', by rw [← Nat.add_assoc, hl', hl, List.append_assoc]⟩
theorem allK_at {G : Int → Option Int} {k : Nat} {v : Int} (h : G k = some v) (hk : k < 12) : (allK G k).length < (allK G 12).length ∧ (allK G 12).getD (allK G k).length (0, 0) = ((k : Int), v) := by
  obtain ⟨l, hl⟩ := allK_prefix G (k + 1) (12 - (k + 1))
  rw [show k + 1 + (12 - (k + 1)) = 12 by omega, allK_some h, List.append_assoc] at hl
  rw [hl]
  simp [List.getD_eq_getElem?_getD]
theorem allK_le (G : Int → Option Int) (k : Nat) : (allK G k).length ≤ k := by
  induction k with
  | zero => simp [allK]
  | succ k ih =>
    cases h : G k with
    | none => rw [allK_none h]; omega
    | some v => rw [allK_some h]; simp; omega

abbrev pairV (p : Int × Int) : Value := .agg #[.int .i64 p.1, .int .u64 p.2]
def pairC (p : Int × Int) : List Value := [.int .i64 p.1, .int .u64 p.2]
abbrev pairAt (G : Int → Option Int) (j : Nat) : Value := pairV ((allK G 12).getD j (0, 0))

theorem ownsRow_other {W W' : World} {B : Nat} {e : TypeId} {n sz : Nat} {v : Value} {xs : List Value} {l : Nat} {o : Obj} (h : W.ownsRow B e sz v n xs) (t : Touch W W' [l]) (hl : W.heap[l]? = some o) (ho : o.isCells = false) : W'.ownsRow B e sz v n xs := by
  refine ownsRow_touch h t (fun k hk hs => ?_)
  simp at hs
  subst hs
  rcases h.2 with ⟨rfl, _⟩ | ⟨g, cap, cur, rfl, _, hg, _⟩
  · simp [Value.ownBlock] at hk
  · obtain rfl : g = k := by simpa [Value.ownBlock] using hk
    rw [hg] at hl
    cases hl
    simp [Obj.isCells] at ho

end Go.Proofs.YtmiaibpdeofokaaDoor
