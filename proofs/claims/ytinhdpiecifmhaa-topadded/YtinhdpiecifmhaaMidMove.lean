/-
  A WHOLE STRUCT, LOADED AND STORED: its cells are whatever. No walk.
-/
import Derived.Test.YtinhdpiecifmhaaAllA
import Derived.Deep.MidRow
namespace Go.Proofs.Ytinhdpiecifmhaa
set_option linter.unusedVariables false
set_option linter.unusedSimpArgs false
open Go.RowKit

theorem setCells_shape (g : Nat) (e : TypeId) : ∀ (vs : List Value) (o : Nat) (w : World) (cur : Array Value), w.heap[g]? = some (.cells cur e (0, 0)) → ∃ cur', (w.setCells g o vs).heap[g]? = some (.cells cur' e (0, 0)) ∧ cur'.size = cur.size
  | [], o, w, cur, h => ⟨cur, h, rfl⟩
  | v :: r, o, w, cur, h => by
    rw [World.setCells]
    have h1 : ∃ c1, (w.setCell ⟨g, o, none⟩ v).heap[g]? = some (.cells c1 e (0, 0)) ∧ c1.size = cur.size := ⟨_, heap_setCell_same _ _ _ _ _ _ h, by simp⟩
    obtain ⟨c1, h1, hs⟩ := h1
    obtain ⟨c2, h2, hs2⟩ := setCells_shape g e r (o + 1) _ c1 h1
    exact ⟨c2, h2, hs2.trans hs⟩

theorem setCells_touch (g : Nat) : ∀ (vs : List Value) (o : Nat) (w : World), Touch w (w.setCells g o vs) [g]
  | [], o, w => Touch.refl _ _
  | v :: r, o, w => by
    rw [World.setCells]
    exact ((Touch.refl w [g]).setCell (.inl (by simp)) v).trans (setCells_touch g r (o + 1) _) (by simp)

theorem setCells_whole {w : World} {g : Nat} {e : TypeId} {cur : Array Value} (h : w.heap[g]? = some (.cells cur e (0, 0))) {A : List Value} (hs : cur.size = A.length) : (w.setCells g 0 A).heap[g]? = some (.cells A.toArray e (0, 0)) := by
  obtain ⟨cur', h', hs'⟩ := setCells_shape g e A 0 w cur h
  rw [h']
  congr 2
  apply Array.ext_getElem?
  intro j
  by_cases hj : j < A.length
  · have h1 := World.cell?_setCells_in g A 0 w (fun i hi => by simp [World.cell?, h]; omega) j hj
    simp only [World.cell?, h', Nat.zero_add] at h1
    simp at h1
    rw [h1]
    simp [hj]
  · rw [Array.getElem?_eq_none (by omega), Array.getElem?_eq_none (by simp; omega)]

theorem there_of {W : World} {p n : Nat} {cs : Array Value} {t : TypeId} (h : W.heap[p]? = some (.cells cs t (0, 0))) (hn : n = cs.size) : W.there p 0 n := fun j hj => by
  subst hn
  simp [World.cell?, World.frozen?, h, hj]

end Go.Proofs.Ytinhdpiecifmhaa
