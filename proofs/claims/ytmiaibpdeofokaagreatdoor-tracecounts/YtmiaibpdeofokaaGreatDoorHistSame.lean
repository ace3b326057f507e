/-
  Rows of one's own, read; two lists of pairs that are the same BY THEIR CONTRACT.
-/
import Derived.Test.YtmiaibpdeofokaaGreatDoorAllB
namespace Go.Proofs.YtmiaibpdeofokaaGreatDoor
set_option linter.unusedVariables false
set_option linter.unusedSimpArgs false
open Go.RowKit Go.Maps Go.Shelf

theorem flat_getN {α : Type} {cells : α → List Value} {n : Nat} (hc : ∀ x, (cells x).length = n) (l : List α) (k : Nat) (hk : k < l.length) (j : Nat) (hj : j < n) : (l.flatMap cells)[k * n + j]? = (cells l[k])[j]? := by
  induction l generalizing k with
  | nil => simp at hk
  | cons a l ih =>
    rw [List.flatMap_cons]
    cases k with
    | zero => rw [List.getElem?_append_left (by rw [hc]; omega)]; simp
    | succ k =>
      rw [List.getElem?_append_right (by rw [hc, Nat.succ_mul]; omega)]
      simp only [List.length_cons] at hk
      have := ih k (by omega)
      simp only [List.getElem_cons_succ]
      rw [← this, hc]
      congr 1
      rw [Nat.succ_mul]
      omega

/-- What a row of one's own holds can be read. -/
theorem srow_of_owns {α : Type} {cells : α → List Value} {n : Nat} (hc : ∀ x, (cells x).length = n) {w : World} {B : Nat} {e : TypeId} {v : Value} {l : List α} (h : w.ownsRow B e n v l.length (l.flatMap cells)) : SRow n cells w v l := by
  rcases h.2 with ⟨rfl, h0⟩ | ⟨g, cap, cur, rfl, hB, hg, rest⟩
  · exact ⟨none, 0, by rw [h0], fun hn => absurd (List.eq_nil_of_length_eq_zero h0) hn⟩
  · refine ⟨some ⟨g, 0, none⟩, cap, rfl, fun _ => ⟨g, 0, rfl, lt_of_heap hg, fun k hk j hj => ?_⟩⟩
    have hl : j < (cells l[k]).length := by rw [hc]; exact hj
    have hu : (cells l[k])[j]? = some ((cells l[k])[j]) := List.getElem?_eq_getElem hl
    have hx := h.cells (g := g) rfl (k * n + j) _ ((flat_getN hc l k hk j hj).trans hu)
    rw [Addr.add_lit] at hx
    rw [hu]
    simpa using hx

theorem owns_form {w : World} {B : Nat} {e : TypeId} {size : Nat} {v : Value} {n : Nat} {xs : List Value} (h : w.ownsRow B e size v n xs) : ∃ ao cap, v = .slice ao n cap := by
  rcases h.2 with ⟨rfl, h0⟩ | ⟨g, cap, cur, rfl, _⟩
  · exact ⟨none, 0, by rw [h0]⟩
  · exact ⟨_, _, rfl⟩

abbrev PairRow := SRow 2 pairC
theorem PairRow.two {w : World} {ao : Option Addr} {cap : Nat} {l : List (Int × Int)} (h : PairRow w (.slice ao l.length cap) l) (k : Nat) (hk : k < l.length) :
    ∃ g off, ao = some ⟨g, off, none⟩ ∧ g < w.heap.size ∧ w.cell? ⟨g, off + k * 2, none⟩ = some (.int .i64 l[k].1) ∧ w.cell? ⟨g, off + k * 2 + 1, none⟩ = some (.int .u64 l[k].2) := by
  obtain ⟨g, off, e, hlt, hc⟩ := h.at k hk
  exact ⟨g, off, e, hlt, hc 0 (by omega), hc 1 (by omega)⟩


end Go.Proofs.YtmiaibpdeofokaaGreatDoor
