/-
  FROM AN ARGUMENT's READING TO A SLICE OF NUMBERS THAT CAN BE READ.
-/
import Derived.Test.YtnlamhmjlgaomaaDoorLaidOpen
import Derived.Deep.Slices
import Derived.ChangeOld
namespace Go.Proofs.YtnlamhmjlgaomaaDoor
set_option linter.unusedVariables false
set_option linter.unusedSimpArgs false
open Go.ChangeShapes Go.WideShapes Go.ChangeAt Go.RowKit Go.Joins Go.Deep

/-- A slice of numbers of a kind that came in. -/
theorem nums_of_trod {H : Type} {enc : TypeId × Value → H} {W : World} {ao : Option Addr} {len cap : Nat} {d : DataW H} {p : List MemPlace} {T E : TypeId} {kind : IntKind} (ht : Tryd.prog.underlying T = some (.slice E)) (he : Tryd.prog.underlying E = some (.int kind)) (hc : Tryd.prog.cellsOf E = 1)
    (h : DataW.Trod enc Tryd.prog W 0 (fun _ => true) true T (.slice ao len cap) d p) :
    ∃ l : List Int, len = l.length ∧ len ≤ cap ∧ cap ≤ maxLen ∧ (∀ x ∈ l, (Lit.int kind x).wf = true) ∧ (l ≠ [] → ∃ g off, ao = some ⟨g, off, none⟩ ∧ g < W.heap.size ∧ ∀ k (hk : k < l.length), W.cell? ⟨g, off + k, none⟩ = some (.int kind l[k])) := by
  obtain ⟨fuel, hf⟩ := h
  rcases open_slice1 ht hc hf with ⟨hcs, _⟩ | ⟨a, len', cap', m, n, V, D, Pl, hcs, _, hl, hm, hmm, _, hx⟩
  · simp [Value.cells] at hcs
    obtain ⟨rfl, rfl, rfl⟩ := hcs
    exact ⟨[], by simp, by simp, by unfold maxLen; omega, by simp, fun hn => absurd rfl hn⟩
  · simp [Value.cells] at hcs
    obtain ⟨rfl, rfl, rfl⟩ := hcs
    simp only [if_true] at hmm
    have hel : ∀ i, i < len → ∃ x : Int, (Lit.int kind x).wf = true ∧ W.cell? (a.add i) = some (.int kind x) := fun i hi => by
      obtain ⟨h1, h2⟩ := hx i (by omega)
      obtain ⟨k, e0, _, wk⟩ := DataW.trod_int he h2
      simp at e0
      exact ⟨k, wk, by rw [h1, e0]⟩
    obtain ⟨f, hf⟩ : ∃ f : Nat → Int, ∀ i, i < len → (Lit.int kind (f i)).wf = true ∧ W.cell? (a.add i) = some (.int kind (f i)) := by
      classical
      refine ⟨fun i => if hi : i < len then Classical.choose (hel i hi) else 0, fun i hi => ?_⟩
      simp only [dif_pos hi]
      exact Classical.choose_spec (hel i hi)
    refine ⟨(List.range len).map f, by simp, hl, hm, ?_, fun hn => ?_⟩
    · intro x hx
      rw [List.mem_map] at hx
      obtain ⟨i, hi, rfl⟩ := hx
      exact (hf i (by simpa using hi)).1
    · have hpos : 0 < len := by
        rcases Nat.eq_zero_or_pos len with h0 | h0
        · subst h0; simp at hn
        · exact h0
      have hc0 := (hf 0 hpos).2
      have hsp := World.cell?_spot hc0
      obtain ⟨g, off, spot⟩ := a
      have : spot = none := by simpa [Addr.add] using hsp
      subst this
      have hlt := World.block_lt_of_cell? W _ hc0
      refine ⟨g, off, rfl, by simpa [Addr.add] using hlt, fun k hk => ?_⟩
      simp only [List.length_map, List.length_range] at hk
      simp only [List.getElem_map, List.getElem_range]
      have q := (hf k hk).2
      rw [Addr.add_lit] at q
      exact q

theorem Tryd.cells_int1 : Tryd.prog.cellsOf 3 = 1 := by kernel_rfl

end Go.Proofs.YtnlamhmjlgaomaaDoor
