/-
  SLICES OF STRUCTS IN WHICH THERE ARE SLICES, read.
-/
import Derived.Test.YteffdibdnoppjaaRowsOf
namespace Go.Proofs.Yteffdibdnoppjaa
set_option linter.unusedVariables false
set_option linter.unusedSimpArgs false
open Go.ChangeShapes Go.WideShapes Go.ChangeAt Go.RowKit Go.Joins Go.Deep

/-- A slice within what came in: its elements are told by the same world. -/
theorem rows_in {α : Type} {H : Type} {enc : TypeId × Value → H} {W : World} {n : Nat} {cells : α → List Value} {Wf : α → Prop} {T E : TypeId} (zero : α) (hn : 0 < n) (hlen : ∀ o, (cells o).length = n)
    (hu : Try.prog.underlying T = some (.slice E)) (hE : Try.prog.cellsOf E = n)
    (el : ∀ {base : Nat} {spare : Nat → Bool} {held : Bool} {fuel : Nat} {cs : List Value} {x : DataW H × List MemPlace}, DataW.trod enc Try.prog W base spare held fuel E cs = some x → ∃ o, Wf o ∧ cs = cells o)
    {base : Nat} {spare : Nat → Bool} {held : Bool} {fuel : Nat} {cs : List Value} {x : DataW H × List MemPlace} (hf : DataW.trod enc Try.prog W base spare held fuel T cs = some x) :
    ∃ ao cap, ∃ l : List α, cs = [.slice ao l.length cap] ∧ SRow n cells W (.slice ao l.length cap) l ∧ (∀ o ∈ l, Wf o) ∧ l.length ≤ cap ∧ l.length ≤ maxLen := by
  rcases open_slice hu hf with ⟨hcs, _⟩ | ⟨a, len, cap, m, n', D, Pl, hcs, _, hl, hm, hmm, _, hx⟩
  · exact ⟨none, 0, [], hcs, ⟨none, 0, rfl, fun hn => absurd rfl hn⟩, by simp, by simp, by simp⟩
  · have hlm : len ≤ m := by rw [hmm]; split <;> omega
    have hel : ∀ i, i < len → ∃ o : α, Wf o ∧ ∀ j, j < n → W.cell? (a.add (i * n + j)) = (cells o)[j]? := fun i hi => by
      obtain ⟨cs', h1, h2⟩ := hx i (by omega)
      obtain ⟨o, ho, rfl⟩ := el h2
      rw [hE] at h1
      obtain ⟨_, _, h3⟩ := World.cells?_some h1
      exact ⟨o, ho, fun j hj => by rw [← add_add]; exact h3 j hj⟩
    obtain ⟨f, hf⟩ : ∃ f : Nat → α, ∀ i, i < len → Wf (f i) ∧ ∀ j, j < n → W.cell? (a.add (i * n + j)) = (cells (f i))[j]? := by
      classical
      refine ⟨fun i => if hi : i < len then Classical.choose (hel i hi) else zero, fun i hi => ?_⟩
      simp only [dif_pos hi]
      exact Classical.choose_spec (hel i hi)
    refine ⟨some a, cap, (List.range len).map f, by simpa using hcs, ⟨some a, cap, by simp, fun hnn => ?_⟩, ?_, by simpa using hl, by simp; omega⟩
    · have hpos : 0 < len := by
        rcases Nat.eq_zero_or_pos len with h0 | h0
        · subst h0; simp at hnn
        · exact h0
      have hc0 := (hf 0 hpos).2 0 hn
      have hl0 : 0 < (cells (f 0)).length := by rw [hlen]; exact hn
      have hc0' : W.cell? (a.add 0) = some (cells (f 0))[0] := by
        rw [show 0 * n + 0 = 0 by omega] at hc0
        rw [hc0]
        exact List.getElem?_eq_getElem hl0
      have hsp := World.cell?_spot hc0'
      obtain ⟨g, off, spot⟩ := a
      have : spot = none := by simpa [Addr.add] using hsp
      subst this
      have hlt := World.block_lt_of_cell? W _ hc0'
      refine ⟨g, off, rfl, by simpa [Addr.add] using hlt, fun k hk j hj => ?_⟩
      simp only [List.length_map, List.length_range] at hk
      simp only [List.getElem_map, List.getElem_range]
      have q := (hf k hk).2 j hj
      rw [Addr.add_lit] at q
      simp only [← Nat.add_assoc] at q
      exact q
    · intro o ho
      simp only [List.mem_map, List.mem_range] at ho
      obtain ⟨i, hi, rfl⟩ := ho
      exact (hf i hi).1

end Go.Proofs.Yteffdibdnoppjaa
