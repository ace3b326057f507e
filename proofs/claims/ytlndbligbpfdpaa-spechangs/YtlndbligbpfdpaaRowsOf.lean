/-
  SLICES OF STRUCTS THAT CAN BE READ, and an untied proof's facts on the program.
-/
import Derived.Test.YtlndbligbpfdpaaTouchBase
import Derived.ProofKit
import Derived.Lib.SmallJoins
import Derived.Deep.Slices
import Derived.ChangeOld
namespace Go.Proofs.Ytlndbligbpfdpaa
set_option linter.unusedVariables false
set_option linter.unusedSimpArgs false
open Go.ChangeShapes Go.WideShapes Go.ChangeAt Go.RowKit Go.Joins Go.Deep

/-- A slice of structs of n cells each, that can be read. -/
def SRow {α : Type} (n : Nat) (cells : α → List Value) (w : World) (v : Value) (l : List α) : Prop :=
  ∃ ao cap, v = .slice ao l.length cap ∧ (l ≠ [] → ∃ g off, ao = some ⟨g, off, none⟩ ∧ g < w.heap.size ∧ ∀ k (hk : k < l.length), ∀ j, j < n → w.cell? ⟨g, off + k * n + j, none⟩ = (cells l[k])[j]?)

theorem SRow.at {α : Type} {n : Nat} {cells : α → List Value} {w : World} {ao : Option Addr} {cap : Nat} {l : List α} (h : SRow n cells w (.slice ao l.length cap) l) (k : Nat) (hk : k < l.length) :
    ∃ g off, ao = some ⟨g, off, none⟩ ∧ g < w.heap.size ∧ ∀ j, j < n → w.cell? ⟨g, off + k * n + j, none⟩ = (cells l[k])[j]? := by
  obtain ⟨ao', cap', e, h1⟩ := h
  simp only [Value.slice.injEq, true_and] at e
  obtain ⟨rfl, rfl⟩ := e
  obtain ⟨g, off, rfl, hlt, hc⟩ := h1 (by intro e; rw [e] at hk; simp at hk)
  exact ⟨g, off, rfl, hlt, hc k hk⟩

theorem SRow.keep {α : Type} {n : Nat} {cells : α → List Value} {w w' : World} {v : Value} {l : List α} {S : List Nat} (h : SRow n cells w v l) (t : Touch w w' S) (hS : ∀ k ∈ S, w.heap.size ≤ k) : SRow n cells w' v l := by
  obtain ⟨ao, cap, e, h1⟩ := h
  refine ⟨ao, cap, e, fun hn => ?_⟩
  obtain ⟨g, off, rfl, hlt, hc⟩ := h1 hn
  have hne : g ∉ S := fun hs => by have := hS _ hs; omega
  exact ⟨g, off, rfl, Nat.lt_of_lt_of_le hlt t.size, fun k hk j hj => (t.cell (p := ⟨g, _, none⟩) hlt hne).trans (hc k hk j hj)⟩

/-- A slice of structs that came in. -/
theorem rows_of_trod {α : Type} {H : Type} {enc : TypeId × Value → H} {W : World} {n : Nat} {cells : α → List Value} {Wf : α → Prop} {T E : TypeId} (zero : α) (hn : 0 < n) (hlen : ∀ o, (cells o).length = n)
    (hu : Try.prog.underlying T = some (.slice E)) (hE : Try.prog.cellsOf E = n)
    (el : ∀ {w : World} {base : Nat} {spare : Nat → Bool} {held : Bool} {fuel : Nat} {cs : List Value} {x : DataW H × List MemPlace}, DataW.trod enc Try.prog w base spare held fuel E cs = some x → ∃ o, Wf o ∧ cs = cells o)
    {ao : Option Addr} {len cap : Nat} {d : DataW H} {p : List MemPlace} (h : DataW.Trod enc Try.prog W 0 (fun _ => true) true T (.slice ao len cap) d p) :
    ∃ l : List α, SRow n cells W (.slice ao len cap) l ∧ (∀ o ∈ l, Wf o) ∧ l.length ≤ maxLen := by
  obtain ⟨fuel, hf⟩ := h
  rcases open_slice hu hf with ⟨hcs, _⟩ | ⟨a, len', cap', m, n', D, Pl, hcs, _, hl, hm, hmm, _, hx⟩
  · simp [Value.cells] at hcs
    obtain ⟨rfl, rfl, rfl⟩ := hcs
    exact ⟨[], ⟨none, 0, rfl, fun hn => absurd rfl hn⟩, by simp, by simp⟩
  · simp [Value.cells] at hcs
    obtain ⟨rfl, rfl, rfl⟩ := hcs
    simp only [if_true] at hmm
    have hel : ∀ i, i < len → ∃ o : α, Wf o ∧ ∀ j, j < n → W.cell? (a.add (i * n + j)) = (cells o)[j]? := fun i hi => by
      obtain ⟨cs', h1, h2⟩ := hx i (by omega)
      obtain ⟨o, ho, rfl⟩ := el h2
      rw [hE] at h1
      obtain ⟨_, _, h3⟩ := World.cells?_some h1
      exact ⟨o, ho, fun j hj => by rw [← add_add]; exact h3 j hj⟩
    obtain ⟨f, hf⟩ : ∃ f : Nat → α, ∀ i, i < len → Wf (f i) ∧ ∀ j, j < n → W.cell? (a.add (i * n + j)) = (cells (f i))[j]? := by
      classical
      refine ⟨fun i => if hi : i < len then Classical.choose (hel i hi) else zero, fun i hi => ?_⟩
      simp only [dif_pos hi]
      exact Classical.choose_spec (hel i hi)
    refine ⟨(List.range len).map f, ⟨some a, cap, by simp, fun hnn => ?_⟩, ?_, by simp; omega⟩
    · have hpos : 0 < len := by
        rcases Nat.eq_zero_or_pos len with h0 | h0
        · subst h0; simp at hnn
        · exact h0
      have hc0 := (hf 0 hpos).2 0 hn
      have hl0 : 0 < (cells (f 0)).length := by rw [hlen]; exact hn
      have hc0' : W.cell? (a.add 0) = some (cells (f 0))[0] := by
        rw [show 0 * n + 0 = 0 by omega] at hc0
        rw [hc0]
        exact List.getElem?_eq_getElem hl0
      have hsp := World.cell?_spot hc0'
      obtain ⟨g, off, spot⟩ := a
      have : spot = none := by simpa [Addr.add] using hsp
      subst this
      have hlt := World.block_lt_of_cell? W _ hc0'
      refine ⟨g, off, rfl, by simpa [Addr.add] using hlt, fun k hk j hj => ?_⟩
      simp only [List.length_map, List.length_range] at hk
      simp only [List.getElem_map, List.getElem_range]
      have q := (hf k hk).2 j hj
      rw [Addr.add_lit] at q
      simp only [← Nat.add_assoc] at q
      exact q
    · intro o ho
      simp only [List.mem_map, List.mem_range] at ho
      obtain ⟨i, hi, rfl⟩ := ho
      exact (hf i hi).1

theorem wf_u8 {x : Int} (h : (Lit.int .u8 x).wf = true) : 0 ≤ x ∧ x ≤ 255 := by
  simp [Lit.wf, IntKind.min, IntKind.max, IntKind.signed, IntKind.bits] at h; omega
theorem wf_u64 {x : Int} (h : (Lit.int .u64 x).wf = true) : 0 ≤ x ∧ x < 18446744073709551616 := by
  simp [Lit.wf, IntKind.min, IntKind.max, IntKind.signed, IntKind.bits] at h; omega
theorem wf_i64 {x : Int} (h : (Lit.int .i64 x).wf = true) : -9223372036854775808 ≤ x ∧ x ≤ 9223372036854775807 := by
  simp [Lit.wf, IntKind.min, IntKind.max, IntKind.signed, IntKind.bits] at h; omega

theorem Try.cells_int : Try.prog.cellsOf 3 = 1 := by kernel_rfl
theorem Try.cells_u64 : Try.prog.cellsOf 24 = 1 := by kernel_rfl

end Go.Proofs.Ytlndbligbpfdpaa
