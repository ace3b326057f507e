/-
  FROM AN ARGUMENT's READING TO DEEDS THAT CAN BE READ.
-/
import Derived.Test.YthkphhjhgkclfaaDoorStripesPlay
import Derived.Test.YthkphhjhgkclfaaDoorLaidOpen
import Derived.Deep.Slices
import Derived.ChangeOld
namespace Go.Proofs.YthkphhjhgkclfaaDoor
set_option linter.unusedVariables false
set_option linter.unusedSimpArgs false
open Go.ChangeShapes Go.WideShapes Go.ChangeAt Go.RowKit Go.Joins Go.Deep

theorem Tryd.cells_deed : Tryd.prog.cellsOf 38 = 4 := by kernel_rfl
theorem Tryd.cells_int : Tryd.prog.cellsOf 3 = 1 := by kernel_rfl
theorem Tryd.cells_u64 : Tryd.prog.cellsOf 31 = 1 := by kernel_rfl

def DeedD.cells (d : DeedD) : List Value := [.int .i64 d.kind, .int .i64 d.owner, .int .i64 d.stripe, .int .u64 d.v]
def DeedD.zero : DeedD := ⟨0, 0, 0, 0⟩
/-- Its version is a number of its kind. -/
def DeedD.Wf (d : DeedD) : Prop := 0 ≤ d.v ∧ d.v < 18446744073709551616

theorem deed_of_trod {H : Type} {enc : TypeId × Value → H} {w : World} {base : Nat} {spare : Nat → Bool} {held : Bool} {fuel : Nat} {cs : List Value} {x : DataW H × List MemPlace} (h : DataW.trod enc Tryd.prog w base spare held fuel 38 cs = some x) :
    ∃ o : DeedD, o.Wf ∧ cs = o.cells := by
  obtain ⟨y0, y1, y2, y3, n, _, hl, h0, h1, h2, h3⟩ := trod_struct4 Tryd.underlying38 h
  rw [Tryd.cells_deed] at hl
  match cs, hl with
  | [c0, c1, c2, c3], _ =>
    simp only [Tryd.cells_int, Tryd.cells_u64, List.drop_zero, List.drop_succ_cons, List.take_succ_cons, List.take_zero] at h0 h1 h2 h3
    obtain ⟨k, e0, _, wk⟩ := DataW.trod_int Tryd.underlying3 h0
    obtain ⟨c, e1, _, wc⟩ := DataW.trod_int Tryd.underlying3 h1
    obtain ⟨a, e2, _, wa⟩ := DataW.trod_int Tryd.underlying3 h2
    obtain ⟨b, e3, _, wb⟩ := DataW.trod_int Tryd.underlying31 h3
    simp at e0 e1 e2 e3
    subst e0 e1 e2 e3
    exact ⟨⟨k, c, a, b⟩, wf_u64 wb, rfl⟩

/-- A slice of deeds that came in. -/
theorem deeds_of_trod {H : Type} {enc : TypeId × Value → H} {W : World} {ao : Option Addr} {len cap : Nat} {d : DataW H} {p : List MemPlace} (h : DataW.Trod enc Tryd.prog W 0 (fun _ => true) true 22 (.slice ao len cap) d p) :
    ∃ l : List DeedD, DeedRow W (.slice ao len cap) l ∧ (∀ o ∈ l, o.Wf) ∧ l.length ≤ maxLen := by
  obtain ⟨fuel, hf⟩ := h
  rcases open_slice Tryd.underlying22 hf with ⟨hcs, _⟩ | ⟨a, len', cap', m, n, D, Pl, hcs, _, hl, hm, hmm, _, hx⟩
  · simp [Value.cells] at hcs
    obtain ⟨rfl, rfl, rfl⟩ := hcs
    exact ⟨[], ⟨none, 0, rfl, fun hn => absurd rfl hn⟩, by simp, by simp⟩
  · simp [Value.cells] at hcs
    obtain ⟨rfl, rfl, rfl⟩ := hcs
    simp only [if_true] at hmm
    have hel : ∀ i, i < len → ∃ o : DeedD, o.Wf ∧ ∀ j, j < 4 → W.cell? (a.add (i * 4 + j)) = o.cells[j]? := fun i hi => by
      obtain ⟨cs', h1, h2⟩ := hx i (by omega)
      obtain ⟨o, ho, rfl⟩ := deed_of_trod h2
      rw [Tryd.cells_deed] at h1
      obtain ⟨_, _, h3⟩ := World.cells?_some h1
      exact ⟨o, ho, fun j hj => by rw [← add_add]; exact h3 j hj⟩
    have hinh : Nonempty DeedD := ⟨DeedD.zero⟩
    obtain ⟨f, hf⟩ : ∃ f : Nat → DeedD, ∀ i, i < len → (f i).Wf ∧ ∀ j, j < 4 → W.cell? (a.add (i * 4 + j)) = (f i).cells[j]? := by
      classical
      refine ⟨fun i => if hi : i < len then Classical.choose (hel i hi) else DeedD.zero, fun i hi => ?_⟩
      simp only [dif_pos hi]
      exact Classical.choose_spec (hel i hi)
    refine ⟨(List.range len).map f, ⟨some a, cap, by simp, fun hn => ?_⟩, ?_, by simp; omega⟩
    · have hpos : 0 < len := by
        rcases Nat.eq_zero_or_pos len with h0 | h0
        · subst h0; simp at hn
        · exact h0
      have hc0 := (hf 0 hpos).2 0 (by omega)
      have hc0' : W.cell? (a.add 0) = some (.int .i64 (f 0).kind) := by simpa [DeedD.cells] using hc0
      have hsp := World.cell?_spot hc0'
      obtain ⟨g, off, spot⟩ := a
      have : spot = none := by simpa [Addr.add] using hsp
      subst this
      have hlt := World.block_lt_of_cell? W _ hc0'
      refine ⟨g, off, rfl, by simpa [Addr.add] using hlt, fun k hk => ?_⟩
      simp only [List.length_map, List.length_range] at hk
      simp only [List.getElem_map, List.getElem_range]
      have q := (hf k hk).2
      have q0 := q 0 (by omega)
      have q1 := q 1 (by omega)
      have q2 := q 2 (by omega)
      have q3 := q 3 (by omega)
      rw [Addr.add_lit] at q0 q1 q2 q3
      simp only [← Nat.add_assoc, Nat.add_zero] at q0 q1 q2 q3
      exact ⟨q0, q1, q2, q3⟩
    · intro o ho
      simp only [List.mem_map, List.mem_range] at ho
      obtain ⟨i, hi, rfl⟩ := ho
      exact (hf i hi).1

end Go.Proofs.YthkphhjhgkclfaaDoor
