/-
  package locks: joined BY ITS CONTRACT: rows of instructions, one behind the other.
-/
import Derived.Test.YtaebcigfinjeiaaDoorAllB
namespace Go.Proofs.YtaebcigfinjeiaaDoor
set_option linter.unusedVariables false
set_option linter.unusedSimpArgs false
open Go.RowKit
attribute [local go_sem] Oper.semAt_some

/-- append to a row whose room is cut to its length: a new row. -/
theorem ins_join {w : World} {B g c0 : Nat} {xs : List InsD} (h : insOwn w B (.slice (some ⟨g, 0, none⟩) xs.length c0) xs) (hl : xs.length ≤ 1000) {ao : Option Addr} {cap : Nat} {l : List InsD} (hr : InsIn w ao l.length cap l) (hn : l.length ≤ 1000) (hne : l ≠ []) (ty : TypeId) :
    ∃ cap' w', (Builtin.append_ #[25, 25] ty #[.slice (some ⟨g, 0, none⟩) xs.length xs.length, .slice ao l.length cap]).run Tryd.prog w = .ok (.slice (some ⟨w.heap.size, 0, none⟩) (xs.length + l.length) cap') w' ∧ insOwn w' w.heap.size (.slice (some ⟨w.heap.size, 0, none⟩) (xs.length + l.length) cap') (xs ++ l) ∧ Touch w w' [] := by
  obtain ⟨i0, hi, hz0, hz1, hz2⟩ := info_parts' Tryd.info_ins
  have hpos : 0 < l.length := List.length_pos_iff.2 hne
  have hsr := hr.row
  obtain ⟨g1, off, rfl, _, _⟩ := hsr.at 0 hpos
  have hnews : ∀ j u, (l.flatMap InsD.cells)[j]? = some u → w.cell? ((⟨g1, off, none⟩ : Addr).add j) = some u := by
    intro j u hu
    have hj : j < l.length * 3 := by
      have := (List.getElem?_eq_some_iff.1 hu).1
      rwa [flat_len (cells := InsD.cells) (n := 3) (fun _ => rfl)] at this
    have hk : j / 3 < l.length := Nat.div_lt_of_lt_mul (by omega)
    have hj2 : j % 3 < 3 := Nat.mod_lt _ (by decide)
    obtain ⟨g', off', e, _, hcc⟩ := hsr.at (j / 3) hk
    cases e
    have hjj : j = j / 3 * 3 + j % 3 := by omega
    have h2 := flat_at (cells := InsD.cells) (n := 3) (fun _ => rfl) l (j / 3) hk (j % 3) hj2
    rw [← hjj, hu] at h2
    have h3 := hcc (j % 3) hj2
    rw [Nat.add_assoc, ← hjj, ← h2] at h3
    rw [Addr.add_lit]
    exact h3
  have hlx : (xs.flatMap InsD.cells).length = xs.length * i0.size := by rw [hz1, flat_len (n := 3) (fun _ => rfl)]
  have hll : (l.flatMap InsD.cells).length = l.length * i0.size := by rw [hz1, flat_len (n := 3) (fun _ => rfl)]
  have hr2 := run_append_grow (P := Tryd.prog) w 25 ty 44 i0 _ Tryd.underlying25 hi hz0 ⟨g, 0, none⟩ xs.length xs.length (xs.flatMap InsD.cells) hlx (h.cells (g := g) rfl)
    ⟨g1, off, none⟩ l.length cap (l.flatMap InsD.cells) hll hnews (by omega) (by omega) (growslice_fits (by omega) (by rw [hz2]; omega))
  refine ⟨_, _, hr2, ⟨?_, .inr ⟨w.heap.size, _, _, by rw [List.length_append], Nat.le_refl _, heap_alloc_new w.drew _, ?_, ?_, ?_, ?_⟩⟩, (Touch.refl w []).drew.alloc _⟩
  · rw [flat_len (n := 3) (fun _ => rfl)]
  · rw [List.length_append]; exact grownCap_ge w _ _ _
  · exact grownCap_le_maxLen w _ _ _ (by unfold maxLen; omega)
  · have hge := grownCap_ge w (xs.length + l.length) xs.length 44
    generalize grownCap w (xs.length + l.length) xs.length 44 = gc at *
    rw [Array.size_append, Array.size_append, List.size_toArray, List.size_toArray, size_zeroCells, hlx, hll, hz1]
    have e3 : (Value.agg #[.int .u8 0, .int .i64 0, .int .u64 0]).cells.size = 3 := by rfl
    rw [e3]
    omega
  · simp only [Array.toList_append, List.append_assoc]
    rw [← List.append_assoc, ← List.flatMap_append]
    have : (xs ++ l).length * 3 = ((xs ++ l).flatMap InsD.cells).length := by rw [flat_len (n := 3) (fun _ => rfl)]
    rw [this]
    exact List.take_left

/-- Rows of instructions that can be read. -/
structure RowsAt (w : World) (g : Nat) (L : List (List InsD)) : Prop where
  row : ∀ k (hk : k < L.length), ∃ ao cap, w.cell? ⟨g, k, none⟩ = some (.slice ao L[k].length cap) ∧ InsIn w ao L[k].length cap L[k]
  ne : ∀ l ∈ L, l ≠ []
theorem RowsAt.lt {w : World} {g : Nat} {L : List (List InsD)} (h : RowsAt w g L) (k : Nat) (hk : k < L.length) : g < w.heap.size := by
  obtain ⟨_, _, hc, _⟩ := h.row k hk
  exact World.block_lt_of_cell? _ _ hc
theorem RowsAt.keep {w w' : World} {g : Nat} {L : List (List InsD)} (h : RowsAt w g L) (t : Touch w w' []) : RowsAt w' g L := by
  refine ⟨fun k hk => ?_, h.ne⟩
  obtain ⟨ao, cap, hc, hi⟩ := h.row k hk
  exact ⟨ao, cap, (t.cell (p := ⟨g, k, none⟩) (h.lt k hk) (by simp)).trans hc, hi.keep t⟩

theorem flat_take {L : List (List InsD)} (k : Nat) (hk : k < L.length) : (L.take (k + 1)).flatten = (L.take k).flatten ++ L[k] := by
  rw [List.take_succ_eq_append_getElem hk, List.flatten_append]
  simp
theorem flat_le {L : List (List InsD)} (k : Nat) : (L.take k).flatten.length ≤ L.flatten.length := by
  have : L.flatten = (L.take k).flatten ++ (L.drop k).flatten := by rw [← List.flatten_append, List.take_append_drop]
  rw [this, List.length_append]
  omega
theorem row_le {L : List (List InsD)} (k : Nat) (hk : k < L.length) : L[k].length ≤ L.flatten.length := by
  have h1 := flat_take k hk
  have h2 := flat_le (L := L) (k + 1)
  rw [h1, List.length_append] at h2
  omega

end Go.Proofs.YtaebcigfinjeiaaDoor
