/-
  package verify: matchingOf BY ITS CONTRACT.
-/
import Derived.Test.YtlndbligbpfdpaaVfShut
namespace Go.Proofs.Ytlndbligbpfdpaa
set_option linter.unusedVariables false
set_option linter.unusedSimpArgs false
open Go.RowKit
attribute [local go_sem] Oper.semAt_some

theorem Try.info_intV : (Try.prog.info? 3).map (fun i => (i.zero, i.size, i.bytes)) = some (some (.int .i64 0), 1, 8) := by kernel_rfl
theorem made_intV (n : Nat) : madeCells (Value.cells (.int .i64 0)) (n * 1) = Array.replicate n (.int .i64 0) := by
  apply Array.ext
  · simp [size_madeCells]
  · intro i h1 h2
    simp [madeCells, Value.cells, Nat.mod_one]
theorem make_intV (n : Nat) (hn : n ≤ 1000) (w : World) : (Instr.makeSlice 54 (.int .i64 n) (.int .i64 n)).run Try.prog w = .ok (.slice (some ⟨w.heap.size, 0, none⟩) n n) (w.alloc (.cells (Array.replicate n (.int .i64 0)) 3)) := by
  obtain ⟨i, hi, hz, hs, hb⟩ := info_partsV Try.info_intV
  have e := run_make (P := Try.prog) w 54 3 i (.int .i64 0) Try.underlying54 hi hz .i64 .i64 n n (by omega) (by omega) (by rw [hb]; omega) (by omega)
  rw [e, hs, Int.toNat_natCast, made_intV]
theorem own_intV (w : World) (n : Nat) (hn : n ≤ 1000) : (w.alloc (.cells (Array.replicate n (.int .i64 0)) 3)).ownsRow w.heap.size 3 1 (.slice (some ⟨w.heap.size, 0, none⟩) n n) (List.replicate n (0 : Int)).length ((List.replicate n (0 : Int)).map (Value.int .i64)) := by
  have e : List.map (Value.int .i64) (List.replicate n 0) = List.replicate n (.int .i64 0) := by simp
  rw [List.length_replicate, e]
  refine ⟨by simp, .inr ⟨w.heap.size, n, Array.replicate n (.int .i64 0), rfl, Nat.le_refl _, heap_alloc_new w _, Nat.le_refl _, by unfold maxLen; omega, by simp, ?_⟩⟩
  rw [List.take_of_length_le (by simp)]
  simp
theorem int_setV {w : World} {B g cap n : Nat} {ys : List Int} (h : w.ownsRow B 3 1 (.slice (some ⟨g, 0, none⟩) n cap) n (ys.map (Value.int .i64))) (i : Nat) (x : Int) :
    (w.setCell ⟨g, i, none⟩ (.int .i64 x)).ownsRow B 3 1 (.slice (some ⟨g, 0, none⟩) n cap) n ((ys.set i x).map (Value.int .i64)) := by
  refine ⟨by have := h.1; simpa using this, .inr ?_⟩
  rcases h.2 with ⟨e, _⟩ | ⟨g', cap', cur, e, hB, hg, h1, h2, h3, h4⟩
  · simp at e
  · simp only [Value.slice.injEq, Option.some.injEq, Addr.mk.injEq] at e
    obtain ⟨⟨rfl, _⟩, _, rfl⟩ := e
    refine ⟨g, cap, _, rfl, hB, heap_setCell_same _ _ _ _ _ _ hg, h1, h2, by simpa using h3, ?_⟩
    rw [List.map_set, ← h4]
    simp only [Array.toList_setIfInBounds, Nat.mul_one]
    rw [List.take_set]
/-- The places so far, and noughts behind. -/
def inZ (l : List InsD) (N k : Nat) : List Int := insV l k ++ List.replicate (N - k) 0
theorem inZ_len {l : List InsD} {N k : Nat} (h : k ≤ N) : (inZ l N k).length = N := by simp [inZ, insV_len]; omega
theorem inZ_set {l : List InsD} {N k : Nat} (h : k < N) : (inZ l N k).set k (topV (runV true mayV l k).op) = inZ l N (k + 1) := by
  unfold inZ
  rw [List.set_append_right _ _ (by rw [insV_len]; exact Nat.le_refl _), insV_len, Nat.sub_self, show N - k = (N - (k + 1)) + 1 by omega, List.replicate_succ, List.set_cons_zero, insV_succ, List.append_assoc]
  rfl
theorem inZ_at {l : List InsD} {N k : Nat} (h : k < N) : (inZ l N k)[k]? = some 0 := by
  unfold inZ
  rw [List.getElem?_append_right (by rw [insV_len]; exact Nat.le_refl _), insV_len, Nat.sub_self, show N - k = (N - (k + 1)) + 1 by omega, List.replicate_succ]
  rfl

end Go.Proofs.Ytlndbligbpfdpaa
