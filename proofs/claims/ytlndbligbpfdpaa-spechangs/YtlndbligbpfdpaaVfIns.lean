/-
  package verify: Inside BY ITS CONTRACT; rows of Booleans.
-/
import Derived.Test.YtlndbligbpfdpaaVfR3
namespace Go.Proofs.Ytlndbligbpfdpaa
set_option linter.unusedVariables false
set_option linter.unusedSimpArgs false
open Go.RowKit
attribute [local go_sem] Oper.semAt_some

abbrev boolOwnV (w : World) (B : Nat) (v : Value) (xs : List Bool) : Prop := w.ownsRow B 4 1 v xs.length (xs.map Value.bool)
theorem Try.info_boolV : (Try.prog.info? 4).map (fun i => (i.zero, i.size, i.bytes)) = some (some (.bool false), 1, 1) := by kernel_rfl
theorem made_boolV (n : Nat) : madeCells (Value.cells (.bool false)) (n * 1) = Array.replicate n (.bool false) := by
  apply Array.ext
  · simp [size_madeCells]
  · intro i h1 h2
    simp [madeCells, Value.cells, Nat.mod_one]
theorem make_boolV (n : Nat) (hn : n ≤ 1000) (w : World) : (Instr.makeSlice 39 (.int .i64 n) (.int .i64 n)).run Try.prog w = .ok (.slice (some ⟨w.heap.size, 0, none⟩) n n) (w.alloc (.cells (Array.replicate n (.bool false)) 4)) := by
  obtain ⟨i, hi, hz, hs, hb⟩ := info_partsV Try.info_boolV
  have e := run_make (P := Try.prog) w 39 4 i (.bool false) Try.underlying39 hi hz .i64 .i64 n n (by omega) (by omega) (by rw [hb]; omega) (by omega)
  rw [e, hs, Int.toNat_natCast, made_boolV]
theorem bool_pushW {w : World} {B : Nat} {v : Value} {xs : List Bool} (h : boolOwnV w B v xs) (hl : xs.length ≤ 1000) (hB : B ≤ w.heap.size) (x : Bool) (ty : TypeId) :
    ∃ ao' cap' w', (Builtin.append_ #[39, 39] ty #[v, .slice (some ⟨w.heap.size, 0, none⟩) 1 1]).run Try.prog (w.alloc (.cells #[.bool x] 4)) = .ok (.slice ao' (xs.length + 1) cap') w' ∧ boolOwnV w' B (.slice ao' (xs.length + 1) cap') (xs ++ [x]) ∧ Touch w w' v.ownBlock.toList := by
  obtain ⟨i0, hi, hz0, hz1, hz2⟩ := info_partsV Try.info_boolV
  obtain ⟨v', w', h1, h2, h3, h4, h5⟩ := run_append_own_at (P := Try.prog) (w.alloc (.cells #[.bool x] 4)) B 39 ty 4 i0 _ 1 1 Try.underlying39 hi hz0 hz1 hz2 rfl (by decide) v xs.length _ (h.alloc _) ⟨w.heap.size, 0, none⟩ 1 1 [.bool x] rfl (World.news_of_block (cs := #[.bool x]) (t := 4) (fr := (0, 0)) (heap_alloc_new w _)) (by simp [Value.oneCell']) (by unfold maxLen; omega) (by omega) (by simp; omega)
  have h2' : boolOwnV w' B v' (xs ++ [x]) := by
    show w'.ownsRow _ _ _ _ _ _
    rw [List.length_append, List.map_append]
    exact h2
  obtain ⟨ao', cap', rfl⟩ := owns_slice h2
  exact ⟨ao', cap', w', h1, h2', ((Touch.refl w _).alloc _).grown h3 (fun k hk => .inl (by simp [hk]))⟩

/-- Of each whether it stands in a bracket. -/
def insB (l : List InsD) (k : Nat) : List Bool := (insV l k).map fun x => x != -1
theorem insB_len (l : List InsD) (k : Nat) : (insB l k).length = k := by simp [insB, insV_len]
def insA (l : List InsD) : List Bool := match regV l with | some _ => [] | none => insB l l.length
/-- A block of Booleans. -/
structure VBAt (w : World) (g N : Nat) (D : List Bool) : Prop where
  row : w.heap[g]? = some (.cells (D.map Value.bool).toArray 4 (0, 0))
  len : D.length = N
theorem VBAt.at {w : World} {g N : Nat} {D : List Bool} (h : VBAt w g N D) (k : Nat) (hk : k < N) : ∃ y, w.cell? ⟨g, k, none⟩ = some (.bool y) := by
  have hk' : k < D.length := by rw [h.len]; exact hk
  refine ⟨D[k], ?_⟩
  unfold World.cell?
  rw [h.row]
  simp [hk']
theorem VBAt.put {w : World} {g N : Nat} {D : List Bool} (h : VBAt w g N D) (k : Nat) (x : Bool) : VBAt (w.setCell ⟨g, k, none⟩ (.bool x)) g N (D.set k x) :=
  ⟨by rw [heap_setCell_same _ _ _ _ _ _ h.row, List.map_set]; simp, by simpa using h.len⟩
def inZB (l : List InsD) (N k : Nat) : List Bool := (insB l N).take k ++ List.replicate (N - k) false
theorem inZB_set {l : List InsD} {N k : Nat} (h : k < N) (x : Bool) (hx : (insB l N)[k]? = some x) : (inZB l N k).set k x = inZB l N (k + 1) := by
  have hl : ((insB l N).take k).length = k := by rw [List.length_take, insB_len]; omega
  obtain ⟨hk, e⟩ := List.getElem?_eq_some_iff.1 hx
  unfold inZB
  rw [List.set_append_right _ _ (by omega), hl, Nat.sub_self, show N - k = (N - (k + 1)) + 1 by omega, List.replicate_succ, List.set_cons_zero, List.take_succ_eq_append_getElem hk, e, List.append_assoc]
  rfl

end Go.Proofs.Ytlndbligbpfdpaa
