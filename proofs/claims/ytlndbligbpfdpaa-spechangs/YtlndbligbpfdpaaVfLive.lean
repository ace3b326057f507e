/-
  package verify: Blocks BY ITS CONTRACT; few, live OF THE LAWS.
-/
import Derived.Test.YtlndbligbpfdpaaVfCheck
namespace Go.Proofs.Ytlndbligbpfdpaa
set_option linter.unusedVariables false
set_option linter.unusedSimpArgs false
open Go.RowKit
attribute [local go_sem] Oper.semAt_some

/-- One number more. -/
theorem int_pushV {w : World} {B : Nat} {v : Value} {xs : List Int} (h : intOwnV w B v xs) (hl : xs.length ≤ 1000) (hB : B ≤ w.heap.size) (x : Int) (ty : TypeId) :
    ∃ ao' cap' w', (Builtin.append_ #[54, 54] ty #[v, .slice (some ⟨w.heap.size, 0, none⟩) 1 1]).run Try.prog (w.alloc (.cells #[.int .i64 x] 3)) = .ok (.slice ao' (xs.length + 1) cap') w' ∧ intOwnV w' B (.slice ao' (xs.length + 1) cap') (xs ++ [x]) ∧ Touch w w' v.ownBlock.toList := by
  obtain ⟨i0, hi, hz0, hz1, hz2⟩ := info_partsV Try.info_intV
  obtain ⟨v', w', h1, h2, h3, h4, h5⟩ := run_append_own_at (P := Try.prog) (w.alloc (.cells #[.int .i64 x] 3)) B 54 ty 3 i0 _ 1 8 Try.underlying54 hi hz0 hz1 hz2 rfl (by decide) v xs.length _ (h.alloc _) ⟨w.heap.size, 0, none⟩ 1 1 [.int .i64 x] rfl (World.news_of_block (cs := #[.int .i64 x]) (t := 3) (fr := (0, 0)) (heap_alloc_new w _)) (by simp [Value.oneCell']) (by unfold maxLen; omega) (by omega) (by simp; omega)
  have h2' : intOwnV w' B v' (xs ++ [x]) := by
    show w'.ownsRow _ _ _ _ _ _
    rw [List.length_append, List.map_append]
    exact h2
  obtain ⟨ao', cap', rfl⟩ := owns_slice h2
  exact ⟨ao', cap', w', h1, h2', ((Touch.refl w _).alloc _).grown h3 (fun k hk => .inl (by simp [hk]))⟩

def blkV (l : List InsD) (k : Nat) : List Int := ((List.range k).filter fun j => decide (opAt l j = 21)).map Int.ofNat
theorem blk_succ (l : List InsD) (k : Nat) : blkV l (k + 1) = if opAt l k = 21 then blkV l k ++ [(k : Int)] else blkV l k := by
  unfold blkV
  rw [List.range_succ, List.filter_append, List.map_append]
  by_cases h : opAt l k = 21 <;> simp [h]
theorem blk_len (l : List InsD) (k : Nat) : (blkV l k).length ≤ k := by
  unfold blkV
  rw [List.length_map]
  exact Nat.le_trans (List.length_filter_le _ _) (by simp)

/-- The first ones of instructions that can be read. -/
theorem insv_take {w : World} {ao : Option Addr} {cap : Nat} {l : List InsD} (h : InsV w (.slice ao l.length cap) l) (n c : Nat) (hn : n ≤ l.length) : InsV w (.slice ao n c) (l.take n) := by
  refine ⟨ao, c, by rw [List.length_take, Nat.min_eq_left hn], fun hne => ?_⟩
  have hpos : 0 < n := by
    rcases Nat.eq_zero_or_pos n with h0 | h0
    · subst h0; simp at hne
    · exact h0
  obtain ⟨g, off, e, hg, _⟩ := SRow.at h 0 (by omega)
  refine ⟨g, off, e, hg, fun k hk j hj => ?_⟩
  rw [List.length_take] at hk
  obtain ⟨g', off', e', _, hc⟩ := SRow.at h k (by omega)
  rw [e] at e'
  simp only [Option.some.injEq, Addr.mk.injEq] at e'
  obtain ⟨rfl, rfl, _⟩ := e'
  rw [hc j hj, List.getElem_take]

end Go.Proofs.Ytlndbligbpfdpaa
