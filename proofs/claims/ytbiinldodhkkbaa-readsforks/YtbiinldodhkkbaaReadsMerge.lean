/-
  Merge of both sets BY THEIR CONTRACTS, AND ReadsMerges, WALKED.
-/
import Derived.Test.YtbiinldodhkkbaaReadsSame
namespace Go.Proofs.Ytbiinldodhkkbaa
set_option linter.unusedVariables false
set_option linter.unusedSimpArgs false
open Go.RowKit Go.Maps

/-- What Merge comes to. -/
def mergeE (L K : List EntD) : Int × List EntD := if 8 < L.length + (lackE L K).length then (4, L) else (0, L ++ lackE L K)

theorem lack_joins {L K : List EntD} (hL : SetL L) (hK : SetL K) : Joins L (lackE L K) := by
  refine ⟨fun e he => hK.ok e (List.mem_filter.1 he).1, ?_⟩
  rw [List.map_append, List.nodup_append]
  refine ⟨hL.nodup, ?_, ?_⟩
  · have hs : (lackE L K).Sublist K := List.filter_sublist
    exact (hs.map EntD.tvar).nodup hK.nodup
  · intro x hx y hy
    rintro rfl
    rw [List.mem_map] at hx hy
    obtain ⟨z, hz, hzt⟩ := hx
    obtain ⟨e, he, het⟩ := hy
    have hn := (List.mem_filter.1 he).2
    have : hasT L e.tvar = true := by
      unfold hasT
      rw [List.any_eq_true]
      exact ⟨z, hz, by simp [hzt, het]⟩
    rw [this] at hn; simp at hn

theorem ents_wf {L : List EntD} (h : SetL L) : ∀ e ∈ L, e.Wf := fun e he => (h.ok e he).wf

set_option maxRecDepth 100000 in
theorem merge_any {B B' : Nat} {w : World} {b m : Nat} {vl : Value} {L : List EntD} {b' m' : Nat} {vl' : Value} {K : List EntD} (h : RdSet B w b m vl L) (hB : B ≤ w.heap.size) (h' : RdSet B' w b' m' vl' K) :
    Calls Try.prog 11 #[.pointer (some ⟨b, 0, none⟩), .pointer (some ⟨b', 0, none⟩)] w (AddPost B w b m vl (mergeE L K)) := by
  obtain ⟨al, cl, rfl⟩ := RdSet.owns_form h'.own
  have hj := join_any h hB al cl K (EntRow.of_owns h'.own) (by have := h'.sl.len; omega) (ents_wf h'.sl) (lack_joins h.sl h'.sl)
  have hp : Calls Try.prog 34 #[.pointer (some ⟨b, 0, none⟩), .slice al K.length cl] w (AddPost B w b m vl (mergeE L K)) := by
    refine hj.mono ?_
    intro x w' hx
    unfold JoinPost at hx
    unfold mergeE
    by_cases hbig : 8 < L.length + (lackE L K).length
    · rw [if_pos hbig] at hx ⊢
      obtain ⟨rfl, t⟩ := hx
      exact h.stays t 4
    · rw [if_neg hbig] at hx ⊢
      obtain ⟨v2, rfl, hs, t, hf⟩ := hx
      exact ⟨v2, rfl, hs, t, hf⟩
  obtain ⟨c0, c1, f0, f1⟩ := h'.cells
  generalize mergeE L K = R at *
  generalize K.length = n at *
  clear hj h h'
  go_enter Try.func11, Try.ntmps11
  go_wp2_with fail
  refine hp.mono ?_
  rintro x w1 ⟨v2, rfl, hs, t, hf⟩
  clear hp
  go_wp2
  go_ret
  exact ⟨v2, rfl, hs, t, hf⟩

theorem merge_none {B : Nat} {w : World} {b m : Nat} {vl : Value} {L : List EntD} (h : RdSet B w b m vl L) :
    Calls Try.prog 11 #[.pointer (some ⟨b, 0, none⟩), .pointer none] w fun x w' => x = .returned (.int .i64 1) ∧ w = w' := by
  go_enter Try.func11, Try.ntmps11
  go_wp2
  go_ret
  exact ⟨rfl, rfl⟩

/-- How many more. -/
theorem lack_count {L K : List EntD} {k : Nat} (hk : k < K.length) : (lackE L (K.take (k + 1))).length = (lackE L (K.take k)).length + (if hasT L K[k].tvar then 0 else 1) := by
  rw [lackE_snoc hk, List.length_append]
  cases hasT L K[k].tvar <;> simp

/-- Adding those of K one by one. -/
theorem add_lack {L K : List EntD} (hL : SetL L) (hK : SetL K) (hbig : ¬ 8 < L.length + (lackE L K).length) {k : Nat} (hk : k < K.length) :
    addE (L ++ lackE L (K.take k)) K[k] = (0, L ++ lackE L (K.take (k + 1))) := by
  have hok := hK.ok K[k] (List.getElem_mem hk)
  unfold addE
  rw [if_neg (by simp [hok.w])]
  have hsub : (lackE L (K.take k)).length + (if hasT L K[k].tvar then 0 else 1) ≤ (lackE L K).length := by
    rw [← lack_count hk]
    exact ((List.take_sublist (k + 1) K).filter _).length_le
  have hh : hasT (L ++ lackE L (K.take k)) K[k].tvar = hasT L K[k].tvar := by
    have h1 : hasT (lackE L (K.take k)) K[k].tvar = false := by
      apply Classical.byContradiction
      intro hc
      have hc' : hasT (lackE L (K.take k)) K[k].tvar = true := by simpa using hc
      unfold hasT at hc'
      rw [List.any_eq_true] at hc'
      obtain ⟨z, hz, hzt⟩ := hc'
      have hzt' : z.tvar = K[k].tvar := by simpa using hzt
      have hz' : z ∈ K.take k := (List.mem_filter.1 hz).1
      have hn := hK.nodup
      rw [show K = K.take k ++ K.drop k by rw [List.take_append_drop], List.map_append, List.nodup_append] at hn
      refine hn.2.2 z.tvar (List.mem_map_of_mem hz') K[k].tvar (List.mem_map_of_mem ?_) hzt'
      rw [List.mem_iff_getElem]
      exact ⟨0, by simp; omega, by simp⟩
    unfold hasT at h1 ⊢
    rw [List.any_append, h1, Bool.or_false]
  rw [hh, lackE_snoc hk]
  cases hb : hasT L K[k].tvar
  · rw [hb] at hsub
    simp only [Bool.false_eq_true, if_false] at hsub ⊢
    rw [if_neg (by rw [List.length_append]; omega), List.append_assoc]
  · simp

end Go.Proofs.Ytbiinldodhkkbaa
