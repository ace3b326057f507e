/-
  package spec: pushed BY ITS CONTRACT, any way.
-/
import Derived.Test.YtlndbligbpfdpaaSpPush
namespace Go.Proofs.Ytlndbligbpfdpaa
set_option linter.unusedVariables false
set_option linter.unusedSimpArgs false
open Go.RowKit

theorem vrow_at {w : World} {a : Option Addr} {n c : Nat} {l : List Int} (h : VRow w (.slice a n c) l) (hl : l.length = n) (hn : 0 < n) : ∃ g off, a = some ⟨g, off, none⟩ ∧ ∀ k, k < n → w.cell? ⟨g, off + k, none⟩ = some (.int .u64 (l.getD k 0)) := by
  subst hl
  obtain ⟨g, off, e, _, _⟩ := h.at 0 hn
  refine ⟨g, off, e, fun k hk => ?_⟩
  obtain ⟨g2, off2, e2, _, hc⟩ := h.at k hk
  rw [e] at e2
  simp only [Option.some.injEq, Addr.mk.injEq] at e2
  obtain ⟨rfl, rfl, _⟩ := e2
  have := hc 0 (by simp)
  simp only [Nat.mul_one, Nat.add_zero, List.getElem_cons_zero] at this
  rw [List.getD_eq_getElem?_getD, List.getElem?_eq_getElem hk]
  simpa using this

theorem pushed_any {w : World} {b : Nat} {T : TypeId} {tl : List Value} {vs vo vp : Value} {D : WD} (h : WObj w b T tl vs vo vp D) (i : InsD) (hi : i.op = 2 → 0 ≤ i.arg ∧ i.arg < 4) {a : Option Addr} {n c : Nat} {pp : List Int} (hn : n = (popV i.op).toNat) (hl : pp.length = n) (hw : ∀ x ∈ pp, Wf64 x) (hp : VRow w (.slice a n c) pp) :
    Calls Try.prog 47 #[.pointer (some ⟨b, 0, none⟩), i.v, .slice a n c] w (PushP w (pushW D i pp)) := by
  obtain ⟨o, ar, v⟩ := i
  simp only at hi hn
  unfold pushW
  simp only
  by_cases h1 : o = 1
  · subst h1; simp only [if_true]; exact pushed_push ar v _
  rw [if_neg h1]
  by_cases h2 : o = 2
  · subst h2
    obtain ⟨k0, k4⟩ := hi rfl
    obtain ⟨k, rfl⟩ := Int.eq_ofNat_of_zero_le k0
    rw [if_pos rfl]
    have hc := h.cells
    refine pushed_local k (by omega) v _ _ ?_
    have hk : k = 0 ∨ k = 1 ∨ k = 2 ∨ k = 3 := by omega
    unfold WD.loc
    rcases hk with rfl | rfl | rfl | rfl
    · exact hc.c2
    · exact hc.c3
    · exact hc.c4
    · exact hc.c5
  rw [if_neg h2]
  by_cases h16 : o = 16
  · subst h16
    have hn1 : n = 1 := hn
    subst hn1
    obtain ⟨g, off, rfl, hc⟩ := vrow_at hp hl (by omega)
    rw [if_pos rfl]
    exact pushed_dup ar v _ (hc 0 (by omega))
  rw [if_neg h16]
  by_cases h18 : o = 18
  · subst h18
    have hn1 : n = 2 := hn
    subst hn1
    obtain ⟨g, off, rfl, hc⟩ := vrow_at hp hl (by omega)
    rw [if_pos rfl]
    exact pushed_swap ar v _ _ (hc 0 (by omega)) (hc 1 (by omega))
  rw [if_neg h18]
  by_cases h12 : o = 12
  · subst h12
    have hn1 : n = 1 := hn
    subst hn1
    obtain ⟨g, off, rfl, hc⟩ := vrow_at hp hl (by omega)
    rw [if_pos rfl]
    refine pushed_neg ar v _ ?_ (hc 0 (by omega))
    rw [List.getD_eq_getElem?_getD, List.getElem?_eq_getElem (by omega)]
    exact hw _ (List.getElem_mem _)
  rw [if_neg h12]
  by_cases h15 : o = 15
  · subst h15
    have hn1 : n = 1 := hn
    subst hn1
    obtain ⟨g, off, rfl, hc⟩ := vrow_at hp hl (by omega)
    rw [if_pos rfl]
    exact pushed_not ar v _ (hc 0 (by omega))
  rw [if_neg h15]
  by_cases hr : o = 8 ∨ o = 9 ∨ o = 10 ∨ o = 11 ∨ o = 13 ∨ o = 14
  · have hn1 : n = 2 := by rw [hn]; unfold popV; rcases hr with rfl | rfl | rfl | rfl | rfl | rfl <;> rfl
    subst hn1
    obtain ⟨g, off, rfl, hc⟩ := vrow_at hp hl (by omega)
    rw [if_pos hr]
    exact pushed_reck o ar v hr _ _ (hc 0 (by omega)) (hc 1 (by omega))
  rw [if_neg hr]
  simp only [not_or] at hr
  exact pushed_none o ar v _ ⟨h1, h2, h16, h18, h12, h15, hr.1, hr.2.1, hr.2.2.1, hr.2.2.2.1, hr.2.2.2.2.1, hr.2.2.2.2.2⟩
end Go.Proofs.Ytlndbligbpfdpaa
