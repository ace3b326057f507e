/-
  OpaqueFound is proved: for every events (the first 30 of them), heap (its first 13 values), and those that count as committed (the first 6): Found tells the order, or the error, that the document's definition tells; the arguments read behind the call as before. No condition.
-/
import Derived.Test.YtjacclbifeoclaaOpqFndLaw
import Derived.Test.YtjacclbifeoclaaOpqOpen
namespace Go.Proofs.Ytjacclbifeoclaa
set_option linter.unusedVariables false
set_option linter.unusedSimpArgs false
open Go.ChangeShapes Go.WideShapes Go.ChangeAt Go.RowKit Go.Joins Go.Deep

set_option maxRecDepth 100000 in
theorem opaqueFound_lifted (os : Os) (started : os.Started) (H : Type) (enc : TypeId × Value → H) :
    ReturnsInHanded {} Try.checked os 3 .any (Rows.opaqueFoundSpec.pre6 enc Try.prog Try.f3 Rows.opaqueFoundRow.domain false) (Rows.opaqueFoundSpec.post enc Try.prog Try.f3 false true false false) := by
  refine returnsInHanded_of_change (C := Try.checked) Try.own started (by kernel_rfl) Try.func3
    (ChangeSpec.witness6 (enc := enc) (C := Try.checked) false ⟨#[], #[.slice none 0 0, .slice none 0 0, .slice none 0 0], []⟩ 8 (by kernel_rfl) (by kernel_rfl) (by kernel_rfl) (by kernel_rfl)) ?_
  intro W base args ds gs before hval0 hW hcnd _
  have hval : ∀ (j : Nat) t v, Try.f3.params[j]? = some t → args[j]? = some v → Value.okWide Try.prog W .any base t v := hval0
  have hW' := hW
  obtain ⟨p, q, hA0, hV, rfl, hfz, hnd⟩ := hW
  have hA : DataW.TrodAll enc Try.prog W 0 (fun _ => true) true Try.f3.params.toList args.toList ds p := hA0
  rw [Try.params3] at hA hval
  obtain ⟨v0, vs0, d0, ds0, p0, q0, hargs, rfl, rfl, h0, r0⟩ := trodAll_cons hA
  obtain ⟨v1, vs1, d1, ds1, p1, q1, rfl, rfl, rfl, h1, r1⟩ := trodAll_cons r0
  obtain ⟨v2, vs2, d2, ds2, p2, q2, rfl, rfl, rfl, h2, r2⟩ := trodAll_cons r1
  obtain ⟨rfl, rfl, rfl⟩ := trodAll_nil r2
  obtain rfl : args = #[v0, v1, v2] := by cases args; simp_all
  obtain ⟨rfl, rfl⟩ := trodVars_none hV
  have lt0 : ∀ x ∈ p0, x.block < W.heap.size := by obtain ⟨m, hm⟩ := h0; exact DataW.trod_lt m _ _ _ hm
  have lt1 : ∀ x ∈ p1, x.block < W.heap.size := by obtain ⟨m, hm⟩ := h1; exact DataW.trod_lt m _ _ _ hm
  have lt2 : ∀ x ∈ p2, x.block < W.heap.size := by obtain ⟨m, hm⟩ := h2; exact DataW.trod_lt m _ _ _ hm
  obtain ⟨ao_l, len_l, cap_l, e0⟩ := okWide_slice Try.underlying22 (hval 0 22 v0 rfl rfl)
  subst e0
  obtain ⟨l, hr_l, wf_l, hl_l⟩ := events_of_trod h0
  have hlen_l : len_l = l.length := by obtain ⟨_, _, e, _⟩ := hr_l; simp only [Value.slice.injEq] at e; exact e.2.1
  subst hlen_l
  obtain ⟨ao_h, len_h, cap_h, e1⟩ := okWide_slice Try.underlying23 (hval 1 23 v1 rfl rfl)
  subst e1
  obtain ⟨h, hr_h, wf_h, hl_h⟩ := ovals_of_trod h1
  have hlen_h : len_h = h.length := by obtain ⟨_, _, e, _⟩ := hr_h; simp only [Value.slice.injEq] at e; exact e.2.1
  subst hlen_h
  obtain ⟨ao_c, len_c, cap_c, e2⟩ := okWide_slice Try.underlying24 (hval 2 24 v2 rfl rfl)
  subst e2
  obtain ⟨c, hr_c, wf_c, hl_c⟩ := oints_of_trod h2
  have hlen_c : len_c = c.length := by obtain ⟨_, _, e, _⟩ := hr_c; simp only [Value.slice.injEq] at e; exact e.2.1
  subst hlen_c
  refine (ofound_any ao_l ao_h ao_c cap_l cap_h cap_c l h c W hr_l (caps_of_trod Try.underlying22 h0) wf_l hr_h (caps_of_trod Try.underlying23 h1) wf_h hr_c (caps_of_trod Try.underlying24 h2)).mono fun e W' ⟨he, t⟩ => ?_
  subst he
  have bel := t.below (Nat.le_refl _) (by simp)
  exact ⟨_, rfl, _, _, _, [], _, [], hW', trodAll_mk1 (shut_bool Try.underlying4 _), (trodAll_cons_mk (Below.trod Try.laidOut (by kernel_rfl) (of_decide_eq_true (by kernel_rfl)) h0 bel lt0) (trodAll_cons_mk (Below.trod Try.laidOut (by kernel_rfl) (of_decide_eq_true (by kernel_rfl)) h1 bel lt1) (trodAll_cons_mk (Below.trod Try.laidOut (by kernel_rfl) (of_decide_eq_true (by kernel_rfl)) h2 bel lt2) trodAll_mk0))), rfl, bel.frame _, fun h => by cases h⟩

theorem opaqueFound_holds : Rows.OpaqueFoundSaid :=
  OpenClaim.holds_of_wide 3 Try.f3 rfl rfl rfl rfl rfl rfl rfl ⟨rfl, rfl, rfl, rfl, rfl⟩ rfl rfl rfl rfl rfl (by kernel_rfl) Try.func3 (by kernel_rfl)
    (of_decide_eq_true (by kernel_rfl)) (by unfold Func.isWrapper; first | (rw [if_pos (by decide +kernel)]; kernel_rfl) | (rw [if_neg (by decide +kernel)]; exact ⟨rfl, rfl⟩))
    (fun os started H enc _ => opaqueFound_lifted os started H enc)

end Go.Proofs.Ytjacclbifeoclaa
