/-
  TopSorted is proved: values that are sorted by Less (the first 20 of them) rise, whatever bits they are: what is no number last, -0 ahead of 0, -Inf ahead of all; the arguments read behind the call as before. No condition.
-/
import Derived.Test.YtdaahghlaingaacSortedWalk
import Derived.ProofKit
import Derived.Lib.SmallJoins
import Derived.Deep.Slices
import Derived.ChangeOld
import Derived.OpenShut
namespace Go.Proofs.Ytdaahghlaingaac
set_option linter.unusedVariables false
set_option linter.unusedSimpArgs false
open Go.ChangeShapes Go.WideShapes Go.ChangeAt Go.RowKit Go.Joins Go.Deep

theorem Try.own : ownKnob Try.prog.godebug = none := by kernel_rfl
theorem Try.laidOut : laidOutB Try.prog = true := by kernel_rfl
theorem Try.cells_val : Try.prog.cellsOf 57 = 1 := by kernel_rfl

theorem wf_u64 {x : Int} (h : (Lit.int .u64 x).wf = true) : 0 ≤ x ∧ x < 18446744073709551616 := by
  simp [Lit.wf, IntKind.min, IntKind.max, IntKind.signed, IntKind.bits] at h; omega

/-- A slice of values that came in. -/
theorem vals_of_trod {H : Type} {enc : TypeId × Value → H} {W : World} {ao : Option Addr} {len cap : Nat} {d : DataW H} {p : List MemPlace} (h : DataW.Trod enc Try.prog W 0 (fun _ => true) true 56 (.slice ao len cap) d p) :
    ∃ ps : List Nat, ps.length = len ∧ len ≤ maxLen ∧ (∀ x ∈ ps, x < 18446744073709551616) ∧ (0 < len → ∃ g off, ao = some ⟨g, off, none⟩ ∧ g < W.heap.size ∧ ∀ k (h : k < ps.length), W.cell? ⟨g, off + k, none⟩ = some (.int .u64 (ps[k] : Nat))) := by
  obtain ⟨fuel, hf⟩ := h
  rcases open_slice1 Try.underlying56 Try.cells_val hf with ⟨hcs, _⟩ | ⟨a, len', cap', m, n, V, D, Pl, hcs, _, hl, hm, hmm, _, hx⟩
  · simp [Value.cells] at hcs
    obtain ⟨rfl, rfl, rfl⟩ := hcs
    exact ⟨[], rfl, by simp, by simp, by omega⟩
  · simp [Value.cells] at hcs
    obtain ⟨rfl, rfl, rfl⟩ := hcs
    simp only [if_true] at hmm
    have hel : ∀ i, i < len → ∃ b : Nat, W.cell? (a.add i) = some (.int .u64 (b : Int)) ∧ b < 18446744073709551616 := fun i hi => by
      obtain ⟨h1, h2⟩ := hx i (by omega)
      obtain ⟨b, e2, _, wb⟩ := DataW.trod_int Try.underlying57 h2
      have hb := wf_u64 wb
      simp at e2
      refine ⟨b.toNat, ?_, by omega⟩
      rw [h1, e2, show ((b.toNat : Nat) : Int) = b by omega]
    obtain ⟨f, hf⟩ : ∃ f : Nat → Nat, ∀ i, i < len → W.cell? (a.add i) = some (.int .u64 (f i : Int)) ∧ f i < 18446744073709551616 := choose_lt hel
    refine ⟨(List.range len).map f, by simp, by omega, fun x hx => ?_, fun hpos => ?_⟩
    · simp only [List.mem_map, List.mem_range] at hx
      obtain ⟨i, hi, rfl⟩ := hx
      exact (hf i hi).2
    have hc0 := (hf 0 hpos).1
    have hsp := World.cell?_spot hc0
    obtain ⟨g, off, spot⟩ := a
    have : spot = none := by simpa [Addr.add] using hsp
    subst this
    have hlt := World.block_lt_of_cell? W _ hc0
    refine ⟨g, off, rfl, by simpa [Addr.add] using hlt, fun k hk => ?_⟩
    simp only [List.length_map, List.length_range] at hk
    simp only [List.getElem_map, List.getElem_range]
    have q := (hf k hk).1
    rwa [Addr.add_lit] at q

set_option maxRecDepth 100000 in
theorem topSorted_lifted (os : Os) (started : os.Started) (H : Type) (enc : TypeId × Value → H) :
    ReturnsInHanded {} Try.checked os 6 .any (Rows.topSortedSpec.pre6 enc Try.prog Try.f6 Rows.topSortedRow.domain false) (Rows.topSortedSpec.post enc Try.prog Try.f6 false true false false) := by
  refine returnsInHanded_of_change (C := Try.checked) Try.own started (by kernel_rfl) Try.func6
    (ChangeSpec.witness6 (enc := enc) (C := Try.checked) false ⟨#[], #[.slice none 0 0], []⟩ 8 (by kernel_rfl) (by kernel_rfl) (by kernel_rfl) (by kernel_rfl)) ?_
  intro W base args ds gs before hval0 hW hcnd _
  have hval : ∀ (j : Nat) t v, Try.f6.params[j]? = some t → args[j]? = some v → Value.okWide Try.prog W .any base t v := hval0
  have hW' := hW
  obtain ⟨p, q, hA0, hV, rfl, hfz, hnd⟩ := hW
  have hA : DataW.TrodAll enc Try.prog W 0 (fun _ => true) true Try.f6.params.toList args.toList ds p := hA0
  rw [Try.params6] at hA hval
  obtain ⟨v0, vs0, d0, ds0, p0, q0, hargs, rfl, rfl, h0, r0⟩ := trodAll_cons hA
  obtain ⟨rfl, rfl, rfl⟩ := trodAll_nil r0
  obtain rfl : args = #[v0] := by cases args; simp_all
  obtain ⟨rfl, rfl⟩ := trodVars_none hV
  have lt0 : ∀ x ∈ p0, x.block < W.heap.size := by obtain ⟨m, hm⟩ := h0; exact DataW.trod_lt m _ _ _ hm
  obtain ⟨ao, len, cap, e2⟩ := okWide_slice Try.underlying56 (hval 0 56 v0 rfl rfl)
  subst e2
  obtain ⟨ps, hlen, hlm, hls, hr⟩ := vals_of_trod h0
  refine (sorted_any ao len cap W ps hlen hlm hls hr).mono fun e W' ⟨he, bel⟩ => ?_
  subst he
  exact ⟨_, rfl, _, _, _, [], _, [], hW', trodAll_mk1 (shut_bool Try.underlying4 _), (trodAll_cons_mk (Below.trod Try.laidOut (by kernel_rfl) (of_decide_eq_true (by kernel_rfl)) h0 bel lt0) trodAll_mk0), rfl, bel.frame _, fun h => by cases h⟩

theorem topSorted_holds : Rows.TopSortedSaid :=
  OpenClaim.holds_of_wide 6 Try.f6 rfl rfl rfl rfl rfl rfl rfl ⟨rfl, rfl, rfl, rfl, rfl⟩ rfl rfl rfl rfl rfl (by kernel_rfl) Try.func6 (by kernel_rfl)
    (of_decide_eq_true (by kernel_rfl)) (by unfold Func.isWrapper; first | (rw [if_pos (by decide +kernel)]; kernel_rfl) | (rw [if_neg (by decide +kernel)]; exact ⟨rfl, rfl⟩))
    (fun os started H enc _ => topSorted_lifted os started H enc)

end Go.Proofs.Ytdaahghlaingaac
