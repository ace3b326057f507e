/-
  TopCounter is proved: whoever of two threads goes on (the first 80 picks), and however much each adds by swaps, the cell has as much more as swaps were Ok, and the log is right; the arguments read behind the call as before. No condition.
-/
import Derived.Test.YtcoacfdbcinapaaCounterWalk
import Derived.Test.YtcoacfdbcinapaaCellsOpen
import Derived.OpenShut
namespace Go.Proofs.Ytcoacfdbcinapaa
set_option linter.unusedVariables false
set_option linter.unusedSimpArgs false
open Go.ChangeShapes Go.WideShapes Go.ChangeAt Go.RowKit Go.Joins Go.Deep

theorem Try.cells_pair8 : Try.prog.cellsOf 59 = 2 := by kernel_rfl
theorem Try.cells_u8 : Try.prog.cellsOf 5 = 1 := by kernel_rfl
theorem Try.cells_bl : Try.prog.cellsOf 4 = 1 := by kernel_rfl

theorem pair8_of_trod {H : Type} {enc : TypeId × Value → H} {W : World} {base : Nat} {v : Value} {d : DataW H} {p : List MemPlace} (hv : Value.okWide Try.prog W .any base 59 v) (h : DataW.Trod enc Try.prog W 0 (fun _ => true) true 59 v d p) :
    ∃ x y : Int, v = .agg #[.int .u8 x, .int .u8 y] ∧ (0 ≤ x ∧ x ≤ 255) ∧ (0 ≤ y ∧ y ≤ 255) := by
  have hv' := hv
  simp only [Value.okWide, Try.underlying59] at hv'
  obtain ⟨cs, rfl, hsz, _⟩ := hv'
  rw [Try.cells_pair8] at hsz
  obtain ⟨fuel, hf⟩ := h
  obtain ⟨xs, m, _, _, _, hxl, hx⟩ := DataW.trod_array Try.underlying59 hf
  obtain ⟨cl⟩ := cs
  match cl, hsz with
  | [c0, c1], _ =>
    have x0 := hx 0 (by omega)
    have x1 := hx 1 (by omega)
    match xs, hxl with
    | [y0, y1], _ =>
      simp only [Value.cells, Try.cells_u8, List.drop_zero, Nat.zero_mul, Nat.one_mul, List.drop_succ_cons, List.take_succ_cons, List.take_zero, List.getElem?_cons_zero, List.getElem?_cons_succ] at x0 x1
      obtain ⟨a, e0, _, wa⟩ := DataW.trod_int Try.underlying5 x0
      obtain ⟨b, e1, _, wb⟩ := DataW.trod_int Try.underlying5 x1
      simp at e0 e1
      subst e0 e1
      exact ⟨a, b, rfl, wf_u8 wa, wf_u8 wb⟩

/-- A slice of bools that came in. -/
theorem bools_of_trod {H : Type} {enc : TypeId × Value → H} {W : World} {ao : Option Addr} {len cap : Nat} {d : DataW H} {p : List MemPlace} (h : DataW.Trod enc Try.prog W 0 (fun _ => true) true 58 (.slice ao len cap) d p) :
    ∃ ps : List Bool, ps.length = len ∧ len ≤ maxLen ∧ (0 < len → ∃ g off, ao = some ⟨g, off, none⟩ ∧ g < W.heap.size ∧ ∀ k (h : k < ps.length), W.cell? ⟨g, off + k, none⟩ = some (.bool ps[k])) := by
  obtain ⟨fuel, hf⟩ := h
  rcases open_slice1 Try.underlying58 Try.cells_bl hf with ⟨hcs, _⟩ | ⟨a, len', cap', m, n, V, D, Pl, hcs, _, hl, hm, hmm, _, hx⟩
  · simp [Value.cells] at hcs
    obtain ⟨rfl, rfl, rfl⟩ := hcs
    exact ⟨[], rfl, by simp, by omega⟩
  · simp [Value.cells] at hcs
    obtain ⟨rfl, rfl, rfl⟩ := hcs
    simp only [if_true] at hmm
    have hel : ∀ i, i < len → ∃ b : Bool, W.cell? (a.add i) = some (.bool b) := fun i hi => by
      obtain ⟨h1, h2⟩ := hx i (by omega)
      obtain ⟨b, e2, _⟩ := DataW.trod_bool Try.underlying4 h2
      simp at e2
      exact ⟨b, by rw [h1, e2]⟩
    obtain ⟨f, hf⟩ : ∃ f : Nat → Bool, ∀ i, i < len → W.cell? (a.add i) = some (.bool (f i)) := choose_lt hel
    refine ⟨(List.range len).map f, by simp, by omega, fun hpos => ?_⟩
    have hc0 := hf 0 hpos
    have hsp := World.cell?_spot hc0
    obtain ⟨g, off, spot⟩ := a
    have : spot = none := by simpa [Addr.add] using hsp
    subst this
    have hlt := World.block_lt_of_cell? W _ hc0
    refine ⟨g, off, rfl, by simpa [Addr.add] using hlt, fun k hk => ?_⟩
    simp only [List.length_map, List.length_range] at hk
    simp only [List.getElem_map, List.getElem_range]
    have q := hf k hk
    rwa [Addr.add_lit] at q

set_option maxRecDepth 100000 in
theorem topCounter_lifted (os : Os) (started : os.Started) (H : Type) (enc : TypeId × Value → H) :
    ReturnsInHanded {} Try.checked os 8 .any (Rows.topCounterSpec.pre6 enc Try.prog Try.f8 Rows.topCounterRow.domain false) (Rows.topCounterSpec.post enc Try.prog Try.f8 false true false false) := by
  refine returnsInHanded_of_change (C := Try.checked) Try.own started (by kernel_rfl) Try.func8
    (ChangeSpec.witness6 (enc := enc) (C := Try.checked) false ⟨#[], #[.slice none 0 0, .agg #[.int .u8 0, .int .u8 0]], []⟩ 8 (by kernel_rfl) (by kernel_rfl) (by kernel_rfl) (by kernel_rfl)) ?_
  intro W base args ds gs before hval0 hW hcnd _
  have hval : ∀ (j : Nat) t v, Try.f8.params[j]? = some t → args[j]? = some v → Value.okWide Try.prog W .any base t v := hval0
  have hW' := hW
  obtain ⟨p, q, hA0, hV, rfl, hfz, hnd⟩ := hW
  have hA : DataW.TrodAll enc Try.prog W 0 (fun _ => true) true Try.f8.params.toList args.toList ds p := hA0
  rw [Try.params8] at hA hval
  obtain ⟨v0, vs0, d0, ds0, p0, q0, hargs, rfl, rfl, h0, r0⟩ := trodAll_cons hA
  obtain ⟨v1, vs1, d1, ds1, p1, q1, rfl, rfl, rfl, h1, r1⟩ := trodAll_cons r0
  obtain ⟨rfl, rfl, rfl⟩ := trodAll_nil r1
  obtain rfl : args = #[v0, v1] := by cases args; simp_all
  obtain ⟨rfl, rfl⟩ := trodVars_none hV
  have lt0 : ∀ x ∈ p0, x.block < W.heap.size := by obtain ⟨m, hm⟩ := h0; exact DataW.trod_lt m _ _ _ hm
  have lt1 : ∀ x ∈ p1, x.block < W.heap.size := by obtain ⟨m, hm⟩ := h1; exact DataW.trod_lt m _ _ _ hm
  obtain ⟨ao, len, cap, e2⟩ := okWide_slice Try.underlying58 (hval 0 58 v0 rfl rfl)
  subst e2
  obtain ⟨a0, a1, e3, ha0, ha1⟩ := pair8_of_trod (hval 1 59 v1 rfl rfl) h1
  subst e3
  obtain ⟨ps, hlen, hlm, hr⟩ := bools_of_trod h0
  refine (counter_any a0 a1 ha0 ha1 ao len cap W ps hlen hlm hr).mono fun e W' ⟨he, bel⟩ => ?_
  subst he
  exact ⟨_, rfl, _, _, _, [], _, [], hW', trodAll_mk1 (shut_bool Try.underlying4 _), (trodAll_cons_mk (Below.trod Try.laidOut (by kernel_rfl) (of_decide_eq_true (by kernel_rfl)) h0 bel lt0) (trodAll_cons_mk (Below.trod Try.laidOut (by kernel_rfl) (of_decide_eq_true (by kernel_rfl)) h1 bel lt1) trodAll_mk0)), rfl, bel.frame _, fun h => by cases h⟩

theorem topCounter_holds : Rows.TopCounterSaid :=
  OpenClaim.holds_of_wide 8 Try.f8 rfl rfl rfl rfl rfl rfl rfl ⟨rfl, rfl, rfl, rfl, rfl⟩ rfl rfl rfl rfl rfl (by kernel_rfl) Try.func8 (by kernel_rfl)
    (of_decide_eq_true (by kernel_rfl)) (by unfold Func.isWrapper; first | (rw [if_pos (by decide +kernel)]; kernel_rfl) | (rw [if_neg (by decide +kernel)]; exact ⟨rfl, rfl⟩))
    (fun os started H enc _ => topCounter_lifted os started H enc)

end Go.Proofs.Ytcoacfdbcinapaa
