/-
  SpecNothing's ARGUMENTS: a State by value.
-/
import Derived.Test.YtlndbligbpfdpaaSnFew
import Derived.Test.YtlndbligbpfdpaaSpCopied
import Derived.OpenShut
import Derived.Lib.SmallJoins
namespace Go.Proofs.Ytlndbligbpfdpaa
set_option linter.unusedVariables false
set_option linter.unusedSimpArgs false
set_option maxRecDepth 100000
open Go.ChangeShapes Go.WideShapes Go.ChangeAt Go.RowKit Go.Joins Go.Deep

theorem Try.own : ownKnob Try.prog.godebug = none := by kernel_rfl
theorem Try.laidOut : laidOutB Try.prog = true := by kernel_rfl
theorem Try.cells_ins : Try.prog.cellsOf 48 = 3 := by kernel_rfl
theorem Try.cells_op : Try.prog.cellsOf 46 = 1 := by kernel_rfl
theorem Try.cells_int0 : Try.prog.cellsOf 3 = 1 := by kernel_rfl
theorem Try.cells_val : Try.prog.cellsOf 25 = 1 := by kernel_rfl
theorem Try.cells_vals : Try.prog.cellsOf 23 = 1 := by kernel_rfl
theorem Try.cells_four : Try.prog.cellsOf 26 = 4 := by kernel_rfl
theorem Try.cells_st : Try.prog.cellsOf 28 = 7 := by kernel_rfl
theorem vwf_u64 {n : Int} (h : (Lit.int .u64 n).wf = true) : Wf64 n := by
  simp [Lit.wf, IntKind.min, IntKind.max, IntKind.signed, IntKind.bits] at h
  unfold Wf64
  omega

theorem vins_of_trod {H : Type} {enc : TypeId × Value → H} {w : World} {base : Nat} {spare : Nat → Bool} {held : Bool} {fuel : Nat} {cs : List Value} {x : DataW H × List MemPlace} (h : DataW.trod enc Try.prog w base spare held fuel 48 cs = some x) :
    ∃ o : InsD, o.Wf ∧ cs = o.cells := by
  obtain ⟨y0, y1, y2, n, _, hl, h0, h1, h2⟩ := trod_struct3 Try.underlying48 h
  rw [Try.cells_ins] at hl
  have hl3 : cs.length = 3 := hl
  clear hl
  match cs, hl3 with
  | [c0, c1, c2], _ =>
    simp only [Try.cells_op, Try.cells_int0, Try.cells_val, List.drop_zero, List.drop_succ_cons, List.take_succ_cons, List.take_zero] at h0 h1 h2
    obtain ⟨k, e0, _, wk⟩ := DataW.trod_int Try.underlying46 h0
    obtain ⟨c, e1, _, wc⟩ := DataW.trod_int Try.underlying3 h1
    obtain ⟨a, e2, _, wa⟩ := DataW.trod_int Try.underlying25 h2
    simp at e0 e1 e2
    subst e0 e1 e2
    simp [Lit.wf, IntKind.min, IntKind.max, IntKind.signed, IntKind.bits] at wk wc wa
    exact ⟨⟨k, c, a⟩, ⟨by simp only; omega, by simp only; omega, by unfold Wf64; simp only; omega⟩, rfl⟩
theorem vinss_of_trod {H : Type} {enc : TypeId × Value → H} {W : World} {ao : Option Addr} {len cap : Nat} {d : DataW H} {p : List MemPlace} (h : DataW.Trod enc Try.prog W 0 (fun _ => true) true 22 (.slice ao len cap) d p) :
    ∃ l : List InsD, InsRow W (.slice ao len cap) l ∧ (∀ o ∈ l, o.Wf) ∧ l.length ≤ maxLen :=
  rows_of_trod (α := InsD) (n := 3) (cells := InsD.cells) (Wf := InsD.Wf) ⟨0, 0, 0⟩ (by decide) (fun _ => rfl) Try.underlying22 Try.cells_ins (fun h => vins_of_trod h) h
theorem fval_of_trod {H : Type} {enc : TypeId × Value → H} {w : World} {base : Nat} {spare : Nat → Bool} {held : Bool} {fuel : Nat} {cs : List Value} {x : DataW H × List MemPlace} (h : DataW.trod enc Try.prog w base spare held fuel 25 cs = some x) :
    ∃ o : Int, Wf64 o ∧ cs = vcell o := by
  obtain ⟨k, e0, _, wk⟩ := DataW.trod_int Try.underlying25 h
  exact ⟨k, vwf_u64 wk, e0⟩
theorem fvals_of_trod {H : Type} {enc : TypeId × Value → H} {W : World} {ao : Option Addr} {len cap : Nat} {d : DataW H} {p : List MemPlace} (h : DataW.Trod enc Try.prog W 0 (fun _ => true) true 23 (.slice ao len cap) d p) :
    ∃ l : List Int, VRow W (.slice ao len cap) l ∧ (∀ o ∈ l, Wf64 o) ∧ l.length ≤ maxLen :=
  rows_of_trod (α := Int) (n := 1) (cells := vcell) (Wf := Wf64) 0 (by decide) (fun _ => rfl) Try.underlying23 Try.cells_val (fun h => fval_of_trod h) h

/-- A slice of values that is a field. -/
theorem fcell_of_trod {H : Type} {enc : TypeId × Value → H} {W : World} {fuel : Nat} {c : Value} {x : DataW H × List MemPlace} (h : DataW.trod enc Try.prog W 0 (fun _ => true) true fuel 23 [c] = some x) :
    ∃ (ao : Option Addr) (l : List Int) (cap : Nat), c = .slice ao l.length cap ∧ VRow W (.slice ao l.length cap) l ∧ (∀ o ∈ l, Wf64 o) ∧ l.length ≤ cap ∧ cap ≤ maxLen := by
  obtain ⟨ao, len, cap, rfl, hlc, hcm⟩ : ∃ (ao : Option Addr) (len cap : Nat), c = .slice ao len cap ∧ len ≤ cap ∧ cap ≤ maxLen := by
    rcases DataW.trod_slice Try.underlying23 h with ⟨hcs, _⟩ | ⟨a, len, cap, _, _, _, _, hcs, _, _, h1, h2, _⟩
    · simp at hcs
      exact ⟨none, 0, 0, hcs, Nat.le_refl _, Nat.zero_le _⟩
    · simp at hcs
      exact ⟨some a, len, cap, hcs, h1, h2⟩
  have hT : DataW.Trod enc Try.prog W 0 (fun _ => true) true 23 (.slice ao len cap) x.1 x.2 := ⟨fuel, by simpa [Value.cells] using h⟩
  obtain ⟨l, hr, hw, _⟩ := fvals_of_trod hT
  have hlen : len = l.length := by obtain ⟨_, _, e, _⟩ := hr; simp only [Value.slice.injEq] at e; exact e.2.1
  subst hlen
  exact ⟨ao, l, cap, rfl, hr, hw, hlc, hcm⟩
theorem four_of_trod {H : Type} {enc : TypeId × Value → H} {W : World} {fuel : Nat} {c0 c1 c2 c3 : Value} {x : DataW H × List MemPlace} (h : DataW.trod enc Try.prog W 0 (fun _ => true) true fuel 26 [c0, c1, c2, c3] = some x) :
    ∃ n0 n1 n2 n3 : Int, c0 = .int .u64 n0 ∧ c1 = .int .u64 n1 ∧ c2 = .int .u64 n2 ∧ c3 = .int .u64 n3 ∧ Wf64 n0 ∧ Wf64 n1 ∧ Wf64 n2 ∧ Wf64 n3 := by
  obtain ⟨xs, m, _, _, _, hlen, hx⟩ := DataW.trod_array Try.underlying26 h
  rw [Try.cells_val] at hx
  have key : ∀ i, i < 4 → ∃ n : Int, (([c0, c1, c2, c3].drop (i * 1)).take 1) = [.int .u64 n] ∧ Wf64 n := fun i hi => by
    have h1 := hx i hi
    obtain ⟨y, hy⟩ : ∃ y, xs[i]? = some y := ⟨xs[i], List.getElem?_eq_getElem (by omega)⟩
    rw [hy] at h1
    obtain ⟨k, e0, _, wk⟩ := DataW.trod_int Try.underlying25 h1
    exact ⟨k, e0, vwf_u64 wk⟩
  obtain ⟨n0, e0, w0⟩ := key 0 (by omega)
  obtain ⟨n1, e1, w1⟩ := key 1 (by omega)
  obtain ⟨n2, e2, w2⟩ := key 2 (by omega)
  obtain ⟨n3, e3, w3⟩ := key 3 (by omega)
  simp at e0 e1 e2 e3
  exact ⟨n0, n1, n2, n3, e0, e1, e2, e3, w0, w1, w2, w3⟩
theorem array7 {α : Type} {cs : Array α} (h : cs.size = 7) : ∃ c0 c1 c2 c3 c4 c5 c6, cs = #[c0, c1, c2, c3, c4, c5, c6] := by
  obtain ⟨l⟩ := cs
  match l, h with
  | [c0, c1, c2, c3, c4, c5, c6], _ => exact ⟨c0, c1, c2, c3, c4, c5, c6, rfl⟩
theorem vwf_i64 {n : Int} (h : (Lit.int .i64 n).wf = true) : -9223372036854775808 ≤ n ∧ n ≤ 9223372036854775807 := by
  simp [Lit.wf, IntKind.min, IntKind.max, IntKind.signed, IntKind.bits] at h
  omega

/-- What a State holds, as data. -/
structure StOk (W : World) (D : WD) (sa oa : Option Addr) (sc oc : Nat) : Prop where
  pc : -9223372036854775808 ≤ D.pc ∧ D.pc ≤ 9223372036854775807
  st : VRow W (.slice sa D.st.length sc) D.st
  out : VRow W (.slice oa D.out.length oc) D.out
  ws : ∀ x ∈ D.st, Wf64 x
  wo : ∀ x ∈ D.out, Wf64 x
  l0 : Wf64 D.l0
  l1 : Wf64 D.l1
  l2 : Wf64 D.l2
  l3 : Wf64 D.l3
  cs : D.st.length ≤ sc ∧ sc ≤ 9223372036854775807
  co : D.out.length ≤ oc ∧ oc ≤ 9223372036854775807
theorem state_of_trod {H : Type} {enc : TypeId × Value → H} {W : World} {r : Reach} {b0 : Nat} {v : Value} {d : DataW H} {p : List MemPlace} (hv : Value.okWide Try.prog W r b0 28 v) (h : DataW.Trod enc Try.prog W 0 (fun _ => true) true 28 v d p) :
    ∃ (D : WD) (sa oa : Option Addr) (sc oc : Nat), v = stV D (.slice sa D.st.length sc) (.slice oa D.out.length oc) ∧ StOk W D sa oa sc oc := by
  obtain ⟨cs, rfl, hsz⟩ := okWide_struct Try.underlying28 hv
  obtain ⟨c0, c1, c2, c3, c4, c5, c6, rfl⟩ := array7 (hsz.trans Try.cells_st)
  obtain ⟨fuel, hf⟩ := h
  obtain ⟨y0, y1, y2, y3, n, _, _, h0, h1, h2, h3⟩ := trod_struct4 Try.underlying28 hf
  simp only [Try.cells_int0, Try.cells_vals, Try.cells_four, Value.cells, List.drop_zero, List.drop_succ_cons, List.take_succ_cons, List.take_zero] at h0 h1 h2 h3
  obtain ⟨k, e0, _, wk⟩ := DataW.trod_int Try.underlying3 h0
  simp at e0
  subst e0
  obtain ⟨sa, st, sc, rfl, r1, w1, a1, b1⟩ := fcell_of_trod h1
  obtain ⟨n0, n1, n2, n3, rfl, rfl, rfl, rfl, z0, z1, z2, z3⟩ := four_of_trod h2
  obtain ⟨oa, out, oc, rfl, r2, w2, a2, b2⟩ := fcell_of_trod h3
  unfold maxLen at b1 b2
  exact ⟨⟨k, st, n0, n1, n2, n3, out, 0⟩, sa, oa, sc, oc, rfl, vwf_i64 wk, r1, r2, w1, w2, z0, z1, z2, z3, ⟨a1, by omega⟩, ⟨a2, by omega⟩⟩

theorem cut_len {α : Type} (k : Nat) (l : List α) : (l.take k).length = cutN k l.length := by
  unfold cutN
  rw [List.length_take]
  split <;> omega

end Go.Proofs.Ytlndbligbpfdpaa
