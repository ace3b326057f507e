/-
  The statements on calls: the arguments.
-/
import Derived.Test.YtcbkafbchpjnoaaGreatDoorClBuilt
import Derived.Test.YtcbkafbchpjnoaaGreatDoorCdOpen
namespace Go.Proofs.YtcbkafbchpjnoaaGreatDoor
set_option linter.unusedVariables false
set_option linter.unusedSimpArgs false
set_option maxRecDepth 100000
open Go.ChangeShapes Go.WideShapes Go.ChangeAt Go.RowKit Go.Joins Go.Deep

theorem Tryz.cells_call : Tryz.prog.cellsOf 52 = 3 := by kernel_rfl
theorem Tryz.cells_callkind : Tryz.prog.cellsOf 48 = 1 := by kernel_rfl
theorem Tryz.cells_threei : Tryz.prog.cellsOf 23 = 3 := by kernel_rfl
theorem clwf_u8 {n : Int} (h : (Lit.int .u8 n).wf = true) : 0 ≤ n ∧ n ≤ 255 := by
  simp [Lit.wf, IntKind.min, IntKind.max, IntKind.signed, IntKind.bits] at h
  omega
theorem clwf_i64 {n : Int} (h : (Lit.int .i64 n).wf = true) : -9223372036854775808 ≤ n ∧ n ≤ 9223372036854775807 := by
  simp [Lit.wf, IntKind.min, IntKind.max, IntKind.signed, IntKind.bits] at h
  omega
theorem array3c {α : Type} {cs : Array α} (h : cs.size = 3) : ∃ c0 c1 c2, cs = #[c0, c1, c2] := by
  obtain ⟨l⟩ := cs
  match l, h with
  | [c0, c1, c2], _ => exact ⟨c0, c1, c2, rfl⟩

/-- Three numbers, by value. -/
theorem threei_of_trod {H : Type} {enc : TypeId × Value → H} {W : World} {r : Reach} {b0 : Nat} {v : Value} {d : DataW H} {p : List MemPlace} (hv : Value.okWide Tryz.prog W r b0 23 v) (h : DataW.Trod enc Tryz.prog W 0 (fun _ => true) true 23 v d p) :
    ∃ h0 h1 h2 : Int, v = .agg #[.int .i64 h0, .int .i64 h1, .int .i64 h2] := by
  have hu := Tryz.underlying23
  simp only [Value.okWide, hu] at hv
  obtain ⟨cs, rfl, hsz, _⟩ := hv
  obtain ⟨c0, c1, c2, rfl⟩ := array3c (hsz.trans Tryz.cells_threei)
  obtain ⟨fuel, hf⟩ := h
  obtain ⟨xs, m, _, _, _, hlen, hx⟩ := DataW.trod_array hu hf
  rw [Tryz.cells_int0] at hx
  have key : ∀ i, i < 3 → ∃ n : Int, (((Value.agg #[c0, c1, c2]).cells.toList.drop (i * 1)).take 1) = [.int .i64 n] := fun i hi => by
    have h1 := hx i hi
    obtain ⟨y, hy⟩ : ∃ y, xs[i]? = some y := ⟨xs[i], List.getElem?_eq_getElem (by omega)⟩
    rw [hy] at h1
    obtain ⟨k, e0, _, wk⟩ := DataW.trod_int Tryz.underlying3 h1
    exact ⟨k, e0⟩
  obtain ⟨n0, e0⟩ := key 0 (by omega)
  obtain ⟨n1, e1⟩ := key 1 (by omega)
  obtain ⟨n2, e2⟩ := key 2 (by omega)
  simp [Value.cells] at e0 e1 e2
  subst e0 e1 e2
  exact ⟨n0, n1, n2, rfl⟩

theorem call_of_trod {H : Type} {enc : TypeId × Value → H} {w : World} {base : Nat} {spare : Nat → Bool} {held : Bool} {fuel : Nat} {cs : List Value} {x : DataW H × List MemPlace} (h : DataW.trod enc Tryz.prog w base spare held fuel 52 cs = some x) :
    ∃ o : CaD, o.Wf ∧ cs = o.cells := by
  obtain ⟨y0, y1, y2, n, _, hl, h0, h1, h2⟩ := trod_struct3 Tryz.underlying52 h
  rw [Tryz.cells_call] at hl
  match cs, hl with
  | [c0, c1, c2], _ =>
    simp only [Tryz.cells_callkind, Tryz.cells_int0, Tryz.cells_val, List.drop_zero, List.drop_succ_cons, List.take_succ_cons, List.take_zero] at h0 h1 h2
    obtain ⟨k, e0, _, wk⟩ := DataW.trod_int Tryz.underlying48 h0
    obtain ⟨c, e1, _, wc⟩ := DataW.trod_int Tryz.underlying3 h1
    obtain ⟨a, e2, _, wa⟩ := DataW.trod_int Tryz.underlying50 h2
    simp at e0 e1 e2
    subst e0 e1 e2
    simp [Lit.wf, IntKind.min, IntKind.max, IntKind.signed, IntKind.bits] at wk wc wa
    exact ⟨⟨k, c, a⟩, ⟨by simp only; omega, by simp only; omega, by unfold Wf64; simp only; omega⟩, rfl⟩

theorem calls_of_trod {H : Type} {enc : TypeId × Value → H} {W : World} {ao : Option Addr} {len cap : Nat} {d : DataW H} {p : List MemPlace} (h : DataW.Trod enc Tryz.prog W 0 (fun _ => true) true 24 (.slice ao len cap) d p) :
    ∃ l : List CaD, SRow 3 CaD.cells W (.slice ao len cap) l ∧ (∀ o ∈ l, o.Wf) ∧ l.length ≤ maxLen :=
  rows_of_trod (α := CaD) (n := 3) (cells := CaD.cells) (Wf := CaD.Wf) ⟨0, 0, 0⟩ (by decide) (fun _ => rfl) Tryz.underlying24 Tryz.cells_call (fun h => call_of_trod h) h
theorem casIn_of {W : World} {ao : Option Addr} {cap : Nat} {l : List CaD} (hr : SRow 3 CaD.cells W (.slice ao l.length cap) l) (hw : ∀ o ∈ l, o.Wf) (hc : l.length ≤ cap) : CasIn W ao l.length cap l := ⟨rfl, hr, hc, hw⟩

end Go.Proofs.YtcbkafbchpjnoaaGreatDoor
