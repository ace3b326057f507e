/-
  TopFuel's ARGUMENTS.
-/
import Derived.Test.YtkllmffgajganaaTfWalk
import Derived.OpenShut
namespace Go.Proofs.Ytkllmffgajganaa
set_option linter.unusedVariables false
set_option linter.unusedSimpArgs false
set_option maxRecDepth 100000
open Go.ChangeShapes Go.WideShapes Go.ChangeAt Go.RowKit Go.Joins Go.Deep

theorem Try.own : ownKnob Try.prog.godebug = none := by kernel_rfl
theorem Try.laidOut : laidOutB Try.prog = true := by kernel_rfl
theorem Try.cells_ins : Try.prog.cellsOf 50 = 3 := by kernel_rfl
theorem Try.cells_op : Try.prog.cellsOf 48 = 1 := by kernel_rfl
theorem Try.cells_int0 : Try.prog.cellsOf 3 = 1 := by kernel_rfl
theorem Try.cells_val : Try.prog.cellsOf 25 = 1 := by kernel_rfl
theorem vwf_u8 {n : Int} (h : (Lit.int .u8 n).wf = true) : 0 ≤ n ∧ n ≤ 255 := by
  simp [Lit.wf, IntKind.min, IntKind.max, IntKind.signed, IntKind.bits] at h
  omega

theorem vins_of_trod {H : Type} {enc : TypeId × Value → H} {w : World} {base : Nat} {spare : Nat → Bool} {held : Bool} {fuel : Nat} {cs : List Value} {x : DataW H × List MemPlace} (h : DataW.trod enc Try.prog w base spare held fuel 50 cs = some x) :
    ∃ o : InsD, o.Wf ∧ cs = o.cells := by
  obtain ⟨y0, y1, y2, n, _, hl, h0, h1, h2⟩ := trod_struct3 Try.underlying50 h
  rw [Try.cells_ins] at hl
  have hl3 : cs.length = 3 := hl
  clear hl
  match cs, hl3 with
  | [c0, c1, c2], _ =>
    simp only [Try.cells_op, Try.cells_int0, Try.cells_val, List.drop_zero, List.drop_succ_cons, List.take_succ_cons, List.take_zero] at h0 h1 h2
    obtain ⟨k, e0, _, wk⟩ := DataW.trod_int Try.underlying48 h0
    obtain ⟨c, e1, _, wc⟩ := DataW.trod_int Try.underlying3 h1
    obtain ⟨a, e2, _, wa⟩ := DataW.trod_int Try.underlying25 h2
    simp at e0 e1 e2
    subst e0 e1 e2
    simp [Lit.wf, IntKind.min, IntKind.max, IntKind.signed, IntKind.bits] at wk wc wa
    exact ⟨⟨k, c, a⟩, ⟨by simp only; omega, by simp only; omega, by unfold Wf64; simp only; omega⟩, rfl⟩
theorem vinss_of_trod {H : Type} {enc : TypeId × Value → H} {W : World} {ao : Option Addr} {len cap : Nat} {d : DataW H} {p : List MemPlace} (h : DataW.Trod enc Try.prog W 0 (fun _ => true) true 22 (.slice ao len cap) d p) :
    ∃ l : List InsD, InsRow W (.slice ao len cap) l ∧ (∀ o ∈ l, o.Wf) ∧ l.length ≤ maxLen :=
  rows_of_trod (α := InsD) (n := 3) (cells := InsD.cells) (Wf := InsD.Wf) ⟨0, 0, 0⟩ (by decide) (fun _ => rfl) Try.underlying22 Try.cells_ins (fun h => vins_of_trod h) h

theorem Try.cells_u8 : Try.prog.cellsOf 5 = 1 := by kernel_rfl
theorem Try.cells_two : Try.prog.cellsOf 45 = 2 := by kernel_rfl
theorem fval_of_trod {H : Type} {enc : TypeId × Value → H} {w : World} {base : Nat} {spare : Nat → Bool} {held : Bool} {fuel : Nat} {cs : List Value} {x : DataW H × List MemPlace} (h : DataW.trod enc Try.prog w base spare held fuel 25 cs = some x) :
    ∃ o : Int, Wf64 o ∧ cs = vcell o := by
  obtain ⟨k, e0, _, wk⟩ := DataW.trod_int Try.underlying25 h
  simp [Lit.wf, IntKind.min, IntKind.max, IntKind.signed, IntKind.bits] at wk
  exact ⟨k, by unfold Wf64; omega, e0⟩
theorem fvals_of_trod {H : Type} {enc : TypeId × Value → H} {W : World} {ao : Option Addr} {len cap : Nat} {d : DataW H} {p : List MemPlace} (h : DataW.Trod enc Try.prog W 0 (fun _ => true) true 23 (.slice ao len cap) d p) :
    ∃ l : List Int, VRow W (.slice ao len cap) l ∧ (∀ o ∈ l, Wf64 o) ∧ l.length ≤ maxLen :=
  rows_of_trod (α := Int) (n := 1) (cells := vcell) (Wf := Wf64) 0 (by decide) (fun _ => rfl) Try.underlying23 Try.cells_val (fun h => fval_of_trod h) h
theorem array2 {α : Type} {cs : Array α} (h : cs.size = 2) : ∃ c0 c1, cs = #[c0, c1] := by
  obtain ⟨l⟩ := cs
  match l, h with
  | [c0, c1], _ => exact ⟨c0, c1, rfl⟩

/-- Two bytes, by value. -/
theorem two_of_trod {H : Type} {enc : TypeId × Value → H} {W : World} {r : Reach} {b0 : Nat} {v : Value} {d : DataW H} {p : List MemPlace} (hv : Value.okWide Try.prog W r b0 45 v) (h : DataW.Trod enc Try.prog W 0 (fun _ => true) true 45 v d p) :
    ∃ h0 h1 : Int, v = .agg #[.int .u8 h0, .int .u8 h1] ∧ (0 ≤ h0 ∧ h0 ≤ 255) ∧ (0 ≤ h1 ∧ h1 ≤ 255) := by
  have hu := Try.underlying45
  simp only [Value.okWide, hu] at hv
  obtain ⟨cs, rfl, hsz, _⟩ := hv
  obtain ⟨c0, c1, rfl⟩ := array2 (hsz.trans Try.cells_two)
  obtain ⟨fuel, hf⟩ := h
  obtain ⟨xs, m, _, _, _, hlen, hx⟩ := DataW.trod_array hu hf
  rw [Try.cells_u8] at hx
  have key : ∀ i, i < 2 → ∃ n : Int, (((Value.agg #[c0, c1]).cells.toList.drop (i * 1)).take 1) = [.int .u8 n] ∧ (0 ≤ n ∧ n ≤ 255) := fun i hi => by
    have h1 := hx i hi
    obtain ⟨y, hy⟩ : ∃ y, xs[i]? = some y := ⟨xs[i], List.getElem?_eq_getElem (by omega)⟩
    rw [hy] at h1
    obtain ⟨k, e0, _, wk⟩ := DataW.trod_int Try.underlying5 h1
    exact ⟨k, e0, vwf_u8 wk⟩
  obtain ⟨n0, e0, w0⟩ := key 0 (by omega)
  obtain ⟨n1, e1, w1⟩ := key 1 (by omega)
  simp [Value.cells] at e0 e1
  subst e0 e1
  exact ⟨n0, n1, rfl, w0, w1⟩


theorem topfuel_any {W : World} {ap : Option Addr} {cp : Nat} {l : List InsD} {ah : Option Addr} {ch : Nat} {h : List Int} (f g : Int) (hf : 0 ≤ f ∧ f ≤ 255) (hg : 0 ≤ g ∧ g ≤ 255) (hl : InsRow W (.slice ap l.length cp) l) (hlw : ∀ i ∈ l, i.Wf) (hn : l.length ≤ cp ∧ cp ≤ maxLen) (hh : VRow W (.slice ah h.length ch) h) (hhw : ∀ x ∈ h, Wf64 x) (hm : h.length ≤ ch ∧ ch ≤ maxLen) :
    Calls Try.prog 6 #[.slice ap l.length cp, .slice ah h.length ch, .agg #[.int .u8 f, .int .u8 g]] W fun e w' => e = .returned (.bool true) ∧ Touch W w' [] := by
  unfold maxLen at hn hm
  have e1 : (l.take 64).length = if 64 < l.length then 64 else l.length := by rw [List.length_take]; split <;> omega
  have e2 : (h.take 12).length = if 12 < h.length then 12 else h.length := by rw [List.length_take]; split <;> omega
  have r1 : InsRow W (.slice ap (if 64 < l.length then 64 else l.length) cp) (l.take 64) := by
    split
    · have := SRow.first hl 64 (by omega)
      rw [List.length_take, Nat.min_eq_left (by omega)] at this
      exact this
    · rw [List.take_of_length_le (by omega)]; exact hl
  have r2 : VRow W (.slice ah (if 12 < h.length then 12 else h.length) ch) (h.take 12) := by
    split
    · have := SRow.first hh 12 (by omega)
      rw [List.length_take, Nat.min_eq_left (by omega)] at this
      exact this
    · rw [List.take_of_length_le (by omega)]; exact hh
  have z1 : ap = none → l.length = 0 := fun e => by
    by_cases q : 0 < l.length
    · obtain ⟨g, off, e', _⟩ := hl.at 0 q; rw [e] at e'; cases e'
    · omega
  have z2 : ah = none → h.length = 0 := fun e => by
    by_cases q : 0 < h.length
    · obtain ⟨g, off, e', _⟩ := hh.at 0 q; rw [e] at e'; cases e'
    · omega
  exact topfuel_cut f g hf hg hn.1 hn.2 hm.1 hm.2 r1 e1 (fun i hi => hlw i (List.mem_of_mem_take hi)) r2 e2 (fun x hx => hhw x (List.mem_of_mem_take hx)) z1 z2

end Go.Proofs.Ytkllmffgajganaa
