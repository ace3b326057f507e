/-
  TopLength: from the argument's reading to instructions; from the row's condition (code.words reads as it is laid) to its last word.
-/
import Derived.Test.YtakmfemhdikkcabDoorTopLen
import Derived.Test.YtakmfemhdikkcabDoorCapsOf
import Derived.Test.YtakmfemhdikkcabDoorTie
import Derived.Test.YtakmfemhdikkcabDoorCards
import Derived.ProofKit
import Derived.LaidMore
import Derived.OpenShut
import Derived.Stop.Joined
import Derived.Lib.LaidTab
import Derived.Lib.SmallJoins
namespace Go.Proofs.YtakmfemhdikkcabDoor
set_option linter.unusedVariables false
set_option linter.unusedSimpArgs false
open Go.ChangeShapes Go.WideShapes Go.ChangeAt Go.RowKit Go.Joins Go.Deep

theorem Tryd.own : ownKnob Tryd.prog.godebug = none := by kernel_rfl
theorem Tryd.laidOut : laidOutB Tryd.prog = true := by kernel_rfl
theorem Tryd.gWords : Tryd.prog.globalNamed "rowlock/code.words" = some 0 := by kernel_rfl
theorem Tryd.tWords : (Tryd.prog.globals[0]?).map (·.type) = some 43 := by kernel_rfl
theorem Tryd.cells_string : Tryd.prog.cellsOf 9 = 1 := by kernel_rfl
theorem Tryd.cells_ins : Tryd.prog.cellsOf 28 = 3 := by kernel_rfl
theorem Tryd.cells_op : Tryd.prog.cellsOf 24 = 1 := by kernel_rfl
theorem Tryd.cells_int0 : Tryd.prog.cellsOf 3 = 1 := by kernel_rfl
theorem Tryd.cells_val : Tryd.prog.cellsOf 26 = 1 := by kernel_rfl

def laid1 : List (String × DataW Unit) := [("rowlock/code.words", Rows.laid_rowlock_code_words)]

theorem wd_of_laid {W : World} (h : laidMetH Tryd.prog laid1 W) : Wd W := by
  rw [MakeChecks.laidMetH_plain _ _ _ (by kernel_rfl)] at h
  obtain ⟨ps, ⟨g', t', cs, fuel, p, q, hg', ht', hvar, hd, _, _⟩, _⟩ := h
  obtain rfl := Option.some.inj (Tryd.gWords.symm.trans hg')
  obtain rfl := Option.some.inj (Tryd.tWords.symm.trans ht')
  obtain ⟨xs, m, _, hx, hl, hxl, hel⟩ := DataW.trod_array Tryd.underlying43 hd
  have h28 := hel 28 (by decide)
  rw [Tryd.cells_string] at h28
  have hd28 : (xs.map (·.1))[28]? = some (.lit (.string [104, 97, 108, 116])) := by
    have := congrArg Prod.fst hx
    simp only [Rows.laid_rowlock_code_words, DataW.agg.injEq] at this
    rw [← this]; rfl
  rw [List.getElem?_map, Option.map_eq_some_iff] at hd28
  obtain ⟨y, hy, ey⟩ := hd28
  rw [hy] at h28
  obtain ⟨s, hc, e, _⟩ := DataW.trod_string Tryd.underlying9 h28
  have hs : s = ⟨#[104, 97, 108, 116]⟩ := by
    rw [e] at ey
    simp only [DataW.lit.injEq, Lit.string.injEq] at ey
    obtain ⟨⟨d⟩⟩ := s
    simp only at ey
    subst ey
    rfl
  have h1 : cs[28]? = some (.string s) := by
    have := congrArg (·[0]?) hc
    simpa [List.getElem?_take, List.getElem?_drop] using this
  have hcell : W.cell? ⟨0, 28, none⟩ = some (.string ⟨#[104, 97, 108, 116]⟩) := by
    rw [World.var?_cell Tryd.gWords hvar 28, h1, hs]
  exact ⟨World.block_lt_of_cell? W _ hcell, hcell⟩

/-- The door's own heap meets the condition. -/
theorem door_met (os : Os) (args : Array Value) : laidMetH Tryd.prog laid1 ((World.doorLaid Tryd.prog 400 os).forCall (fun _ _ => 0) ⟨#[], args, []⟩).memory :=
  laidMetH_of_parts3 (fuel := 8) (laidMet_of_run' 8 (by kernel_rfl) (by kernel_rfl)) (by kernel_rfl) (by kernel_rfl)

theorem ins_of_trod {H : Type} {enc : TypeId × Value → H} {w : World} {base : Nat} {spare : Nat → Bool} {held : Bool} {fuel : Nat} {cs : List Value} {x : DataW H × List MemPlace} (h : DataW.trod enc Tryd.prog w base spare held fuel 28 cs = some x) :
    ∃ o : InsD, o.Wf ∧ cs = o.cells := by
  obtain ⟨y0, y1, y2, n, _, hl, h0, h1, h2⟩ := trod_struct3 Tryd.underlying28 h
  rw [Tryd.cells_ins] at hl
  match cs, hl with
  | [c0, c1, c2], _ =>
    simp only [Tryd.cells_op, Tryd.cells_int0, Tryd.cells_val, List.drop_zero, List.drop_succ_cons, List.take_succ_cons, List.take_zero] at h0 h1 h2
    obtain ⟨k, e0, _, wk⟩ := DataW.trod_int Tryd.underlying24 h0
    obtain ⟨c, e1, _, wc⟩ := DataW.trod_int Tryd.underlying3 h1
    obtain ⟨a, e2, _, wa⟩ := DataW.trod_int Tryd.underlying26 h2
    simp at e0 e1 e2
    subst e0 e1 e2
    simp [Lit.wf, IntKind.min, IntKind.max, IntKind.signed, IntKind.bits] at wk wc wa
    exact ⟨⟨k, c, a⟩, ⟨by simp only; omega, by simp only; omega, by unfold Wf64; simp only; omega⟩, rfl⟩

theorem inss_of_trod {H : Type} {enc : TypeId × Value → H} {W : World} {ao : Option Addr} {len cap : Nat} {d : DataW H} {p : List MemPlace} (h : DataW.Trod enc Tryd.prog W 0 (fun _ => true) true 22 (.slice ao len cap) d p) :
    ∃ l : List InsD, InsRow W (.slice ao len cap) l ∧ (∀ o ∈ l, o.Wf) ∧ l.length ≤ maxLen :=
  rows_of_trod (α := InsD) (n := 3) (cells := InsD.cells) (Wf := InsD.Wf) ⟨0, 0, 0⟩ (by decide) (fun _ => rfl) Tryd.underlying22 Tryd.cells_ins (fun h => ins_of_trod h) h

end Go.Proofs.YtakmfemhdikkcabDoor
