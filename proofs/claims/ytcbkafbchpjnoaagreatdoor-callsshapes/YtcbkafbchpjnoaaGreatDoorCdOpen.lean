/-
  The six statements on code: from the row's condition (the tables, the errors and code.words read as they are laid) to what the walks ask; from an argument's reading to instructions.
-/
import Derived.Test.YtcbkafbchpjnoaaGreatDoorCdLive
import Derived.Test.YtcbkafbchpjnoaaGreatDoorCapsOf
import Derived.Test.YtcbkafbchpjnoaaGreatDoorTie
import Derived.Test.YtcbkafbchpjnoaaGreatDoorCards
import Derived.ProofKit
import Derived.LaidMore
import Derived.OpenShut
import Derived.Stop.Joined
import Derived.Lib.LaidTab
import Derived.Lib.SmallJoins
import Derived.SizedLaws
import Derived.ChangeMaps5
import Derived.Lib.Strings
namespace Go.Proofs.YtcbkafbchpjnoaaGreatDoor
set_option linter.unusedVariables false
set_option linter.unusedSimpArgs false
open Go.ChangeShapes Go.WideShapes Go.ChangeAt Go.RowKit Go.Joins Go.Deep

theorem Tryz.own : ownKnob Tryz.prog.godebug = none := by kernel_rfl
theorem Tryz.laidOut : laidOutB Tryz.prog = true := by kernel_rfl
theorem Tryz.gWords : Tryz.prog.globalNamed "rowlock/code.words" = some 1 := by kernel_rfl
theorem Tryz.tWords : (Tryz.prog.globals[1]?).map (·.type) = some 201 := by kernel_rfl
theorem Tryz.cells_string : Tryz.prog.cellsOf 9 = 1 := by kernel_rfl
theorem Tryz.cells_ins : Tryz.prog.cellsOf 78 = 3 := by kernel_rfl
theorem Tryz.cells_op : Tryz.prog.cellsOf 76 = 1 := by kernel_rfl
theorem Tryz.cells_int0 : Tryz.prog.cellsOf 3 = 1 := by kernel_rfl
theorem Tryz.cells_val : Tryz.prog.cellsOf 50 = 1 := by kernel_rfl

/-- What the rows list. -/
def laid6 : List (String × DataW Unit) := [("math/bits.deBruijn32tab", Rows.laid_math_bits_deBruijn32tab), ("math/bits.deBruijn64tab", Rows.laid_math_bits_deBruijn64tab), ("internal/strconv.uint64pow10", Rows.laid_internal_strconv_uint64pow10), ("strconv.ErrRange", Rows.laid_strconv_ErrRange), ("strconv.ErrSyntax", Rows.laid_strconv_ErrSyntax), ("rowlock/code.words", Rows.laid_rowlock_code_words)]

theorem laidMet_tail {P : Program} {x : String × DataW Unit} {rest : List (String × DataW Unit)} {w : World} (h : laidMet P (x :: rest) w) : laidMet P rest w := by
  obtain ⟨ps, ⟨g, t, cs, fuel, p, q, _, _, _, _, hrest, rfl⟩, hnd, hc⟩ := h
  exact ⟨q, hrest, (List.nodup_append.1 hnd).2.1, fun b off hm => hc b off (List.mem_append_right _ hm)⟩

def wordsD : List (DataW Unit) := wordsB.map fun s => .lit (.string s)
theorem words_laid : Rows.laid_rowlock_code_words = (.agg wordsD : DataW Unit) := rfl
theorem wordsB_len : wordsB.length = 29 := by decide
theorem wordsD_at (k : Nat) (hk : k < 29) : wordsD[k]? = some (.lit (.string (wordsB.getD k []))) := by
  have h : k < wordsB.length := by rw [wordsB_len]; exact hk
  unfold wordsD
  rw [List.getElem?_map, List.getElem?_eq_getElem h, List.getD, List.getElem?_eq_getElem h]
  rfl

theorem wds_of_laid {W : World} (h : laidMetH Tryz.prog laid6 W) : Wds W := by
  rw [MakeChecks.laidMetH_plain _ _ _ (by kernel_rfl)] at h
  obtain ⟨ps, ⟨g', t', cs, fuel, p, q, hg', ht', hvar, hd, _, _⟩, _⟩ := laidMet_tail (laidMet_tail (laidMet_tail (laidMet_tail (laidMet_tail h))))
  obtain rfl := Option.some.inj (Tryz.gWords.symm.trans hg')
  obtain rfl := Option.some.inj (Tryz.tWords.symm.trans ht')
  obtain ⟨xs, m, _, hx, hl, hxl, hel⟩ := DataW.trod_array Tryz.underlying201 hd
  have key : ∀ k, k < 29 → W.cell? ⟨1, k, none⟩ = some (.string (wordB k)) := fun k hk => by
    have h28 := hel k hk
    rw [Tryz.cells_string] at h28
    have hd28 : (xs.map (·.1))[k]? = some (.lit (.string (wordsB.getD k []))) := by
      have := congrArg Prod.fst hx
      rw [words_laid] at this
      simp only [DataW.agg.injEq] at this
      rw [← this]
      exact wordsD_at k hk
    rw [List.getElem?_map, Option.map_eq_some_iff] at hd28
    obtain ⟨y, hy, ey⟩ := hd28
    rw [hy] at h28
    obtain ⟨s, hc, e, _⟩ := DataW.trod_string Tryz.underlying9 h28
    have hs : s = wordB k := by
      rw [e] at ey
      simp only [DataW.lit.injEq, Lit.string.injEq] at ey
      apply ba_ext
      unfold wordB
      simpa using ey
    have h1 : cs[k]? = some (.string s) := by
      have := congrArg (·[0]?) hc
      simpa [List.getElem?_take, List.getElem?_drop] using this
    rw [World.var?_cell Tryz.gWords hvar k, h1, hs]
  exact ⟨World.block_lt_of_cell? W _ (key 0 (by omega)), key⟩

/-- The door's own heap meets the condition. -/
theorem door_met (os : Os) (args : Array Value) : laidMetH Tryz.prog laid6 ((World.doorLaid Tryz.prog 5000 os).forCall (fun _ _ => 0) ⟨#[], args, []⟩).memory :=
  laidMetH_of_parts3 (fuel := 8) (laidMet_of_run' 8 (by kernel_rfl) (by kernel_rfl)) (by kernel_rfl) (by kernel_rfl)

theorem str_lim {t : ByteArray} (h : t.data.toList.length ≤ reachBytes) : t.size ≤ 281474976710656 := by
  have := reachBytes_lt
  rw [Lib.size_eq]
  omega
theorem ins_wf {o a v : Int} (h0 : (Lit.int .u8 o).wf = true) (h1 : (Lit.int .i64 a).wf = true) (h2 : (Lit.int .u64 v).wf = true) : (InsD.mk o a v).Wf := by
  simp [Lit.wf, IntKind.min, IntKind.max, IntKind.signed, IntKind.bits] at h0 h1 h2
  exact ⟨by simp only; omega, by simp only; omega, by unfold Wf64; simp only; omega⟩

set_option maxRecDepth 100000 in
theorem ins_of_trod {H : Type} {enc : TypeId × Value → H} {w : World} {base : Nat} {spare : Nat → Bool} {held : Bool} {fuel : Nat} {cs : List Value} {x : DataW H × List MemPlace} (h : DataW.trod enc Tryz.prog w base spare held fuel 78 cs = some x) :
    ∃ o : InsD, o.Wf ∧ cs = o.cells := by
  obtain ⟨y0, y1, y2, n, _, hl, h0, h1, h2⟩ := trod_struct3 Tryz.underlying78 h
  rw [Tryz.cells_ins] at hl
  match cs, hl with
  | [c0, c1, c2], _ =>
    simp only [Tryz.cells_op, Tryz.cells_int0, Tryz.cells_val, List.drop_zero, List.drop_succ_cons, List.take_succ_cons, List.take_zero] at h0 h1 h2
    obtain ⟨k, e0, _, wk⟩ := DataW.trod_int Tryz.underlying76 h0
    obtain ⟨c, e1, _, wc⟩ := DataW.trod_int Tryz.underlying3 h1
    obtain ⟨a, e2, _, wa⟩ := DataW.trod_int Tryz.underlying50 h2
    simp at e0 e1 e2
    subst e0 e1 e2
    simp [Lit.wf, IntKind.min, IntKind.max, IntKind.signed, IntKind.bits] at wk wc wa
    exact ⟨⟨k, c, a⟩, ⟨by simp only; omega, by simp only; omega, by unfold Wf64; simp only; omega⟩, rfl⟩

theorem inss_of_trod {H : Type} {enc : TypeId × Value → H} {W : World} {ao : Option Addr} {len cap : Nat} {d : DataW H} {p : List MemPlace} (h : DataW.Trod enc Tryz.prog W 0 (fun _ => true) true 25 (.slice ao len cap) d p) :
    ∃ l : List InsD, InsRowC W (.slice ao len cap) l ∧ (∀ o ∈ l, o.Wf) ∧ l.length ≤ maxLen :=
  rows_of_trod (α := InsD) (n := 3) (cells := InsD.cells) (Wf := InsD.Wf) ⟨0, 0, 0⟩ (by decide) (fun _ => rfl) Tryz.underlying25 Tryz.cells_ins (fun h => ins_of_trod h) h

end Go.Proofs.YtcbkafbchpjnoaaGreatDoor
