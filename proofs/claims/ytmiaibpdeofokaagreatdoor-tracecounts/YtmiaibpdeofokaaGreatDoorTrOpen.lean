/-
  The statements on trace: from the row's condition (the tables and trace.words read as they are laid) to what the walks ask; what the arguments are cut to.
-/
import Derived.Test.YtmiaibpdeofokaaGreatDoorTrLive
import Derived.Test.YtmiaibpdeofokaaGreatDoorHistOpen
import Derived.Test.YtmiaibpdeofokaaGreatDoorTie
import Derived.Test.YtmiaibpdeofokaaGreatDoorCards
import Derived.ProofKit
import Derived.LaidMore
import Derived.OpenShut
import Derived.Stop.Joined
import Derived.Lib.LaidTab
import Derived.Lib.SmallJoins
import Derived.SizedLaws
import Derived.ChangeMaps5
import Derived.Lib.Strings
namespace Go.Proofs.YtmiaibpdeofokaaGreatDoor
set_option linter.unusedVariables false
set_option linter.unusedSimpArgs false
open Go.ChangeShapes Go.WideShapes Go.ChangeAt Go.RowKit Go.Joins Go.Deep
attribute [local go_sem] Oper.semAt_some

theorem Tryz.gTab : Tryz.prog.globalNamed "math/bits.deBruijn64tab" = some 9 := by kernel_rfl
theorem Tryz.tTab : (Tryz.prog.globals[9]?).map (·.type) = some 215 := by kernel_rfl
theorem Tryz.cellsU8 : Tryz.prog.cellsOf 5 = 1 := by kernel_rfl
theorem Tryz.cellsTab : Tryz.prog.cellsOf 215 = 64 := by kernel_rfl
theorem Tryz.gWords : Tryz.prog.globalNamed "rowlock/trace.words" = some 0 := by kernel_rfl
theorem Tryz.tWords : (Tryz.prog.globals[0]?).map (·.type) = some 88 := by kernel_rfl
theorem Tryz.cells_string : Tryz.prog.cellsOf 9 = 1 := by kernel_rfl
theorem ba_extT {a b : ByteArray} (h : a.data.toList = b.data.toList) : a = b := by
  obtain ⟨⟨l⟩⟩ := a
  obtain ⟨⟨m⟩⟩ := b
  simp at h
  rw [h]

/-- What the rows list. -/
def laid4 : List (String × DataW Unit) := [("math/bits.deBruijn32tab", Rows.laid_math_bits_deBruijn32tab), ("math/bits.deBruijn64tab", Rows.laid_math_bits_deBruijn64tab), ("internal/strconv.uint64pow10", Rows.laid_internal_strconv_uint64pow10), ("rowlock/trace.words", Rows.laid_rowlock_trace_words)]
theorem lt_of_cell {w : World} {p : Addr} {v : Value} (h : w.cell? p = some v) : p.block < w.heap.size := by
  apply Classical.byContradiction
  intro hn
  have : w.heap[p.block]? = none := by simpa using hn
  simp [World.cell?, this] at h
theorem laidMet_tail {P : Program} {x : String × DataW Unit} {rest : List (String × DataW Unit)} {w : World} (h : laidMet P (x :: rest) w) : laidMet P rest w := by
  obtain ⟨ps, ⟨g, t, cs, fuel, p, q, _, _, _, _, hrest, rfl⟩, hnd, hc⟩ := h
  exact ⟨q, hrest, (List.nodup_append.1 hnd).2.1, fun b off hm => hc b off (List.mem_append_right _ hm)⟩
theorem tz_of_laid {W : World} (h : laidMetH Tryz.prog laid4 W) : Tz W := by
  rw [MakeChecks.laidMetH_plain _ _ _ (by kernel_rfl)] at h
  have hT := Lib.tabIs_of_head (k := .u8) (zs := [0, 1, 56, 2, 57, 49, 28, 3, 61, 58, 42, 50, 38, 29, 17, 4, 62, 47, 59, 36, 45, 43, 51, 22, 53, 39, 33, 30, 24, 18, 12, 5, 63, 55, 48, 27, 60, 41, 37, 16, 46, 35, 44, 21, 52, 32, 23, 11, 54, 26, 40, 15, 34, 20, 31, 10, 25, 14, 19, 9, 13, 8, 7, 6]) Tryz.gTab Tryz.tTab Tryz.underlying215 Tryz.underlying5 Tryz.cellsU8 Tryz.cellsTab (laidMet_tail h)
  have h0 := hT.cell Tryz.gTab 15 (by decide)
  exact ⟨lt_of_cell h0, h0⟩

def wordsDT : List (DataW Unit) := wordsT.map fun s => .lit (.string s)
theorem words_laidT : Rows.laid_rowlock_trace_words = (.agg wordsDT : DataW Unit) := rfl
theorem wordsT_len : wordsT.length = 10 := by decide
theorem wordsDT_at (k : Nat) (hk : k < 10) : wordsDT[k]? = some (.lit (.string (wordsT.getD k []))) := by
  have h : k < wordsT.length := by rw [wordsT_len]; exact hk
  unfold wordsDT
  rw [List.getElem?_map, List.getElem?_eq_getElem h, List.getD, List.getElem?_eq_getElem h]
  rfl
theorem wdt_of_laid {W : World} (h : laidMetH Tryz.prog laid4 W) : Wdt W := by
  rw [MakeChecks.laidMetH_plain _ _ _ (by kernel_rfl)] at h
  obtain ⟨ps, ⟨g', t', cs, fuel, p, q, hg', ht', hvar, hd, _, _⟩, _⟩ := laidMet_tail (laidMet_tail (laidMet_tail h))
  obtain rfl := Option.some.inj (Tryz.gWords.symm.trans hg')
  obtain rfl := Option.some.inj (Tryz.tWords.symm.trans ht')
  obtain ⟨xs, m, _, hx, hl, hxl, hel⟩ := DataW.trod_array Tryz.underlying88 hd
  have key : ∀ k, k < 10 → W.cell? ⟨0, k, none⟩ = some (.string (wordT k)) := fun k hk => by
    have h28 := hel k hk
    rw [Tryz.cells_string] at h28
    have hd28 : (xs.map (·.1))[k]? = some (.lit (.string (wordsT.getD k []))) := by
      have := congrArg Prod.fst hx
      rw [words_laidT] at this
      simp only [DataW.agg.injEq] at this
      rw [← this]
      exact wordsDT_at k hk
    rw [List.getElem?_map, Option.map_eq_some_iff] at hd28
    obtain ⟨y, hy, ey⟩ := hd28
    rw [hy] at h28
    obtain ⟨s, hc, e, _⟩ := DataW.trod_string Tryz.underlying9 h28
    have hs : s = wordT k := by
      rw [e] at ey
      simp only [DataW.lit.injEq, Lit.string.injEq] at ey
      apply ba_extT
      unfold wordT
      simpa using ey
    have h1 : cs[k]? = some (.string s) := by
      have := congrArg (·[0]?) hc
      simpa [List.getElem?_take, List.getElem?_drop] using this
    rw [World.var?_cell Tryz.gWords hvar k, h1, hs]
  exact ⟨World.block_lt_of_cell? W _ (key 0 (by omega)), key⟩
/-- The door's own heap meets the condition. -/
theorem door_met (os : Os) (args : Array Value) : laidMetH Tryz.prog laid4 ((World.doorLaid Tryz.prog 4000 os).forCall (fun _ _ => 0) ⟨#[], args, []⟩).memory :=
  laidMetH_of_parts3 (fuel := 8) (laidMet_of_run' 8 (by kernel_rfl) (by kernel_rfl)) (by kernel_rfl) (by kernel_rfl)

end Go.Proofs.YtmiaibpdeofokaaGreatDoor
