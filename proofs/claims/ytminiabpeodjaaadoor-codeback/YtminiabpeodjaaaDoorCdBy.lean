/-
  package code: byWord AS PLAIN DATA; its map made, its array indexed. No walk.
-/
import Derived.Test.YtminiabpeodjaaaDoorCdWord
import Derived.Test.YtminiabpeodjaaaDoorStrMap
namespace Go.Proofs.YtminiabpeodjaaaDoor
set_option linter.unusedVariables false
set_option linter.unusedSimpArgs false
open Go.RowKit Go.Maps
attribute [local go_sem] Oper.semAt_some

/-- The operation of a word, of the first k. -/
def byK (k : Nat) (s : List UInt8) : Option Value := (List.range k).reverse.findSome? fun i => if s = (wordB i).data.toList then some (.int .u8 (i : Int)) else none
theorem byK_succ (k : Nat) : byK (k + 1) = updS (byK k) (wordB k).data.toList (.int .u8 (k : Int)) := by
  funext s
  unfold byK updS
  rw [List.range_succ, List.reverse_append, List.reverse_singleton, List.singleton_append, List.findSome?_cons]
  by_cases h : s = (wordB k).data.toList <;> simp [h]
def wordsV : Value := .agg ((List.range 29).map fun k => Value.string (wordB k)).toArray
theorem wordB_size (k : Nat) (hk : k < 29) : (wordB k).size ≤ maxLen := by
  have h : ∀ k < 29, (wordB k).size ≤ 6 := by decide +kernel
  have := h k hk
  unfold maxLen
  omega

theorem make_words (W : World) : (Instr.makeMap 54 (some (.int .i64 29))).run Tryd.prog W = .ok (.map (some W.heap.size)) (W.alloc (.map #[] 0)) := by
  simp [Instr.makeMap, asIntOf]
  rfl
def wordsA : Array Value := #[.string (wordB 0), .string (wordB 1), .string (wordB 2), .string (wordB 3), .string (wordB 4), .string (wordB 5), .string (wordB 6), .string (wordB 7), .string (wordB 8), .string (wordB 9), .string (wordB 10), .string (wordB 11), .string (wordB 12), .string (wordB 13), .string (wordB 14), .string (wordB 15), .string (wordB 16), .string (wordB 17), .string (wordB 18), .string (wordB 19), .string (wordB 20), .string (wordB 21), .string (wordB 22), .string (wordB 23), .string (wordB 24), .string (wordB 25), .string (wordB 26), .string (wordB 27), .string (wordB 28)]
theorem Tryd.info_str : (Tryd.prog.info? 9).map (fun i => (i.zero.isSome, i.size)) = some (true, 1) := by kernel_rfl
theorem str_index (cs : Array Value) (s : ByteArray) (k : Nat) (hk : k < 29) (hc : cs[k]? = some (.string s)) (W : World) : (Instr.index 58 (.agg cs) (.int .i64 (k : Int))).run Tryd.prog W = .ok (.string s) W := by
  obtain ⟨i0, hi, hs⟩ : ∃ i, Tryd.prog.info? 9 = some i ∧ i.size = 1 := by
    have h := Tryd.info_str
    cases e : Tryd.prog.info? 9 with
    | none => rw [e] at h; simp at h
    | some i => rw [e] at h; simp at h; exact ⟨i, rfl, h.2⟩
  have h1 : (k : Int) < 29 := by omega
  have h0 : (0 : Int) ≤ k := by omega
  obtain ⟨hk', e⟩ := Array.getElem?_eq_some_iff.1 hc
  simp [Instr.index, asIntOf, run_underlying Tryd.underlying58, sizeOf, typeInfo, hi, hs, h1, part, hc]
  intro h
  omega
theorem words_index (k : Nat) (hk : k < 29) (W : World) : (Instr.index 58 (.agg wordsA) (.int .i64 (k : Int))).run Tryd.prog W = .ok (.string (wordB k)) W := by
  refine str_index wordsA (wordB k) k hk ?_ W
  have h : ∀ j < 29, wordsA[j]? = some (.string (wordB j)) := by
    intro j hj
    have e : wordsA = ((List.range 29).map fun i => Value.string (wordB i)).toArray := rfl
    rw [e]
    simp [hj]
  exact h k hk

end Go.Proofs.YtminiabpeodjaaaDoor
