/-
  Word, BY ITS CONTRACT: the words of the operations as code.words lays them.
-/
import Derived.Test.YtminiabpeodjaaaDoorAllA
namespace Go.Proofs.YtminiabpeodjaaaDoor
set_option linter.unusedVariables false
set_option linter.unusedSimpArgs false
open Go.RowKit
attribute [local go_sem] Oper.semAt_some

/-- The words, as bytes. -/
def wordsB : List (List UInt8) := [[110, 111, 112], [112, 117, 115, 104], [108, 111, 99, 97, 108], [115, 101, 116], [103, 101, 116], [112, 117, 116], [103, 101, 116, 97, 116], [112, 117, 116, 97, 116], [97, 100, 100], [115, 117, 98], [109, 117, 108], [100, 105, 118], [110, 101, 103], [108, 101, 115, 115], [115, 97, 109, 101], [110, 111, 116], [100, 117, 112], [112, 111, 112], [115, 119, 97, 112], [106, 117, 109, 112], [122, 101, 114, 111], [97, 116, 111, 109, 105, 99], [101, 110, 100], [111, 114, 101, 108, 115, 101], [101, 108, 115, 101], [101, 110, 100, 111, 114], [114, 101, 116, 114, 121], [111, 117, 116], [104, 97, 108, 116]]
def wordB (k : Nat) : ByteArray := ⟨(wordsB.getD k []).toArray⟩
/-- code.words lies as it is laid. -/
structure Wds (w : World) : Prop where
  lt : 0 < w.heap.size
  at' : ∀ k, k < 29 → w.cell? ⟨0, k, none⟩ = some (.string (wordB k))
theorem Wds.touch {w w' : World} {S : List Nat} (h : Wds w) (t : Touch w w' S) (hS : 0 ∉ S) : Wds w' := ⟨Nat.lt_of_lt_of_le h.lt t.size, fun k hk => (t.cell (p := ⟨0, k, none⟩) h.lt hS).trans (h.at' k hk)⟩
/-- The word of an operation; none behind the last. -/
def wordP (o : Int) : ByteArray := if 28 < o then ⟨#[]⟩ else wordB o.toNat

set_option maxRecDepth 100000 in
theorem word_any {w : World} (h : Wds w) (o : Int) (h0 : 0 ≤ o) (h1 : o ≤ 255) : Calls Tryd.prog 19 #[.int .u8 o] w fun e w' => e = .returned (.string (wordP o)) ∧ w = w' := by
  unfold wordP
  by_cases hb : 28 < o
  · rw [if_pos hb]
    clear h
    go_enter Tryd.func19, Tryd.ntmps19
    go_wp2
    go_ret
    exact ⟨rfl, rfl⟩
  · rw [if_neg hb]
    obtain ⟨k, rfl⟩ := Int.eq_ofNat_of_zero_le h0
    have hk : k < 29 := by omega
    have hk1 : (k : Int) < 29 := by omega
    have hc := h.at' k hk
    simp only [Int.toNat_natCast]
    generalize wordB k = s at *
    clear h
    go_enter Tryd.func19, Tryd.ntmps19
    go_wp2
    go_ret
    exact ⟨rfl, rfl⟩

end Go.Proofs.YtminiabpeodjaaaDoor
