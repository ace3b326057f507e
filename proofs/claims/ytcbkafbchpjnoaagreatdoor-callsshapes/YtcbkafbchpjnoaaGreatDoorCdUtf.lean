/-
  RUNES OF A TEXT: what is skipped is no sign of one byte. No walk.
-/
import Derived.Test.YtcbkafbchpjnoaaGreatDoorAllA
import Derived.Laws.RangeAny
import Derived.Lib.OthersKept
namespace Go.Proofs.YtcbkafbchpjnoaaGreatDoor
set_option linter.unusedVariables false
set_option linter.unusedSimpArgs false
open Go.RowKit

/-- The bytes of a rune behind its first one are above 127, and lie in the text. -/
theorem decode_skip (s : ByteArray) (pos : Nat) (h : pos < s.size) : ∀ k, 0 < k → k < (Utf8.decode s pos).2 → pos + k < s.size ∧ 128 ≤ (s.get! (pos + k)).toNat := by
  intro k hk hlt
  by_cases ha : (s[pos]'h).toNat < 128
  · rw [decode_ascii s pos h ha] at hlt
    simp at hlt
    omega
  · simp only [Utf8.decode, get_at s pos h, ha, if_false] at hlt
    split at hlt
    · rename_i h1
      simp only [Bool.and_eq_true, beq_iff_eq, decide_eq_true_eq] at h1
      split at hlt
      · simp only at hlt
        obtain rfl : k = 1 := by omega
        exact ⟨h1.2.1, by omega⟩
      · simp only at hlt; omega
    · split at hlt
      · rename_i _ h1
        simp only [Bool.and_eq_true, beq_iff_eq, decide_eq_true_eq] at h1
        split at hlt
        · simp only at hlt
          rcases (show k = 1 ∨ k = 2 by omega) with rfl | rfl
          · exact ⟨h1.1.2.1, by omega⟩
          · exact ⟨h1.2.1, by omega⟩
        · simp only at hlt; omega
      · split at hlt
        · rename_i _ _ h1
          simp only [Bool.and_eq_true, beq_iff_eq, decide_eq_true_eq] at h1
          split at hlt
          · simp only at hlt
            rcases (show k = 1 ∨ k = 2 ∨ k = 3 by omega) with rfl | rfl | rfl
            · exact ⟨h1.1.1.2.1, by omega⟩
            · exact ⟨h1.1.2.1, by omega⟩
            · exact ⟨h1.2.1, by omega⟩
          · simp only at hlt; omega
        · simp only at hlt; omega
/-- How far a rune goes. -/
theorem decode_pos (s : ByteArray) (pos : Nat) (h : pos < s.size) : 1 ≤ (Utf8.decode s pos).2 ∧ pos + (Utf8.decode s pos).2 ≤ s.size := by
  have h1 : 1 ≤ (Utf8.decode s pos).2 := by
    by_cases ha : (s[pos]'h).toNat < 128
    · rw [decode_ascii s pos h ha]; exact Nat.le_refl _
    · exact (decode_high s pos h (by omega)).2
  refine ⟨h1, ?_⟩
  by_cases hd : (Utf8.decode s pos).2 = 1
  · rw [hd]; omega
  · have := (decode_skip s pos h ((Utf8.decode s pos).2 - 1) (by omega) (by omega)).1
    omega
/-- A sign of one byte stands just where its byte does. -/
theorem decode_sign (s : ByteArray) (pos : Nat) (h : pos < s.size) (c : Nat) (hc : c < 128) : (Utf8.decode s pos).1 = c ↔ (s[pos]'h).toNat = c := by
  by_cases ha : (s[pos]'h).toNat < 128
  · rw [decode_ascii s pos h ha]
  · have := (decode_high s pos h (by omega)).1
    constructor <;> intro q <;> omega

end Go.Proofs.YtcbkafbchpjnoaaGreatDoor
