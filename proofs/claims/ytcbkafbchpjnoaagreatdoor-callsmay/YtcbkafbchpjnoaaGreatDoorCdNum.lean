/-
  package code: number BY ITS CONTRACT.
-/
import Derived.Test.YtcbkafbchpjnoaaGreatDoorAllA
namespace Go.Proofs.YtcbkafbchpjnoaaGreatDoor
set_option linter.unusedVariables false
set_option linter.unusedSimpArgs false
open Go.RowKit
attribute [local go_sem] Oper.semAt_some

/-- What the first k signs say; none: they say nothing. -/
def numK (s : ByteArray) : Nat → Option Nat
  | 0 => some 0
  | k + 1 => match numK s k with
    | none => none
    | some n => if (s.get! k).toNat < 48 ∨ 57 < (s.get! k).toNat ∨ (0 < k ∧ n = 0) then none else if 63 < 10 * n + ((s.get! k).toNat - 48) then none else some (10 * n + ((s.get! k).toNat - 48))
theorem numK_le (s : ByteArray) : ∀ k n, numK s k = some n → n ≤ 63
  | 0, n, h => by simp [numK] at h; omega
  | k + 1, n, h => by
    unfold numK at h
    split at h
    · simp at h
    · split at h
      · simp at h
      · split at h
        · simp at h
        · simp at h; omega
theorem numK_none {s : ByteArray} {k : Nat} (h : numK s k = none) : ∀ m, k ≤ m → numK s m = none
  | 0, hm => by
    obtain rfl : k = 0 := by omega
    exact h
  | m + 1, hm => by
    by_cases e : k = m + 1
    · rw [← e]; exact h
    · unfold numK
      rw [numK_none h m (by omega)]
def numN (s : ByteArray) : Int := match numK s s.size with | some n => (n : Int) | none => 0
def numOk (s : ByteArray) : Bool := match numK s s.size with | some n => s.size != 0 | none => false
theorem num_bad {s : ByteArray} {k : Nat} (hk : k ≤ s.size) (h : numK s k = none) : numN s = 0 ∧ numOk s = false := by
  unfold numN numOk
  rw [numK_none h s.size hk]
  exact ⟨rfl, rfl⟩
end Go.Proofs.YtcbkafbchpjnoaaGreatDoor
