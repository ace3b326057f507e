/-
  package code: cut BY ITS CONTRACT.
-/
import Derived.Test.YtcbkafbchpjnoaaGreatDoorAllA
namespace Go.Proofs.YtcbkafbchpjnoaaGreatDoor
set_option linter.unusedVariables false
set_option linter.unusedSimpArgs false
open Go.RowKit
attribute [local go_sem] Oper.semAt_some

/-- Where the first blank stands. -/
def blankAt (s : ByteArray) : Option Nat := (List.range s.size).find? fun i => (s.get! i).toNat == 32
theorem blank_some {s : ByteArray} {p : Nat} (hp : p < s.size) (h : (s.get! p).toNat = 32) (hl : ∀ j < p, (s.get! j).toNat ≠ 32) : blankAt s = some p := by
  unfold blankAt
  rw [List.find?_eq_some_iff_getElem]
  exact ⟨by simp [h], p, by simpa using hp, by simp, fun j hj => by simpa using hl j hj⟩
theorem blank_none {s : ByteArray} (hl : ∀ j < s.size, (s.get! j).toNat ≠ 32) : blankAt s = none := by
  unfold blankAt
  rw [List.find?_eq_none]
  intro j hj
  simpa using hl j (by simpa using hj)
def cutW (s : ByteArray) : ByteArray := match blankAt s with | some p => s.extract 0 p | none => s
def cutR (s : ByteArray) : ByteArray := match blankAt s with | some p => s.extract (p + 1) s.size | none => ⟨#[]⟩

end Go.Proofs.YtcbkafbchpjnoaaGreatDoor
