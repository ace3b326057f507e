/-
  THE DOCUMENT'S Word BY ITS CONTRACT.
-/
import Derived.Test.YtcbkafbchpjnoaaGreatDoorAllA
namespace Go.Proofs.YtcbkafbchpjnoaaGreatDoor
set_option linter.unusedVariables false
set_option linter.unusedSimpArgs false
open Go.RowKit
attribute [local go_sem] Oper.semAt_some

/-- The words as the document's text has them. -/
def rwordsA : Array Value := #[.string ⟨#[110, 111, 112]⟩, .string ⟨#[112, 117, 115, 104]⟩, .string ⟨#[108, 111, 99, 97, 108]⟩, .string ⟨#[115, 101, 116]⟩, .string ⟨#[103, 101, 116]⟩, .string ⟨#[112, 117, 116]⟩, .string ⟨#[103, 101, 116, 97, 116]⟩, .string ⟨#[112, 117, 116, 97, 116]⟩, .string ⟨#[97, 100, 100]⟩, .string ⟨#[115, 117, 98]⟩, .string ⟨#[109, 117, 108]⟩, .string ⟨#[100, 105, 118]⟩, .string ⟨#[110, 101, 103]⟩, .string ⟨#[108, 101, 115, 115]⟩, .string ⟨#[115, 97, 109, 101]⟩, .string ⟨#[110, 111, 116]⟩, .string ⟨#[100, 117, 112]⟩, .string ⟨#[112, 111, 112]⟩, .string ⟨#[115, 119, 97, 112]⟩, .string ⟨#[106, 117, 109, 112]⟩, .string ⟨#[122, 101, 114, 111]⟩, .string ⟨#[97, 116, 111, 109, 105, 99]⟩, .string ⟨#[101, 110, 100]⟩, .string ⟨#[111, 114, 101, 108, 115, 101]⟩, .string ⟨#[101, 108, 115, 101]⟩, .string ⟨#[101, 110, 100, 111, 114]⟩, .string ⟨#[114, 101, 116, 114, 121]⟩, .string ⟨#[111, 117, 116]⟩, .string ⟨#[104, 97, 108, 116]⟩]
theorem rwords_at (k : Nat) (hk : k < 29) : rwordsA[k]? = some (.string (wordB k)) := by
  rcases (show k = 0 ∨ k = 1 ∨ k = 2 ∨ k = 3 ∨ k = 4 ∨ k = 5 ∨ k = 6 ∨ k = 7 ∨ k = 8 ∨ k = 9 ∨ k = 10 ∨ k = 11 ∨ k = 12 ∨ k = 13 ∨ k = 14 ∨ k = 15 ∨ k = 16 ∨ k = 17 ∨ k = 18 ∨ k = 19 ∨ k = 20 ∨ k = 21 ∨ k = 22 ∨ k = 23 ∨ k = 24 ∨ k = 25 ∨ k = 26 ∨ k = 27 ∨ k = 28 by omega) with rfl | rfl | rfl | rfl | rfl | rfl | rfl | rfl | rfl | rfl | rfl | rfl | rfl | rfl | rfl | rfl | rfl | rfl | rfl | rfl | rfl | rfl | rfl | rfl | rfl | rfl | rfl | rfl | rfl
  all_goals rfl
end Go.Proofs.YtcbkafbchpjnoaaGreatDoor
