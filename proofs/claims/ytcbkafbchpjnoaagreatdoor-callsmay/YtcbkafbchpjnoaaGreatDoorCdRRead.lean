/-
  THE DOCUMENT'S ReadWord BY ITS CONTRACT.
-/
import Derived.Test.YtcbkafbchpjnoaaGreatDoorCdRWord
namespace Go.Proofs.YtcbkafbchpjnoaaGreatDoor
set_option linter.unusedVariables false
set_option linter.unusedSimpArgs false
open Go.RowKit
attribute [local go_sem] Oper.semAt_some

theorem wordB_inj : ∀ i < 29, ∀ j < 29, (wordB i).data.toList = (wordB j).data.toList → i = j := by decide +kernel
theorem byK_hit {k : Nat} (hk : k < 29) : ∀ n, k < n → n ≤ 29 → byK n (wordB k).data.toList = some (.int .u8 (k : Int))
  | 0, h, _ => by omega
  | n + 1, h, hn => by
    rw [byK_succ]
    unfold updS
    by_cases e : k = n
    · subst e; simp
    · rw [if_neg (fun q => e (wordB_inj k hk n (by omega) q)), byK_hit hk n (by omega) (by omega)]
theorem byK_miss {x : List UInt8} : ∀ n, (∀ j < n, x ≠ (wordB j).data.toList) → byK n x = none
  | 0, _ => rfl
  | n + 1, h => by
    rw [byK_succ]
    unfold updS
    rw [if_neg (h n (by omega)), byK_miss n (fun j hj => h j (by omega))]
theorem ba_ext {a b : ByteArray} (h : a.data.toList = b.data.toList) : a = b := by
  obtain ⟨x⟩ := a
  obtain ⟨y⟩ := b
  have : x = y := by simpa using h
  rw [this]

end Go.Proofs.YtcbkafbchpjnoaaGreatDoor
