/-
  strconv.ParseUint at base 16, of a text of at most 16 small hex digits.
-/
import Derived.Test.YtmiaibpdeofokaaDoorAllA
import Derived.Lib.Strings
import Derived.Lib.Walk
import Derived.Lib.ConvBytes
import Derived.Lib.AtoiAllMem
import Derived.Lib.AtoiErrMem
import Derived.Lib.Hide
import Derived.Laws.Strings3
import Derived.Laws.Closers25
import Derived.Laws.Closers25b
import Derived.Laws.BitsAllLaws
import Derived.BigCall
import Derived.BigGuard
namespace Go.Proofs.YtmiaibpdeofokaaDoor
set_option linter.unusedVariables false
set_option linter.unusedSimpArgs false
open Go.RowKit

abbrev hexOk (c : UInt8) : Prop := (48 ≤ c.toNat ∧ c.toNat ≤ 57) ∨ (97 ≤ c.toNat ∧ c.toNat ≤ 102)
def hexV (c : UInt8) : Nat := if c.toNat ≤ 57 then c.toNat - 48 else c.toNat - 87
def hexN (l : List UInt8) : Nat := l.foldl (fun a c => a * 16 + hexV c) 0

theorem hexV_lt {c : UInt8} (h : hexOk c) : hexV c < 16 := by
  unfold hexOk at h
  unfold hexV
  split <;> omega
theorem hexN_take (l : List UInt8) (k : Nat) (hk : k < l.length) : hexN (l.take (k + 1)) = hexN (l.take k) * 16 + hexV l[k] := by
  unfold hexN
  rw [List.take_succ_eq_append_getElem hk, List.foldl_append]
  rfl
theorem hexN_lt (l : List UInt8) (h : ∀ c ∈ l, hexOk c) (k : Nat) : hexN (l.take k) < 16 ^ k := by
  induction k with
  | zero => simp [hexN]
  | succ k ih =>
    by_cases hk : k < l.length
    · rw [hexN_take l k hk]
      have := hexV_lt (h l[k] (List.getElem_mem hk))
      have : (16 : Nat) ^ (k + 1) = 16 ^ k * 16 := Nat.pow_succ ..
      omega
    · rw [List.take_of_length_le (by omega)] at ih ⊢
      have : (16 : Nat) ^ (k + 1) = 16 ^ k * 16 := Nat.pow_succ ..
      omega

theorem lower_letter : ∀ c : Fin 256, 97 ≤ c.val → c.val ≤ 102 → bits .or .u8 (c.val : Int) 32 = c.val := by decide +kernel

end Go.Proofs.YtmiaibpdeofokaaDoor
