/-
  SpecNothing: what its inputs are cut to.
-/
import Derived.Test.YtlndbligbpfdpaaSnPlain
import Derived.Test.YtlndbligbpfdpaaCapsOf
namespace Go.Proofs.Ytlndbligbpfdpaa
set_option linter.unusedVariables false
set_option linter.unusedSimpArgs false
open Go.RowKit
attribute [local go_sem] Oper.semAt_some

def cutN (k n : Nat) : Nat := if k < n then k else n
theorem spfew_any (ao : Option Addr) (n cap : Nat) (hn : n ≤ cap) (hc : cap ≤ 9223372036854775807) (w : World) : Calls Try.prog 9 #[.slice ao n cap] w fun e w' => e = .returned (.slice ao (cutN 64 n) cap) ∧ w' = w := by
  by_cases h : 64 < n
  · have e : cutN 64 n = 64 := by unfold cutN; rw [if_pos h]
    rw [e]
    have h1 : (64 : Int) < n := by omega
    have h2 : (64 : Int) ≤ cap := by omega
    have h3 : 64 ≤ cap := by omega
    clear e h
    go_enter Try.func9, Try.ntmps9
    go_wp2
    go_ret
    exact ⟨rfl, rfl⟩
  · have e : cutN 64 n = n := by unfold cutN; rw [if_neg h]
    rw [e]
    have h1 : ¬ (64 : Int) < n := by omega
    clear e h
    go_enter Try.func9, Try.ntmps9
    go_wp2
    go_ret
    exact ⟨rfl, rfl⟩
theorem spheap_any (ao : Option Addr) (n cap : Nat) (hn : n ≤ cap) (hc : cap ≤ 9223372036854775807) (w : World) : Calls Try.prog 14 #[.slice ao n cap] w fun e w' => e = .returned (.slice ao (cutN 20 n) cap) ∧ w' = w := by
  by_cases h : 20 < n
  · have e : cutN 20 n = 20 := by unfold cutN; rw [if_pos h]
    rw [e]
    have h1 : (20 : Int) < n := by omega
    have h2 : (20 : Int) ≤ cap := by omega
    have h3 : 20 ≤ cap := by omega
    clear e h
    go_enter Try.func14, Try.ntmps14
    go_wp2
    go_ret
    exact ⟨rfl, rfl⟩
  · have e : cutN 20 n = n := by unfold cutN; rw [if_neg h]
    rw [e]
    have h1 : ¬ (20 : Int) < n := by omega
    clear e h
    go_enter Try.func14, Try.ntmps14
    go_wp2
    go_ret
    exact ⟨rfl, rfl⟩
theorem row_cut {α : Type} {m : Nat} {cs : α → List Value} {w : World} {ao : Option Addr} {cap : Nat} {l : List α} (h : SRow m cs w (.slice ao l.length cap) l) (k : Nat) : SRow m cs w (.slice ao (cutN k l.length) cap) (l.take k) := by
  unfold cutN
  split
  · have := SRow.first h k (by omega)
    rw [List.length_take, Nat.min_eq_left (by omega)] at this
    exact this
  · rw [List.take_of_length_le (by omega)]; exact h

end Go.Proofs.Ytlndbligbpfdpaa
