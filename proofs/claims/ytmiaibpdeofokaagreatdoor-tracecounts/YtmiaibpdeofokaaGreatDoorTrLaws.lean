/-
  The statements on trace: what the arguments are cut to; TraceMerges.
-/
import Derived.Test.YtmiaibpdeofokaaGreatDoorTrLive
import Derived.Test.YtmiaibpdeofokaaGreatDoorTrMerge
import Derived.Test.YtmiaibpdeofokaaGreatDoorAllB
import Derived.Test.YtmiaibpdeofokaaGreatDoorCapsOf
namespace Go.Proofs.YtmiaibpdeofokaaGreatDoor
set_option linter.unusedVariables false
set_option linter.unusedSimpArgs false
open Go.RowKit Go.Maps
attribute [local go_sem] Oper.semAt_some

def cut60 (n : Nat) : Nat := if 60 < n then 60 else n
theorem cut60_len {α : Type} (l : List α) : (l.take 60).length = cut60 l.length := by
  unfold cut60
  rw [List.length_take]
  split <;> omega
theorem trfew_any (ao : Option Addr) (n cap : Nat) (hn : n ≤ cap) (hc : cap ≤ 9223372036854775807) (w : World) : Calls Tryz.prog 7 #[.slice ao n cap] w fun e w' => e = .returned (.slice ao (cut60 n) cap) ∧ w' = w := by
  by_cases h : 60 < n
  · have e : cut60 n = 60 := by unfold cut60; rw [if_pos h]
    rw [e]
    have h1 : (60 : Int) < n := by omega
    have h2 : (60 : Int) ≤ cap := by omega
    have h3 : 60 ≤ cap := by omega
    clear e h
    go_enter Tryz.func7, Tryz.ntmps7
    go_wp2
    go_ret
    exact ⟨rfl, rfl⟩
  · have e : cut60 n = n := by unfold cut60; rw [if_neg h]
    rw [e]
    have h1 : ¬ (60 : Int) < n := by omega
    clear e h
    go_enter Tryz.func7, Tryz.ntmps7
    go_wp2
    go_ret
    exact ⟨rfl, rfl⟩
theorem row60 {w : World} {ao : Option Addr} {cap : Nat} {l : List EvD} (h : EvRow w (.slice ao l.length cap) l) : EvRow w (.slice ao (l.take 60).length cap) (l.take 60) := by
  by_cases hl : 60 ≤ l.length
  · exact SRow.first h 60 hl
  · rw [List.take_of_length_le (by omega)]; exact h
theorem merge_len (a b : List EvD) (ha : a.length ≤ 60) (hb : b.length ≤ 60) : (mergeT a b).2.length ≤ 1000 := by
  unfold mergeT
  split
  · split
    · simp
    · simp; omega
  · simp


end Go.Proofs.YtmiaibpdeofokaaGreatDoor
