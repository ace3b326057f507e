/-
  package verify: waysOf BY ITS CONTRACT.
-/
import Derived.Test.YtonjbldnhbbdjaaVfThru
namespace Go.Proofs.Ytonjbldnhbbdjaa
set_option linter.unusedVariables false
set_option linter.unusedSimpArgs false
open Go.RowKit
attribute [local go_sem] Oper.semAt_some

def unZ (N k : Nat) : List Int := List.replicate k (-1) ++ List.replicate (N - k) 0
theorem unZ_len {N k : Nat} (h : k ≤ N) : (unZ N k).length = N := by simp [unZ]; omega
theorem unZ_set {N k : Nat} (h : k < N) : (unZ N k).set k (-1) = unZ N (k + 1) := by
  unfold unZ
  rw [List.set_append_right _ _ (by simp), List.length_replicate, Nat.sub_self, show N - k = (N - (k + 1)) + 1 by omega, List.replicate_succ, List.set_cons_zero, List.replicate_succ', List.append_assoc]
  rfl
theorem unZ_begin (N : Nat) (h : 0 < N) : (unZ N N).set 0 0 = beginD N := by
  unfold unZ beginD
  cases N with
  | zero => omega
  | succ n => simp [List.replicate_succ]

set_option maxRecDepth 100000 in
set_option maxHeartbeats 1000000 in
theorem ways_any {w : World} {ao : Option Addr} {N cap : Nat} (hn : N ≤ 900) :
    Calls Try.prog 29 #[.slice ao N cap] w fun e w' => e = .returned (.pointer (some ⟨w.heap.size + 1, 0, none⟩)) ∧ WAt w' (w.heap.size + 1) (.slice ao N cap) w.heap.size N (beginD N) ∧ Touch w w' [] := by
  have hmk := make_intV N (by omega)
  have W0 : Hid (WAt ((w.alloc (.cells (Array.replicate N (.int .i64 0)) 3)).alloc (.cells #[.slice ao N cap, .slice (some ⟨w.heap.size, 0, none⟩) N N] 65)) (w.heap.size + 1) (.slice ao N cap) w.heap.size N (unZ N 0)) := by
    refine ⟨?_, ?_, unZ_len (Nat.zero_le _)⟩
    · have := heap_alloc_new (w.alloc (.cells (Array.replicate N (.int .i64 0)) 3)) (.cells #[.slice ao N cap, .slice (some ⟨w.heap.size, 0, none⟩) N N] 65)
      simpa using this
    · rw [Below.heap_alloc _ _ _ (by simp), heap_alloc_new]
      simp [unZ]
  have T0 : Hid (Touch w ((w.alloc (.cells (Array.replicate N (.int .i64 0)) 3)).alloc (.cells #[.slice ao N cap, .slice (some ⟨w.heap.size, 0, none⟩) N N] 65)) []) := ((Touch.refl w []).alloc _).alloc _
  have c1 : ((w.alloc (.cells (Array.replicate N (.int .i64 0)) 3)).alloc (.cells #[.slice ao N cap, .slice (some ⟨w.heap.size, 0, none⟩) N N] 65)).cell? ⟨w.heap.size + 1, 1, none⟩ = some (.slice (some ⟨w.heap.size, 0, none⟩) N N) := by
    unfold World.cell?; rw [W0.out.st]; rfl
  go_enter Try.func29, Try.ntmps29
  go_wp2_with fail
  go_loopw [16] (fun i wr => ∃ k : Nat, i = .int .i64 k ∧ k ≤ N ∧ WAt wr (w.heap.size + 1) (.slice ao N cap) w.heap.size N (unZ N k) ∧ Touch w wr []) (fun i _ => N - (intOf i).toNat)
  case atStart => exact ⟨0, rfl, Nat.zero_le _, W0.out, T0.out⟩
  case round =>
    obtain ⟨k, rfl, hk, hW, hT⟩ := hrel
    clear W0 T0 c1 hmk
    have d1 : wr.cell? ⟨w.heap.size + 1, 1, none⟩ = some (.slice (some ⟨w.heap.size, 0, none⟩) N N) := by unfold World.cell?; rw [hW.st]; rfl
    have HW : Hid _ := hW
    have HT : Hid _ := hT
    by_cases hlt : k < N
    · have dk := hW.at k hlt
      have fk := hW.fz k
      have hkN : (k : Int) < N := by omega
      have hk0 : (0 : Int) ≤ k := by omega
      have hkw : IntKind.i64.wrap ((k : Int) + 1) = (k : Int) + 1 := by rw [IntKind.wrap_i64]; omega
      clear hW hT
      go_wp2
      go_roundw
      case rel =>
        refine ⟨k + 1, rfl, by omega, ?_, HT.out.setCell (.inr (Nat.le_refl _)) _⟩
        rw [← unZ_set hlt]
        exact HW.out.put k (-1)
      case measure => simp [intOf]; omega
    · obtain rfl : k = N := by omega
      by_cases h0 : 0 < k
      · have dk := hW.at 0 h0
        have fk := hW.fz 0
        have hk0 : (0 : Int) < k := by omega
        clear hW hT
        go_wp2
        go_ret
        refine ⟨rfl, ?_, HT.out.setCell (.inr (Nat.le_refl _)) _⟩
        rw [← unZ_begin k h0]
        exact HW.out.put 0 0
      · obtain rfl : k = 0 := by omega
        clear hW hT
        go_wp2
        go_ret
        exact ⟨rfl, HW.out, HT.out⟩

end Go.Proofs.Ytonjbldnhbbdjaa
