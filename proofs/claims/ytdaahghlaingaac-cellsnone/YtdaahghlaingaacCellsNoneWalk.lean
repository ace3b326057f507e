/-
  CellsNone: THE WALK: whatever the op and the number, true.
-/
import Derived.Test.YtdaahghlaingaacCellsNew
namespace Go.Proofs.Ytdaahghlaingaac
set_option linter.unusedVariables false
set_option linter.unusedSimpArgs false
open Go.RowKit

set_option maxRecDepth 100000 in
set_option maxHeartbeats 1600000 in
theorem none_any (k c a bb : Int) (n : Int) (w : World) :
    Calls Try.prog 4 #[.agg #[.int .u8 k, .int .i64 c, .int .u64 a, .int .u64 bb], .int .i64 n] w fun e w' => e = .returned (.bool true) ∧ Below w.heap.size w w' := by
  have hnil := do_nil ⟨k, c, a, bb⟩
  simp only [DoneD.zero, OpD.val, DoneD.val] at hnil
  go_enter Try.func4, Try.ntmps4
  go_wp2_with fail
  refine (hnil _).mono ?_
  rintro e w1 ⟨rfl, t1⟩
  clear hnil
  go_wp2_with fail
  refine (word_nil _ _).mono ?_
  rintro e w2 ⟨rfl, rfl⟩
  go_wp2_with fail
  refine (live_any _).mono ?_
  rintro e w2 ⟨rfl, b2⟩
  have hs1 := t1.size
  simp only [World.size_alloc] at hs1
  have bel : Below w.heap.size w w2 := ((((Below.refl w.heap.size w).alloc (Nat.le_refl _) _).trans (t1.below (B := w.heap.size) (by simp) (by simp))).alloc (by omega) _).trans (b2.mono (by simp; omega))
  have hA := (b2.block w1.heap.size (by simp)).trans (heap_alloc_new w1 _)
  obtain ⟨⟨d0, d1, d2, d3, d4, d5⟩, _⟩ := cells_done hA
  have hs2 := b2.size
  simp only [World.size_alloc] at hs2
  clear hA b2 t1
  go_wp2_with (first | (go_at_call 15; go_in) | (go_at_call 16; go_in) | (go_at_call 17; go_in) | (go_at_call 9; go_in))
  by_cases g1 : n < 1
  · refine (new_nil n _ (.inl g1)).mono ?_
    rintro e w3 ⟨rfl, rfl⟩
    go_wp2
    go_ret
    exact ⟨rfl, bel⟩
  by_cases g2 : 32 < n
  · refine (new_nil n _ (.inr g2)).mono ?_
    rintro e w3 ⟨rfl, rfl⟩
    go_wp2
    go_ret
    exact ⟨rfl, bel⟩
  · obtain ⟨m, rfl⟩ : ∃ m : Nat, n = m := ⟨n.toNat, by omega⟩
    refine (new_ok w2.heap.size _ m (by omega) (by omega) (Nat.le_refl _)).mono ?_
    rintro e w3 ⟨b, vw, rfl, _, t3, _⟩
    have q1 : decide ((m : Int) < 1) = false := by simp; omega
    have q2 : decide (32 < (m : Int)) = false := by simp; omega
    go_wp2
    go_ret
    exact ⟨rfl, bel.trans (t3.below (by omega) (by simp))⟩

end Go.Proofs.Ytdaahghlaingaac
