/-
  THE SMALL CALLS OF package cells, EACH BY ITS CONTRACT: Word, outcome, New, Steps.
-/
import Derived.Test.YtdaahghlaingaacCellsBase
namespace Go.Proofs.Ytdaahghlaingaac
set_option linter.unusedVariables false
set_option linter.unusedSimpArgs false
open Go.RowKit

theorem Try.info_u64 : (Try.prog.info? 31).map (fun i => (i.zero, i.size, i.bytes)) = some (some (.int .u64 0), 1, 8) := by kernel_rfl
theorem Try.info_done : (Try.prog.info? 35).map (fun i => (i.zero, i.size, i.bytes)) = some (some (.agg #[.int .u8 0, .int .i64 0, .int .u64 0, .int .u64 0, .int .u64 0, .bool false]), 6, 48) := by kernel_rfl

theorem add64_0 (x y : Int) (hx : 0 ≤ x) (hy : 0 ≤ y) (w : World) : (callFunc 41 #[.int .u64 x, .int .u64 y, .int .u64 0]).run Try.prog w =
    .ok (.value (.tuple #[.int .u64 ((x + y) % 18446744073709551616), .int .u64 ((x + y) / 18446744073709551616)])) w := by
  rw [run_callFunc_extern Try.func41 (by kernel_rfl) (by kernel_rfl) (by kernel_rfl) (e := add64Entry) (by kernel_rfl), run_add64 x y 0 hx hy (by omega) (by omega)]
  simp

/-- Word where there is the cell. -/
theorem word_in (b g n cap j : Nat) (x : Int) (w : World) (hb : w.cell? ⟨b, 0, none⟩ = some (.slice (some ⟨g, 0, none⟩) n cap)) (hj : j < n) (hn : n ≤ maxLen) (hx : w.cell? ⟨g, j, none⟩ = some (.int .u64 x)) :
    Calls Try.prog 14 #[.pointer (some ⟨b, 0, none⟩), .int .i64 j] w fun e w' => e = .returned (.tuple #[.int .u64 x, .int .i64 0]) ∧ w = w' := by
  unfold maxLen at hn
  have h1 : ¬ (j : Int) < 0 := by omega
  have h2 : (j : Int) < n := by omega
  go_enter Try.func14, Try.ntmps14
  go_wp2
  go_ret2
  exact ⟨rfl, rfl⟩

/-- Word where there is none. -/
theorem word_out (b n cap : Nat) (ao : Option Addr) (i : Int) (w : World) (hb : w.cell? ⟨b, 0, none⟩ = some (.slice ao n cap)) (hi : i < 0 ∨ (n : Int) ≤ i) (hn : n ≤ maxLen) :
    Calls Try.prog 14 #[.pointer (some ⟨b, 0, none⟩), .int .i64 i] w fun e w' => e = .returned (.tuple #[.int .u64 0, .int .i64 2]) ∧ w = w' := by
  unfold maxLen at hn
  rcases Int.lt_or_le i 0 with h | h
  · go_enter Try.func14, Try.ntmps14
    go_wp2
    go_ret2
    exact ⟨rfl, rfl⟩
  · have h1 : ¬ i < 0 := by omega
    have h2 : (n : Int) ≤ i := by omega
    clear hi
    go_enter Try.func14, Try.ntmps14
    go_wp2
    go_ret2
    exact ⟨rfl, rfl⟩

theorem word_nil (i : Int) (w : World) :
    Calls Try.prog 14 #[.pointer none, .int .i64 i] w fun e w' => e = .returned (.tuple #[.int .u64 0, .int .i64 1]) ∧ w = w' := by
  go_enter Try.func14, Try.ntmps14
  go_wp2
  go_ret2
  exact ⟨rfl, rfl⟩

theorem steps_any (b n cap : Nat) (ao : Option Addr) (w : World) (hb : w.cell? ⟨b, 1, none⟩ = some (.slice ao n cap)) :
    Calls Try.prog 17 #[.pointer (some ⟨b, 0, none⟩)] w fun e w' => e = .returned (.int .i64 n) ∧ w = w' := by
  go_enter Try.func17, Try.ntmps17
  go_wp2
  go_ret
  exact ⟨rfl, rfl⟩

/-- outcome. -/
theorem outcome_any (o : OpD) (ho : o.Wf) (word : Int) (h0 : 0 ≤ word) (h1 : word < 18446744073709551616) (w : World) :
    Calls Try.prog 29 #[o.val, .int .u64 word] w fun e w' =>
      e = .returned (.tuple #[.int .u64 (outc o word).1, .bool (outc o word).2.1, .int .i64 (outc o word).2.2]) ∧ ∃ cs, w.alloc (.cells cs 33) = w' := by
  obtain ⟨k, c, a, b⟩ := o
  obtain ⟨k0, k1, c0, c1, a0, a1, b0, b1⟩ := ho
  simp only at k0 k1 c0 c1 a0 a1 b0 b1
  simp only [OpD.val]
  by_cases g1 : k = 1
  · subst g1
    have e : outc ⟨1, c, a, b⟩ word = (word, true, 0) := by simp [outc]
    rw [e]
    go_enter Try.func29, Try.ntmps29
    go_wp2
    go_ret3
    exact ⟨rfl, _, rfl⟩
  by_cases g2 : k = 2
  · subst g2
    have e : outc ⟨2, c, a, b⟩ word = (a, true, 0) := by simp [outc]
    rw [e]
    go_enter Try.func29, Try.ntmps29
    go_wp2
    go_ret3
    exact ⟨rfl, _, rfl⟩
  by_cases g3 : k = 3
  · subst g3
    by_cases g : word = a
    · subst g
      have e : outc ⟨3, c, word, b⟩ word = (b, true, 0) := by simp [outc]
      rw [e]
      go_enter Try.func29, Try.ntmps29
      go_wp2
      go_ret3
      exact ⟨rfl, _, rfl⟩
    · have e : outc ⟨3, c, a, b⟩ word = (word, false, 0) := by simp [outc, g]
      rw [e]
      have g' : (word == a) = false := by simpa using g
      go_enter Try.func29, Try.ntmps29
      go_wp2
      go_ret3
      exact ⟨rfl, _, rfl⟩
  by_cases g4 : k = 4
  · subst g4
    by_cases g : word + a < 18446744073709551616
    · have e : outc ⟨4, c, a, b⟩ word = (word + a, true, 0) := by simp [outc, g]
      rw [e]
      have q1 : (word + a) % 18446744073709551616 = word + a := by omega
      have q2 : (word + a) / 18446744073709551616 = 0 := by omega
      have hadd := fun w => add64_0 word a h0 a0 w
      rw [q1, q2] at hadd
      clear q1 q2 g
      go_enter Try.func29, Try.ntmps29
      go_wp2
      go_ret3
      exact ⟨rfl, _, rfl⟩
    · have e : outc ⟨4, c, a, b⟩ word = (0, false, 4) := by simp [outc, g]
      rw [e]
      have q2 : (word + a) / 18446744073709551616 = 1 := by omega
      have hadd := fun w => add64_0 word a h0 a0 w
      rw [q2] at hadd
      obtain ⟨s, hs⟩ : ∃ s, s = (word + a) % 18446744073709551616 := ⟨_, rfl⟩
      rw [← hs] at hadd
      clear q2 g hs
      go_enter Try.func29, Try.ntmps29
      go_wp2
      go_ret3
      exact ⟨rfl, _, rfl⟩
  · have e : outc ⟨k, c, a, b⟩ word = (0, false, 3) := by simp [outc, g1, g2, g3, g4]
    rw [e]
    have q1 : (k == 1) = false := by simpa using g1
    have q2 : (k == 2) = false := by simpa using g2
    have q3 : (k == 3) = false := by simpa using g3
    have q4 : (k == 4) = false := by simpa using g4
    go_enter Try.func29, Try.ntmps29
    go_wp2
    go_ret3
    exact ⟨rfl, _, rfl⟩

end Go.Proofs.Ytdaahghlaingaac
