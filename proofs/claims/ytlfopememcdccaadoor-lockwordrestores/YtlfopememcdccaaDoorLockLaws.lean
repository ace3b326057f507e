/-
  The five laws on lock words, walked.
-/
import Derived.Test.YtlfopememcdccaaDoorLockLive
namespace Go.Proofs.YtlfopememcdccaaDoor
set_option linter.unusedVariables false
set_option linter.unusedSimpArgs false
open Go.RowKit

def U64 (n : Int) : Prop := 0 ≤ n ∧ n < 18446744073709551616

/-- A call that touches new memory alone, behind another one. -/
def Next1 (w : World) (f : Nat) (args : Array Value) (v : Value) : Prop := ∀ W, Sh W → Touch w W [] → Calls Tryd.prog f args W fun e w' => e = .returned v ∧ Sh w' ∧ Touch w w' []

theorem Next1.of {w : World} {f : Nat} {args : Array Value} {v : Value} (h : ∀ W, Sh W → Calls Tryd.prog f args W fun e w' => e = .returned v ∧ Touch W w' []) : Next1 w f args v :=
  fun W S t => (h W S).mono fun e w' hh => ⟨hh.1, S.touch hh.2 (by simp), t.trans hh.2 (by simp)⟩
theorem Next1.of_same {w : World} {f : Nat} {args : Array Value} {v : Value} (h : ∀ W, Calls Tryd.prog f args W fun e w' => e = .returned v ∧ W = w') : Next1 w f args v :=
  fun W S t => (h W).mono fun e w' hh => by obtain ⟨rfl, rfl⟩ := hh; exact ⟨rfl, S, t⟩

theorem forms_any (n o v : Int) (hn : U64 n) (hv : U64 v) (w : World) (S : Sh w) : Calls Tryd.prog 3 #[.int .u64 n, .int .i64 o, .int .u64 v] w fun e w' => e = .returned (.bool true) ∧ Touch w w' [] := by
  have H1 : Hid _ := Next1.of (w := w) (fun W => free_ext v hv.1 W)
  have H2 : Hid _ := Next1.of_same (w := w) (rfree_any v hv.1)
  have H3 : Hid _ := Next1.of (w := w) (fun W => held_ext o v hv.1 W)
  have H4 : Hid _ := Next1.of_same (w := w) (rheld_any o v hv.1)
  have H5 : Hid _ := Next1.of (w := w) (fun W => read_ext n hn W)
  have H6 : Hid _ := Next1.of_same (w := w) (rread_any n hn)
  have H7 : Hid _ := Next1.of (w := w) (fun W => live_any W)
  have H8 : Hid _ := Next1.of (w := w) (fun W => right_ext n hn W)
  have H9 : Hid _ := Next1.of_same (w := w) (rright_any n hn)
  generalize freeP v = r1 at *
  generalize heldP o v = r2 at *
  generalize readP n = r3 at *
  have t0 := Touch.refl w []
  go_enter Tryd.func3, Tryd.ntmps3
  go_wp2_with fail
  refine (H1.out _ S t0).mono ?_
  clear S t0
  rintro e w1 ⟨rfl, S, t0⟩
  clear H1
  go_wp2_with fail
  refine (H2.out _ S t0).mono ?_
  clear S t0
  rintro e w1 ⟨rfl, S, t0⟩
  clear H2
  go_wp2_with fail
  refine (H3.out _ S t0).mono ?_
  clear S t0
  rintro e w1 ⟨rfl, S, t0⟩
  clear H3
  go_wp2_with fail
  refine (H4.out _ S t0).mono ?_
  clear S t0
  rintro e w1 ⟨rfl, S, t0⟩
  clear H4
  go_wp2_with fail
  refine (H5.out _ S t0).mono ?_
  clear S t0
  rintro e w1 ⟨rfl, S, t0⟩
  clear H5
  go_wp2_with fail
  refine (H6.out _ S t0).mono ?_
  clear S t0
  rintro e w1 ⟨rfl, S, t0⟩
  clear H6
  go_wp2_with fail
  refine (H7.out _ S t0).mono ?_
  clear S t0
  rintro e w1 ⟨rfl, S, t0⟩
  clear H7
  go_wp2_with fail
  refine (H8.out _ S t0).mono ?_
  clear S t0
  rintro e w1 ⟨rfl, S, t0⟩
  clear H8
  go_wp2_with fail
  refine (H9.out _ S t0).mono ?_
  clear S t0
  rintro e w1 ⟨rfl, S, t0⟩
  clear H9
  go_wp2
  go_ret
  exact ⟨by simp, t0⟩

theorem turns_any (n o v : Int) (hn : U64 n) (hv : U64 v) (w : World) (S : Sh w) : Calls Tryd.prog 4 #[.int .u64 n, .int .i64 o, .int .u64 v] w fun e w' => e = .returned (.bool true) ∧ Touch w w' [] := by
  have H1 : Hid _ := Next1.of (w := w) (fun W => lock_ext n o hn W)
  have H2 : Hid _ := Next1.of_same (w := w) (rlock_any n o hn)
  have H3 : Hid _ := Next1.of (w := w) (fun W => unlock_ext n o v hn hv.1 W)
  have H4 : Hid _ := Next1.of_same (w := w) (runlock_any n o v hn hv.1)
  have H5 : Hid _ := Next1.of (w := w) (fun W => restore_ext n o hn W)
  have H6 : Hid _ := Next1.of_same (w := w) (rrestore_any n o hn)
  have H7 : Hid _ := Next1.of_same (w := w) (next_ext v hv.1)
  have H8 : Hid _ := Next1.of_same (w := w) (rnext_any v hv.1)
  have H9 : Hid _ := Next1.of (w := w) (fun W => live_any W)
  have H10 : Hid _ := Next1.of (w := w) (fun W => passes_ext n o v hn W)
  have H11 : Hid _ := Next1.of_same (w := w) (rpasses_any n o v hn)
  generalize lockP n o = r1 at *
  generalize unlockP n o v = r2 at *
  generalize restoreP n o = r3 at *
  generalize nextP v = r4 at *
  generalize passesP n o v = r5 at *
  have t0 := Touch.refl w []
  go_enter Tryd.func4, Tryd.ntmps4
  go_wp2_with fail
  refine (H1.out _ S t0).mono ?_
  clear S t0
  rintro e w1 ⟨rfl, S, t0⟩
  clear H1
  go_wp2_with fail
  refine (H2.out _ S t0).mono ?_
  clear S t0
  rintro e w1 ⟨rfl, S, t0⟩
  clear H2
  go_wp2_with fail
  refine (H3.out _ S t0).mono ?_
  clear S t0
  rintro e w1 ⟨rfl, S, t0⟩
  clear H3
  go_wp2_with fail
  refine (H4.out _ S t0).mono ?_
  clear S t0
  rintro e w1 ⟨rfl, S, t0⟩
  clear H4
  go_wp2_with fail
  refine (H5.out _ S t0).mono ?_
  clear S t0
  rintro e w1 ⟨rfl, S, t0⟩
  clear H5
  go_wp2_with fail
  refine (H6.out _ S t0).mono ?_
  clear S t0
  rintro e w1 ⟨rfl, S, t0⟩
  clear H6
  go_wp2_with fail
  refine (H7.out _ S t0).mono ?_
  clear S t0
  rintro e w1 ⟨rfl, S, t0⟩
  clear H7
  go_wp2_with fail
  refine (H8.out _ S t0).mono ?_
  clear S t0
  rintro e w1 ⟨rfl, S, t0⟩
  clear H8
  go_wp2_with fail
  refine (H9.out _ S t0).mono ?_
  clear S t0
  rintro e w1 ⟨rfl, S, t0⟩
  clear H9
  go_wp2_with fail
  refine (H10.out _ S t0).mono ?_
  clear S t0
  rintro e w1 ⟨rfl, S, t0⟩
  clear H10
  go_wp2_with fail
  refine (H11.out _ S t0).mono ?_
  clear S t0
  rintro e w1 ⟨rfl, S, t0⟩
  clear H11
  go_wp2
  go_ret
  exact ⟨by simp, t0⟩

theorem readP_ne {n : Int} (h : ¬ (readP n).2.2 = 0) : readP n = (0, 0, 3) := by
  unfold readP at *
  split at h
  · rw [if_pos ‹_›]
  · rw [if_neg ‹_›]
    split at h
    · simp at h
    · rw [if_neg ‹_›]
      split at h
      · simp at h
      · rw [if_neg ‹_›]

/-- A word that says anything is told by what it says. -/
theorem word_of {n : Int} (hn : 0 ≤ n) (h : (readP n).2.2 = 0) : n = (readP n).2.1 * 32 + (if (readP n).1 < 0 then 0 else (readP n).1 * 2 + 1) := by
  obtain ⟨h1, h2, h3⟩ := readP_ok hn h
  rw [h2]
  rcases h3 with ⟨e, a, b⟩ | ⟨e, a, b, c⟩
  · rw [e, if_pos (by omega)]; omega
  · rw [e, if_neg (by omega)]; omega

theorem unlike_any (a b : Int) (ha : U64 a) (hb : U64 b) (w : World) (S : Sh w) : Calls Tryd.prog 7 #[.int .u64 a, .int .u64 b] w fun e w' => e = .returned (.bool true) ∧ Touch w w' [] := by
  have H1 : Hid _ := Next1.of (w := w) (fun W => read_ext a ha W)
  have H2 : Hid _ := Next1.of (w := w) (fun W => read_ext b hb W)
  have H3 : Hid _ := Next1.of (w := w) (fun W => live_any W)
  have H4 : Hid _ := Next1.of (w := w) (fun W => right_ext a ha W)
  have H5 : Hid _ := Next1.of (w := w) (fun W => right_ext b hb W)
  have t0 := Touch.refl w []
  have wa := word_of ha.1
  have wb := word_of hb.1
  rcases readP_err a with ea | ea <;> rcases readP_err b with eb | eb
  · replace wa := wa ea
    replace wb := wb eb
    have hiff : (a = b) ↔ ((readP a).1 = (readP b).1 ∧ (readP a).2.1 = (readP b).2.1) := by
      constructor
      · rintro rfl; exact ⟨rfl, rfl⟩
      · rintro ⟨e1, e2⟩; rw [wa, wb, e1, e2]
    clear wa wb
    generalize readP a = x at *
    generalize readP b = y at *
    obtain ⟨x1, x2, x3⟩ := x
    obtain ⟨y1, y2, y3⟩ := y
    simp only at *
    subst ea eb
    have hb1 : ((a == b) == (x1 == y1 && x2 == y2)) = true := by
      rw [beq_iff_eq, Bool.eq_iff_iff]; simp [hiff]
    by_cases hx : x1 = y1
    · by_cases hy : x2 = y2
      · have hab := hiff.2 ⟨hx, hy⟩
        have HE : Hid True := trivial
        subst hx hy
        clear hiff hb1
        have hq : (a == b) = true := by simpa using hab
        clear hab
        go_enter Tryd.func7, Tryd.ntmps7
        go_wp2_with fail
        refine (H1.out _ S t0).mono ?_
        clear S t0
        rintro e w1 ⟨rfl, S, t0⟩
        clear H1
        go_wp2_with fail
        refine (H2.out _ S t0).mono ?_
        clear S t0
        rintro e w1 ⟨rfl, S, t0⟩
        clear H2
        go_wp2_with fail
        refine (H3.out _ S t0).mono ?_
        clear S t0
        rintro e w1 ⟨rfl, S, t0⟩
        clear H3
        go_wp2_with fail
        refine (H4.out _ S t0).mono ?_
        clear S t0
        rintro e w1 ⟨rfl, S, t0⟩
        clear H4
        go_wp2_with fail
        refine (H5.out _ S t0).mono ?_
        clear S t0
        rintro e w1 ⟨rfl, S, t0⟩
        clear H5
        go_wp2
        go_ret
        exact ⟨by simp, t0⟩
      · have hab : ¬ a = b := fun h => hy (hiff.1 h).2
        have q1 : (a == b) = false := by simpa using hab
        have q2 : (x2 == y2) = false := by simpa using hy
        subst hx
        clear hiff hb1 hab hy
        go_enter Tryd.func7, Tryd.ntmps7
        go_wp2_with fail
        refine (H1.out _ S t0).mono ?_
        clear S t0
        rintro e w1 ⟨rfl, S, t0⟩
        clear H1
        go_wp2_with fail
        refine (H2.out _ S t0).mono ?_
        clear S t0
        rintro e w1 ⟨rfl, S, t0⟩
        clear H2
        go_wp2_with fail
        refine (H3.out _ S t0).mono ?_
        clear S t0
        rintro e w1 ⟨rfl, S, t0⟩
        clear H3
        go_wp2_with fail
        refine (H4.out _ S t0).mono ?_
        clear S t0
        rintro e w1 ⟨rfl, S, t0⟩
        clear H4
        go_wp2_with fail
        refine (H5.out _ S t0).mono ?_
        clear S t0
        rintro e w1 ⟨rfl, S, t0⟩
        clear H5
        go_wp2
        go_ret
        exact ⟨by simp, t0⟩
    · have hab : ¬ a = b := fun h => hx (hiff.1 h).1
      have q1 : (a == b) = false := by simpa using hab
      have q2 : (x1 == y1) = false := by simpa using hx
      clear hiff hb1 hab hx
      go_enter Tryd.func7, Tryd.ntmps7
      go_wp2_with fail
      refine (H1.out _ S t0).mono ?_
      clear S t0
      rintro e w1 ⟨rfl, S, t0⟩
      clear H1
      go_wp2_with fail
      refine (H2.out _ S t0).mono ?_
      clear S t0
      rintro e w1 ⟨rfl, S, t0⟩
      clear H2
      go_wp2_with fail
      refine (H3.out _ S t0).mono ?_
      clear S t0
      rintro e w1 ⟨rfl, S, t0⟩
      clear H3
      go_wp2_with fail
      refine (H4.out _ S t0).mono ?_
      clear S t0
      rintro e w1 ⟨rfl, S, t0⟩
      clear H4
      go_wp2_with fail
      refine (H5.out _ S t0).mono ?_
      clear S t0
      rintro e w1 ⟨rfl, S, t0⟩
      clear H5
      go_wp2
      go_ret
      exact ⟨by simp, t0⟩
  · generalize readP a = x at *
    generalize readP b = y at *
    obtain ⟨x1, x2, x3⟩ := x
    obtain ⟨y1, y2, y3⟩ := y
    simp only at ea eb H1 H2
    subst ea eb
    clear wa wb H4 H5
    go_enter Tryd.func7, Tryd.ntmps7
    go_wp2_with fail
    refine (H1.out _ S t0).mono ?_
    clear S t0
    rintro e w1 ⟨rfl, S, t0⟩
    clear H1
    go_wp2_with fail
    refine (H2.out _ S t0).mono ?_
    clear S t0
    rintro e w1 ⟨rfl, S, t0⟩
    clear H2
    go_wp2_with fail
    refine (H3.out _ S t0).mono ?_
    clear S t0
    rintro e w1 ⟨rfl, S, t0⟩
    clear H3
    go_wp2
    go_ret
    exact ⟨by simp, t0⟩
  · generalize readP a = x at *
    generalize readP b = y at *
    obtain ⟨x1, x2, x3⟩ := x
    obtain ⟨y1, y2, y3⟩ := y
    simp only at ea eb H1 H2
    subst ea eb
    clear wa wb H4 H5
    go_enter Tryd.func7, Tryd.ntmps7
    go_wp2_with fail
    refine (H1.out _ S t0).mono ?_
    clear S t0
    rintro e w1 ⟨rfl, S, t0⟩
    clear H1
    go_wp2_with fail
    refine (H2.out _ S t0).mono ?_
    clear S t0
    rintro e w1 ⟨rfl, S, t0⟩
    clear H2
    go_wp2_with fail
    refine (H3.out _ S t0).mono ?_
    clear S t0
    rintro e w1 ⟨rfl, S, t0⟩
    clear H3
    go_wp2
    go_ret
    exact ⟨by simp, t0⟩
  · generalize readP a = x at *
    generalize readP b = y at *
    obtain ⟨x1, x2, x3⟩ := x
    obtain ⟨y1, y2, y3⟩ := y
    simp only at ea eb H1 H2
    subst ea eb
    clear wa wb H4 H5
    go_enter Tryd.func7, Tryd.ntmps7
    go_wp2_with fail
    refine (H1.out _ S t0).mono ?_
    clear S t0
    rintro e w1 ⟨rfl, S, t0⟩
    clear H1
    go_wp2_with fail
    refine (H2.out _ S t0).mono ?_
    clear S t0
    rintro e w1 ⟨rfl, S, t0⟩
    clear H2
    go_wp2_with fail
    refine (H3.out _ S t0).mono ?_
    clear S t0
    rintro e w1 ⟨rfl, S, t0⟩
    clear H3
    go_wp2
    go_ret
    exact ⟨by simp, t0⟩

end Go.Proofs.YtlfopememcdccaaDoor
