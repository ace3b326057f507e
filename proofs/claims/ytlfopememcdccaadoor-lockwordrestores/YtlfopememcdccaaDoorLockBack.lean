/-
  READ TAKES FREE AND HELD BACK; RESTORE TAKES LOCK BACK: two laws on lock words, walked.
-/
import Derived.Test.YtlfopememcdccaaDoorLockLaws
namespace Go.Proofs.YtlfopememcdccaaDoor
set_option linter.unusedVariables false
set_option linter.unusedSimpArgs false
open Go.RowKit

theorem readP_free {v : Int} (h0 : 0 ≤ v) (h1 : v ≤ 1099511627776) : readP (v * 32) = (-1, v, 0) := by
  have e1 : v * 32 / 32 = v := by omega
  have e2 : v * 32 % 32 = 0 := by omega
  unfold readP
  rw [e1, if_neg (by omega), if_pos e2]

theorem readP_held {o v : Int} (ho : 0 ≤ o ∧ o < 4) (h0 : 0 ≤ v) (h1 : v ≤ 1099511627776) : readP (v * 32 + o * 2 + 1) = (o, v, 0) := by
  have e1 : (v * 32 + o * 2 + 1) / 32 = v := by omega
  have e2 : ¬ (v * 32 + o * 2 + 1) % 32 = 0 := by omega
  have e3 : (v * 32 + o * 2 + 1) % 2 = 1 := by omega
  have e4 : (v * 32 + o * 2 + 1) % 32 / 2 = o := by omega
  unfold readP
  rw [e1, e3, e4, if_neg (by omega), if_neg e2, if_pos ⟨rfl, ho.2⟩]

theorem freeP_out {v : Int} (h : ¬ v ≤ 1099511627776) : freeP v = (0, 2) := by unfold freeP; rw [if_neg h]
theorem heldP_out {o v : Int} (h : ¬ ((0 ≤ o ∧ o < 4) ∧ v ≤ 1099511627776)) : heldP o v = (0, 2) := by unfold heldP; rw [if_neg h]

theorem back_any (n o v : Int) (hn : U64 n) (hv : U64 v) (w : World) (S : Sh w) : Calls Tryd.prog 5 #[.int .u64 n, .int .i64 o, .int .u64 v] w fun e w' => e = .returned (.bool true) ∧ Touch w w' [] := by
  have F : Hid _ := Next1.of (w := w) (fun W => free_ext v hv.1 W)
  have H : Hid _ := Next1.of (w := w) (fun W => held_ext o v hv.1 W)
  have R : Hid _ := Next1.of (w := w) (fun W => read_ext n hn W)
  have L : Hid _ := Next1.of (w := w) (fun W => live_any W)
  have T : Hid _ := Next1.of (w := w) (fun W => right_ext n hn W)
  have t0 := Touch.refl w []
  by_cases h1 : v ≤ 1099511627776
  · rw [freeP_in h1] at F
    have A : Hid _ := Next1.of (w := w) (fun W => read_ext (v * 32) ⟨by have := hv.1; omega, by omega⟩ W)
    rw [readP_free hv.1 h1] at A
    by_cases h2 : 0 ≤ o ∧ o < 4
    · rw [heldP_in h2 h1] at H
      have B : Hid _ := Next1.of (w := w) (fun W => read_ext (v * 32 + o * 2 + 1) ⟨by have := hv.1; omega, by omega⟩ W)
      rw [readP_held h2 hv.1 h1] at B
      by_cases he : (readP n).2.2 = 0
      · have h3 := (readP_ok hn.1 he).2.2
        have hw := word_of hn.1 he
        have hve := readP_ver hn.1 he
        have hvv := readP_v hn.1
        have G : Hid _ := Next1.of (w := w) (fun W => free_ext (readP n).2.1 hvv W)
        have K : Hid _ := Next1.of (w := w) (fun W => held_ext (readP n).1 (readP n).2.1 hvv W)
        have ho4 : (readP n).1 < 0 ∨ (0 ≤ (readP n).1 ∧ (readP n).1 < 4) := by omega
        clear h3 T
        generalize readP n = r at *
        obtain ⟨r1, r2, r3⟩ := r
        simp only at he hw hve hvv ho4 G K R
        subst he
        rw [freeP_in hve] at G
        rcases ho4 with hneg | hpos
        · rw [if_pos hneg] at hw
          have hneg' : decide (0 ≤ r1) = false := decide_eq_false (by omega)
          have hw' : (r2 * 32 == n) = true := by simp; omega
          clear hw hneg K
          go_enter Tryd.func5, Tryd.ntmps5
          go_wp2_with fail
          refine (F.out _ S t0).mono ?_
          clear S t0
          rintro e w1 ⟨rfl, S, t0⟩
          clear F
          go_wp2_with fail
          refine (A.out _ S t0).mono ?_
          clear S t0
          rintro e w1 ⟨rfl, S, t0⟩
          clear A
          go_wp2_with fail
          refine (H.out _ S t0).mono ?_
          clear S t0
          rintro e w1 ⟨rfl, S, t0⟩
          clear H
          go_wp2_with fail
          refine (B.out _ S t0).mono ?_
          clear S t0
          rintro e w1 ⟨rfl, S, t0⟩
          clear B
          go_wp2_with fail
          refine (R.out _ S t0).mono ?_
          clear S t0
          rintro e w1 ⟨rfl, S, t0⟩
          clear R
          go_wp2_with fail
          refine (G.out _ S t0).mono ?_
          clear S t0
          rintro e w1 ⟨rfl, S, t0⟩
          clear G
          go_wp2_with fail
          refine (L.out _ S t0).mono ?_
          clear S t0
          rintro e w1 ⟨rfl, S, t0⟩
          clear L
          go_wp2
          go_ret
          exact ⟨by simp, t0⟩
        · rw [if_neg (by omega)] at hw
          rw [heldP_in hpos hve] at K
          have hpos' : 0 ≤ r1 := hpos.1
          have hw' : (r2 * 32 + r1 * 2 + 1 == n) = true := by simp; omega
          clear hw hpos
          go_enter Tryd.func5, Tryd.ntmps5
          go_wp2_with fail
          refine (F.out _ S t0).mono ?_
          clear S t0
          rintro e w1 ⟨rfl, S, t0⟩
          clear F
          go_wp2_with fail
          refine (A.out _ S t0).mono ?_
          clear S t0
          rintro e w1 ⟨rfl, S, t0⟩
          clear A
          go_wp2_with fail
          refine (H.out _ S t0).mono ?_
          clear S t0
          rintro e w1 ⟨rfl, S, t0⟩
          clear H
          go_wp2_with fail
          refine (B.out _ S t0).mono ?_
          clear S t0
          rintro e w1 ⟨rfl, S, t0⟩
          clear B
          go_wp2_with fail
          refine (R.out _ S t0).mono ?_
          clear S t0
          rintro e w1 ⟨rfl, S, t0⟩
          clear R
          go_wp2_with fail
          refine (G.out _ S t0).mono ?_
          clear S t0
          rintro e w1 ⟨rfl, S, t0⟩
          clear G
          go_wp2_with fail
          refine (K.out _ S t0).mono ?_
          clear S t0
          rintro e w1 ⟨rfl, S, t0⟩
          clear K
          go_wp2_with fail
          refine (L.out _ S t0).mono ?_
          clear S t0
          rintro e w1 ⟨rfl, S, t0⟩
          clear L
          go_wp2
          go_ret
          exact ⟨by simp, t0⟩
      · rw [readP_ne he] at R T
        clear he
        go_enter Tryd.func5, Tryd.ntmps5
        go_wp2_with fail
        refine (F.out _ S t0).mono ?_
        clear S t0
        rintro e w1 ⟨rfl, S, t0⟩
        clear F
        go_wp2_with fail
        refine (A.out _ S t0).mono ?_
        clear S t0
        rintro e w1 ⟨rfl, S, t0⟩
        clear A
        go_wp2_with fail
        refine (H.out _ S t0).mono ?_
        clear S t0
        rintro e w1 ⟨rfl, S, t0⟩
        clear H
        go_wp2_with fail
        refine (B.out _ S t0).mono ?_
        clear S t0
        rintro e w1 ⟨rfl, S, t0⟩
        clear B
        go_wp2_with fail
        refine (R.out _ S t0).mono ?_
        clear S t0
        rintro e w1 ⟨rfl, S, t0⟩
        clear R
        go_wp2_with fail
        refine (L.out _ S t0).mono ?_
        clear S t0
        rintro e w1 ⟨rfl, S, t0⟩
        clear L
        go_wp2_with fail
        refine (T.out _ S t0).mono ?_
        clear S t0
        rintro e w1 ⟨rfl, S, t0⟩
        clear T
        go_wp2
        go_ret
        exact ⟨by simp, t0⟩
    · rw [heldP_out (fun hh => h2 hh.1)] at H
      by_cases he : (readP n).2.2 = 0
      · have h3 := (readP_ok hn.1 he).2.2
        have hw := word_of hn.1 he
        have hve := readP_ver hn.1 he
        have hvv := readP_v hn.1
        have G : Hid _ := Next1.of (w := w) (fun W => free_ext (readP n).2.1 hvv W)
        have K : Hid _ := Next1.of (w := w) (fun W => held_ext (readP n).1 (readP n).2.1 hvv W)
        have ho4 : (readP n).1 < 0 ∨ (0 ≤ (readP n).1 ∧ (readP n).1 < 4) := by omega
        clear h3 T
        generalize readP n = r at *
        obtain ⟨r1, r2, r3⟩ := r
        simp only at he hw hve hvv ho4 G K R
        subst he
        rw [freeP_in hve] at G
        rcases ho4 with hneg | hpos
        · rw [if_pos hneg] at hw
          have hneg' : decide (0 ≤ r1) = false := decide_eq_false (by omega)
          have hw' : (r2 * 32 == n) = true := by simp; omega
          clear hw hneg K
          go_enter Tryd.func5, Tryd.ntmps5
          go_wp2_with fail
          refine (F.out _ S t0).mono ?_
          clear S t0
          rintro e w1 ⟨rfl, S, t0⟩
          clear F
          go_wp2_with fail
          refine (A.out _ S t0).mono ?_
          clear S t0
          rintro e w1 ⟨rfl, S, t0⟩
          clear A
          go_wp2_with fail
          refine (H.out _ S t0).mono ?_
          clear S t0
          rintro e w1 ⟨rfl, S, t0⟩
          clear H
          go_wp2_with fail
          refine (R.out _ S t0).mono ?_
          clear S t0
          rintro e w1 ⟨rfl, S, t0⟩
          clear R
          go_wp2_with fail
          refine (G.out _ S t0).mono ?_
          clear S t0
          rintro e w1 ⟨rfl, S, t0⟩
          clear G
          go_wp2_with fail
          refine (L.out _ S t0).mono ?_
          clear S t0
          rintro e w1 ⟨rfl, S, t0⟩
          clear L
          go_wp2
          go_ret
          exact ⟨by simp, t0⟩
        · rw [if_neg (by omega)] at hw
          rw [heldP_in hpos hve] at K
          have hpos' : 0 ≤ r1 := hpos.1
          have hw' : (r2 * 32 + r1 * 2 + 1 == n) = true := by simp; omega
          clear hw hpos
          go_enter Tryd.func5, Tryd.ntmps5
          go_wp2_with fail
          refine (F.out _ S t0).mono ?_
          clear S t0
          rintro e w1 ⟨rfl, S, t0⟩
          clear F
          go_wp2_with fail
          refine (A.out _ S t0).mono ?_
          clear S t0
          rintro e w1 ⟨rfl, S, t0⟩
          clear A
          go_wp2_with fail
          refine (H.out _ S t0).mono ?_
          clear S t0
          rintro e w1 ⟨rfl, S, t0⟩
          clear H
          go_wp2_with fail
          refine (R.out _ S t0).mono ?_
          clear S t0
          rintro e w1 ⟨rfl, S, t0⟩
          clear R
          go_wp2_with fail
          refine (G.out _ S t0).mono ?_
          clear S t0
          rintro e w1 ⟨rfl, S, t0⟩
          clear G
          go_wp2_with fail
          refine (K.out _ S t0).mono ?_
          clear S t0
          rintro e w1 ⟨rfl, S, t0⟩
          clear K
          go_wp2_with fail
          refine (L.out _ S t0).mono ?_
          clear S t0
          rintro e w1 ⟨rfl, S, t0⟩
          clear L
          go_wp2
          go_ret
          exact ⟨by simp, t0⟩
      · rw [readP_ne he] at R T
        clear he
        go_enter Tryd.func5, Tryd.ntmps5
        go_wp2_with fail
        refine (F.out _ S t0).mono ?_
        clear S t0
        rintro e w1 ⟨rfl, S, t0⟩
        clear F
        go_wp2_with fail
        refine (A.out _ S t0).mono ?_
        clear S t0
        rintro e w1 ⟨rfl, S, t0⟩
        clear A
        go_wp2_with fail
        refine (H.out _ S t0).mono ?_
        clear S t0
        rintro e w1 ⟨rfl, S, t0⟩
        clear H
        go_wp2_with fail
        refine (R.out _ S t0).mono ?_
        clear S t0
        rintro e w1 ⟨rfl, S, t0⟩
        clear R
        go_wp2_with fail
        refine (L.out _ S t0).mono ?_
        clear S t0
        rintro e w1 ⟨rfl, S, t0⟩
        clear L
        go_wp2_with fail
        refine (T.out _ S t0).mono ?_
        clear S t0
        rintro e w1 ⟨rfl, S, t0⟩
        clear T
        go_wp2
        go_ret
        exact ⟨by simp, t0⟩
  · rw [freeP_out h1] at F
    rw [heldP_out (fun hh => h1 hh.2)] at H
    by_cases he : (readP n).2.2 = 0
    · have h3 := (readP_ok hn.1 he).2.2
      have hw := word_of hn.1 he
      have hve := readP_ver hn.1 he
      have hvv := readP_v hn.1
      have G : Hid _ := Next1.of (w := w) (fun W => free_ext (readP n).2.1 hvv W)
      have K : Hid _ := Next1.of (w := w) (fun W => held_ext (readP n).1 (readP n).2.1 hvv W)
      have ho4 : (readP n).1 < 0 ∨ (0 ≤ (readP n).1 ∧ (readP n).1 < 4) := by omega
      clear h3 T
      generalize readP n = r at *
      obtain ⟨r1, r2, r3⟩ := r
      simp only at he hw hve hvv ho4 G K R
      subst he
      rw [freeP_in hve] at G
      rcases ho4 with hneg | hpos
      · rw [if_pos hneg] at hw
        have hneg' : decide (0 ≤ r1) = false := decide_eq_false (by omega)
        have hw' : (r2 * 32 == n) = true := by simp; omega
        clear hw hneg K
        go_enter Tryd.func5, Tryd.ntmps5
        go_wp2_with fail
        refine (F.out _ S t0).mono ?_
        clear S t0
        rintro e w1 ⟨rfl, S, t0⟩
        clear F
        go_wp2_with fail
        refine (H.out _ S t0).mono ?_
        clear S t0
        rintro e w1 ⟨rfl, S, t0⟩
        clear H
        go_wp2_with fail
        refine (R.out _ S t0).mono ?_
        clear S t0
        rintro e w1 ⟨rfl, S, t0⟩
        clear R
        go_wp2_with fail
        refine (G.out _ S t0).mono ?_
        clear S t0
        rintro e w1 ⟨rfl, S, t0⟩
        clear G
        go_wp2_with fail
        refine (L.out _ S t0).mono ?_
        clear S t0
        rintro e w1 ⟨rfl, S, t0⟩
        clear L
        go_wp2
        go_ret
        exact ⟨by simp, t0⟩
      · rw [if_neg (by omega)] at hw
        rw [heldP_in hpos hve] at K
        have hpos' : 0 ≤ r1 := hpos.1
        have hw' : (r2 * 32 + r1 * 2 + 1 == n) = true := by simp; omega
        clear hw hpos
        go_enter Tryd.func5, Tryd.ntmps5
        go_wp2_with fail
        refine (F.out _ S t0).mono ?_
        clear S t0
        rintro e w1 ⟨rfl, S, t0⟩
        clear F
        go_wp2_with fail
        refine (H.out _ S t0).mono ?_
        clear S t0
        rintro e w1 ⟨rfl, S, t0⟩
        clear H
        go_wp2_with fail
        refine (R.out _ S t0).mono ?_
        clear S t0
        rintro e w1 ⟨rfl, S, t0⟩
        clear R
        go_wp2_with fail
        refine (G.out _ S t0).mono ?_
        clear S t0
        rintro e w1 ⟨rfl, S, t0⟩
        clear G
        go_wp2_with fail
        refine (K.out _ S t0).mono ?_
        clear S t0
        rintro e w1 ⟨rfl, S, t0⟩
        clear K
        go_wp2_with fail
        refine (L.out _ S t0).mono ?_
        clear S t0
        rintro e w1 ⟨rfl, S, t0⟩
        clear L
        go_wp2
        go_ret
        exact ⟨by simp, t0⟩
    · rw [readP_ne he] at R T
      clear he
      go_enter Tryd.func5, Tryd.ntmps5
      go_wp2_with fail
      refine (F.out _ S t0).mono ?_
      clear S t0
      rintro e w1 ⟨rfl, S, t0⟩
      clear F
      go_wp2_with fail
      refine (H.out _ S t0).mono ?_
      clear S t0
      rintro e w1 ⟨rfl, S, t0⟩
      clear H
      go_wp2_with fail
      refine (R.out _ S t0).mono ?_
      clear S t0
      rintro e w1 ⟨rfl, S, t0⟩
      clear R
      go_wp2_with fail
      refine (L.out _ S t0).mono ?_
      clear S t0
      rintro e w1 ⟨rfl, S, t0⟩
      clear L
      go_wp2_with fail
      refine (T.out _ S t0).mono ?_
      clear S t0
      rintro e w1 ⟨rfl, S, t0⟩
      clear T
      go_wp2
      go_ret
      exact ⟨by simp, t0⟩

theorem lockP_ok {n o : Int} (hn : U64 n) (h : (lockP n o).2 = 0) : (0 ≤ o ∧ o < 4) ∧ (readP n).2.2 = 0 ∧ (readP n).1 = -1 ∧ lockP n o = ((readP n).2.1 * 32 + o * 2 + 1, 0) ∧ n = (readP n).2.1 * 32 := by
  unfold lockP at *
  by_cases h1 : (readP n).2.2 = 0
  · rw [if_neg (fun hh => hh h1)] at h ⊢
    by_cases h2 : 0 ≤ o ∧ o < 4
    · rw [if_neg (fun hh => hh h2)] at h ⊢
      by_cases h3 : (readP n).1 = o
      · rw [if_pos h3] at h; simp at h
      · rw [if_neg h3] at h ⊢
        by_cases h4 : 0 ≤ (readP n).1
        · rw [if_pos h4] at h; simp at h
        · rw [if_neg h4]
          have hw := word_of hn.1 h1
          rw [if_pos (by omega)] at hw
          obtain ⟨_, _, h5⟩ := readP_ok hn.1 h1
          exact ⟨h2, h1, by omega, rfl, by omega⟩
    · rw [if_pos h2] at h; simp at h
  · rw [if_pos h1] at h; simp at h

theorem lockP_err {n o : Int} (h : ¬ (lockP n o).2 = 0) : (lockP n o).1 = 0 := by
  unfold lockP at *
  by_cases h1 : (readP n).2.2 = 0
  · rw [if_neg (fun hh => hh h1)] at h ⊢
    by_cases h2 : 0 ≤ o ∧ o < 4
    · rw [if_neg (fun hh => hh h2)] at h ⊢
      by_cases h3 : (readP n).1 = o
      · rw [if_pos h3]
      · rw [if_neg h3] at h ⊢
        by_cases h4 : 0 ≤ (readP n).1
        · rw [if_pos h4]
        · rw [if_neg h4] at h; simp at h
    · rw [if_pos h2]
  · rw [if_pos h1]

theorem restores_any (n o v : Int) (hn : U64 n) (hv : U64 v) (w : World) (S : Sh w) : Calls Tryd.prog 6 #[.int .u64 n, .int .i64 o, .int .u64 v] w fun e w' => e = .returned (.bool true) ∧ Touch w w' [] := by
  have A : Hid _ := Next1.of (w := w) (fun W => lock_ext n o hn W)
  have L : Hid _ := Next1.of (w := w) (fun W => live_any W)
  have t0 := Touch.refl w []
  by_cases h : (lockP n o).2 = 0
  · obtain ⟨ho, hr, hwho, hl, hw⟩ := lockP_ok hn h
    have hve := readP_ver hn.1 hr
    have hvv := readP_v hn.1
    rw [hl] at A
    have R : Hid _ := Next1.of (w := w) (fun W => read_ext n hn W)
    generalize readP n = r at *
    obtain ⟨r1, r2, r3⟩ := r
    simp only at hve hvv A R hw hwho hr
    have hu : U64 (r2 * 32 + o * 2 + 1) := ⟨by omega, by omega⟩
    have B : Hid _ := Next1.of (w := w) (fun W => restore_ext (r2 * 32 + o * 2 + 1) o hu W)
    have e1 : restoreP (r2 * 32 + o * 2 + 1) o = (r2 * 32, 0) := by
      unfold restoreP
      rw [readP_held ho hvv hve]
      simp only
      rw [if_neg (by decide), if_neg (fun hh => hh ho), if_neg (fun hh => hh rfl)]
    rw [e1] at B
    have C : Hid _ := Next1.of (w := w) (fun W => passes_ext (r2 * 32 + o * 2 + 1) o v hu W)
    have e2 : passesP (r2 * 32 + o * 2 + 1) o v = decide (r2 ≤ v) := by
      unfold passesP
      rw [readP_held ho hvv hve]
      simp
    rw [e2] at C
    have D : Hid _ := Next1.of (w := w) (fun W => passes_ext (r2 * 32 + o * 2 + 1) ((o + 1) % 4) v hu W)
    have e3 : passesP (r2 * 32 + o * 2 + 1) ((o + 1) % 4) v = false := by
      unfold passesP
      rw [readP_held ho hvv hve]
      have : ¬ o < 0 := by omega
      have : ¬ o = (o + 1) % 4 := by omega
      simp [*]
    rw [e3] at D
    have hw' : (r2 * 32 == n) = true := by simp; omega
    clear e1 e2 e3 hl hw hwho hu h
    subst hr
    go_enter Tryd.func6, Tryd.ntmps6
    go_wp2_with fail
    refine (A.out _ S t0).mono ?_
    clear S t0
    rintro e w1 ⟨rfl, S, t0⟩
    clear A
    go_wp2_with fail
    refine (B.out _ S t0).mono ?_
    clear S t0
    rintro e w1 ⟨rfl, S, t0⟩
    clear B
    go_wp2_with fail
    refine (R.out _ S t0).mono ?_
    clear S t0
    rintro e w1 ⟨rfl, S, t0⟩
    clear R
    go_wp2_with fail
    refine (L.out _ S t0).mono ?_
    clear S t0
    rintro e w1 ⟨rfl, S, t0⟩
    clear L
    go_wp2_with fail
    refine (C.out _ S t0).mono ?_
    clear S t0
    rintro e w1 ⟨rfl, S, t0⟩
    clear C
    go_wp2_with fail
    refine (D.out _ S t0).mono ?_
    clear S t0
    rintro e w1 ⟨rfl, S, t0⟩
    clear D
    go_wp2
    go_ret
    exact ⟨by simp, t0⟩
  · have h0 := lockP_err h
    generalize lockP n o = r at *
    obtain ⟨r1, r2⟩ := r
    simp only at h h0 A
    subst h0
    have h' : (r2 == 0) = false := by simpa using h
    clear h
    go_enter Tryd.func6, Tryd.ntmps6
    go_wp2_with fail
    refine (A.out _ S t0).mono ?_
    clear S t0
    rintro e w1 ⟨rfl, S, t0⟩
    clear A
    go_wp2_with fail
    refine (L.out _ S t0).mono ?_
    clear S t0
    rintro e w1 ⟨rfl, S, t0⟩
    clear L
    go_wp2
    go_ret
    exact ⟨by simp, t0⟩

end Go.Proofs.YtlfopememcdccaaDoor
