/-
  The document's own answers of layer 3 BY THEIR CONTRACTS: the same plain functions.
-/
import Derived.Test.YthkphhjhgkclfaaDoorLockCalls
namespace Go.Proofs.YthkphhjhgkclfaaDoor
set_option linter.unusedVariables false
set_option linter.unusedSimpArgs false
open Go.RowKit

theorem rowner_any (o : Int) (w : World) : Calls Tryd.prog 67 #[.int .i64 o] w fun e w' => e = .returned (.bool (decide (0 ≤ o ∧ o < 4))) ∧ w = w' := by
  by_cases h : 0 ≤ o
  · by_cases h4 : o < 4
    all_goals
      go_enter Tryd.func67, Tryd.ntmps67
      go_wp2
      go_ret
      refine ⟨?_, rfl⟩
      simp [h, h4]
  · go_enter Tryd.func67, Tryd.ntmps67
    go_wp2
    go_ret
    refine ⟨?_, rfl⟩
    simp
    omega

theorem rfree_any (v : Int) (hv : 0 ≤ v) (w : World) : Calls Tryd.prog 68 #[.int .u64 v] w fun e w' => e = .returned (two (freeP v)) ∧ w = w' := by
  unfold freeP
  by_cases h : v ≤ 1099511627776
  · have h' : ¬ 1099511627776 < v := by omega
    go_enter Tryd.func68, Tryd.ntmps68
    go_wp2
    go_ret2
    exact ⟨by simp [h], rfl⟩
  · have h' : 1099511627776 < v := by omega
    go_enter Tryd.func68, Tryd.ntmps68
    go_wp2
    go_ret2
    exact ⟨by simp [h], rfl⟩

theorem rheld_any (o v : Int) (hv : 0 ≤ v) (w : World) : Calls Tryd.prog 65 #[.int .i64 o, .int .u64 v] w fun e w' => e = .returned (two (heldP o v)) ∧ w = w' := by
  unfold heldP
  have ho := rowner_any o w
  by_cases ho4 : 0 ≤ o ∧ o < 4
  · rw [decide_eq_true ho4] at ho
    by_cases h : v ≤ 1099511627776
    · have h' : ¬ 1099511627776 < v := by omega
      go_enter Tryd.func65, Tryd.ntmps65
      go_wp2_with fail
      refine ho.mono ?_
      rintro e w1 ⟨rfl, rfl⟩
      clear ho
      go_wp2
      go_ret2
      exact ⟨by simp [h, ho4], rfl⟩
    · have h' : 1099511627776 < v := by omega
      go_enter Tryd.func65, Tryd.ntmps65
      go_wp2_with fail
      refine ho.mono ?_
      rintro e w1 ⟨rfl, rfl⟩
      clear ho
      go_wp2
      go_ret2
      exact ⟨by simp [h, ho4], rfl⟩
  · rw [decide_eq_false ho4] at ho
    have h5 : ¬ ((0 ≤ o ∧ o < 4) ∧ v ≤ 1099511627776) := fun hh => ho4 hh.1
    go_enter Tryd.func65, Tryd.ntmps65
    go_wp2_with fail
    refine ho.mono ?_
    rintro e w1 ⟨rfl, rfl⟩
    clear ho
    go_wp2
    go_ret2
    exact ⟨by simp [h5], rfl⟩

theorem rnext_any (v : Int) (hv : 0 ≤ v) (w : World) : Calls Tryd.prog 56 #[.int .u64 v] w fun e w' => e = .returned (two (nextP v)) ∧ w = w' := by
  unfold nextP
  by_cases h : v ≤ 1099511627776
  · have h3 : ¬ 1099511627776 < v := by omega
    rcases Int.lt_or_eq_of_le h with h2 | rfl
    · have h4 : ¬ v = 1099511627776 := by omega
      have h5 : (v == 1099511627776) = false := by simpa using h4
      go_enter Tryd.func56, Tryd.ntmps56
      go_wp2
      go_ret2
      exact ⟨by simp [h3, h4], rfl⟩
    · go_enter Tryd.func56, Tryd.ntmps56
      go_wp2
      go_ret2
      exact ⟨by simp, rfl⟩
  · have h3 : 1099511627776 < v := by omega
    go_enter Tryd.func56, Tryd.ntmps56
    go_wp2
    go_ret2
    exact ⟨by simp [h3], rfl⟩

set_option maxRecDepth 100000 in
theorem rread_any (n : Int) (hn : 0 ≤ n ∧ n < 18446744073709551616) (w : World) : Calls Tryd.prog 51 #[.int .u64 n] w fun e w' => e = .returned (three (readP n)) ∧ w = w' := by
  have hz0 : 0 ≤ n / 32 := by omega
  by_cases h : 1099511627776 < n / 32
  · have e : readP n = (0, 0, 3) := by unfold readP; rw [if_pos h]
    rw [e]
    go_enter Tryd.func51, Tryd.ntmps51
    go_wp2
    go_ret3
    exact ⟨rfl, rfl⟩
  · by_cases h2 : n % 32 = 0
    · have e : readP n = (-1, n / 32, 0) := by unfold readP; rw [if_neg h, if_pos h2]
      rw [e]
      go_enter Tryd.func51, Tryd.ntmps51
      go_wp2
      go_ret3
      exact ⟨rfl, rfl⟩
    · have h2' : (n % 32 == 0) = false := by simpa using h2
      have HX : Hid (∀ k : Nat, k < 4 → ((heldP k (n / 32)).1 = n ↔ n % 2 = 1 ∧ n % 32 / 2 = k)) := by
        intro k hk
        unfold heldP
        rw [if_pos ⟨by omega, by omega⟩]
        simp only
        omega
      have HP : Hid ((n % 2 = 1 ∧ n % 32 / 2 < 4 → readP n = (n % 32 / 2, n / 32, 0)) ∧ (¬ (n % 2 = 1 ∧ n % 32 / 2 < 4) → readP n = (0, 0, 3))) := by
        unfold readP
        rw [if_neg h, if_neg h2]
        exact ⟨fun hh => if_pos hh, fun hh => if_neg hh⟩
      go_enter Tryd.func51, Tryd.ntmps51
      go_wp2_with fail
      go_loopw [6] (fun i wr => ∃ k : Nat, i = .int .i64 k ∧ k ≤ 4 ∧ (n % 2 = 1 → (k : Int) ≤ n % 32 / 2) ∧ w = wr) (fun i _ => 4 - (intOf i).toNat)
      case atStart => exact ⟨0, rfl, by omega, fun _ => by omega, rfl⟩
      case round =>
        obtain ⟨k, rfl, hk, hy, hwr⟩ := hrel
        subst hwr
        by_cases h4 : k < 4
        · have h4' : (k : Int) < 4 := by omega
          have hX := HX.out k h4
          have hc := rheld_any k (n / 32) hz0 w
          generalize heldP k (n / 32) = r at *
          by_cases hm : n % 2 = 1 ∧ n % 32 / 2 = k
          · have HG : Hid (readP n = (n % 32 / 2, n / 32, 0)) := HP.out.1 ⟨hm.1, by omega⟩
            have HY : Hid (n % 32 / 2 = k) := hm.2
            have e1 : r.1 = n := hX.2 hm
            clear hX hm hy
            go_wp2_with fail
            refine hc.mono ?_
            rintro e w1 ⟨rfl, rfl⟩
            clear hc
            go_wp2
            go_ret3
            exact ⟨by rw [HG.out, HY.out]; rfl, rfl⟩
          · have e1 : (r.1 == n) = false := by
              have : ¬ r.1 = n := fun e => hm (hX.1 e)
              simpa using this
            have HY : Hid (n % 2 = 1 → ((k + 1 : Nat) : Int) ≤ n % 32 / 2) := fun h1 => by
              have := hy h1
              have : ¬ n % 32 / 2 = k := fun e => hm ⟨h1, e⟩
              omega
            clear hX hm hy
            go_wp2_with fail
            refine hc.mono ?_
            rintro e w1 ⟨rfl, rfl⟩
            clear hc
            go_wp2
            go_roundw
            case rel => exact ⟨k + 1, by go_num, by omega, HY.out, by first | rfl | trivial⟩
            case measure => simp [intOf]; omega
        · have h4' : ¬ (k : Int) < 4 := by omega
          have HG : Hid (readP n = (0, 0, 3)) := HP.out.2 (fun hh => by have := hy hh.1; omega)
          clear hy
          go_wp2
          go_ret3
          exact ⟨by rw [HG.out]; rfl, rfl⟩



theorem readP_v {n : Int} (hn : 0 ≤ n) : 0 ≤ (readP n).2.1 := by
  unfold readP
  repeat' split
  all_goals (simp only; omega)

/-- Held of a word's version, by an owner that may be. -/
theorem heldP_in {o v : Int} (ho : 0 ≤ o ∧ o < 4) (hv : v ≤ 1099511627776) : heldP o v = (v * 32 + o * 2 + 1, 0) := by unfold heldP; rw [if_pos ⟨ho, hv⟩]
theorem freeP_in {v : Int} (hv : v ≤ 1099511627776) : freeP v = (v * 32, 0) := by unfold freeP; rw [if_pos hv]

theorem readP_ver {n : Int} (hn : 0 ≤ n) (h : (readP n).2.2 = 0) : (readP n).2.1 ≤ 1099511627776 := by
  obtain ⟨h1, h2, _⟩ := readP_ok hn h
  omega

theorem rlock_any (n o : Int) (hn : 0 ≤ n ∧ n < 18446744073709551616) (w : World) : Calls Tryd.prog 53 #[.int .u64 n, .int .i64 o] w fun e w' => e = .returned (two (lockP n o)) ∧ w = w' := by
  have hr := rread_any n hn w
  have he := readP_err n
  have hvv := readP_v hn.1
  have hve := readP_ver hn.1
  have ho := rowner_any o w
  unfold lockP
  generalize readP n = r at *
  obtain ⟨r1, r2, r3⟩ := r
  simp only at he hr hvv hve ⊢
  rcases he with rfl | rfl
  · replace hve := hve rfl
    rw [if_neg (by decide)]
    by_cases h4 : 0 ≤ o ∧ o < 4
    · rw [if_neg (fun hh => hh h4)]
      rw [decide_eq_true h4] at ho
      by_cases h1 : r1 = o
      · rw [if_pos h1]
        subst h1
        go_enter Tryd.func53, Tryd.ntmps53
        go_wp2_with fail
        refine hr.mono ?_
        rintro e w1 ⟨rfl, rfl⟩
        clear hr
        go_wp2_with fail
        refine ho.mono ?_
        rintro e w1 ⟨rfl, rfl⟩
        clear ho
        go_wp2
        go_ret2
        exact ⟨by simp, rfl⟩
      · rw [if_neg h1]
        have h1' : (r1 == o) = false := by simpa using h1
        by_cases h2 : 0 ≤ r1
        · rw [if_pos h2]
          go_enter Tryd.func53, Tryd.ntmps53
          go_wp2_with fail
          refine hr.mono ?_
          rintro e w1 ⟨rfl, rfl⟩
          clear hr
          go_wp2_with fail
          refine ho.mono ?_
          rintro e w1 ⟨rfl, rfl⟩
          clear ho
          go_wp2
          go_ret2
          exact ⟨by simp, rfl⟩
        · rw [if_neg h2]
          have h2' : decide (0 ≤ r1) = false := decide_eq_false h2
          have hh := rheld_any o r2 hvv w
          rw [heldP_in h4 hve] at hh
          go_enter Tryd.func53, Tryd.ntmps53
          go_wp2_with fail
          refine hr.mono ?_
          rintro e w1 ⟨rfl, rfl⟩
          clear hr
          go_wp2_with fail
          refine ho.mono ?_
          rintro e w1 ⟨rfl, rfl⟩
          clear ho
          go_wp2_with fail
          refine hh.mono ?_
          rintro e w1 ⟨rfl, rfl⟩
          go_wp2
          go_ret2
          exact ⟨by simp, rfl⟩
    · rw [if_pos h4]
      rw [decide_eq_false h4] at ho
      go_enter Tryd.func53, Tryd.ntmps53
      go_wp2_with fail
      refine hr.mono ?_
      rintro e w1 ⟨rfl, rfl⟩
      clear hr
      go_wp2_with fail
      refine ho.mono ?_
      rintro e w1 ⟨rfl, rfl⟩
      clear ho
      go_wp2
      go_ret2
      exact ⟨by simp, rfl⟩
  · rw [if_pos (by decide)]
    go_enter Tryd.func53, Tryd.ntmps53
    go_wp2_with fail
    refine hr.mono ?_
    rintro e w1 ⟨rfl, rfl⟩
    clear hr
    go_wp2
    go_ret2
    exact ⟨by simp, rfl⟩

theorem runlock_any (n o v : Int) (hn : 0 ≤ n ∧ n < 18446744073709551616) (hv : 0 ≤ v) (w : World) : Calls Tryd.prog 54 #[.int .u64 n, .int .i64 o, .int .u64 v] w fun e w' => e = .returned (two (unlockP n o v)) ∧ w = w' := by
  have hr := rread_any n hn w
  have he := readP_err n
  have ho := rowner_any o w
  unfold unlockP
  generalize readP n = r at *
  obtain ⟨r1, r2, r3⟩ := r
  simp only at he hr ⊢
  rcases he with rfl | rfl
  · rw [if_neg (by decide)]
    by_cases h4 : 0 ≤ o ∧ o < 4
    · rw [decide_eq_true h4] at ho
      by_cases h6 : 1099511627776 < v
      · rw [if_pos (.inr h6)]
        go_enter Tryd.func54, Tryd.ntmps54
        go_wp2_with fail
        refine hr.mono ?_
        rintro e w1 ⟨rfl, rfl⟩
        clear hr
        go_wp2_with fail
        refine ho.mono ?_
        rintro e w1 ⟨rfl, rfl⟩
        clear ho
        go_wp2
        go_ret2
        exact ⟨by simp, rfl⟩
      · have hor : ¬ (¬ (0 ≤ o ∧ o < 4) ∨ 1099511627776 < v) := by omega
        have h6' : decide (1099511627776 < v) = false := decide_eq_false h6
        rw [if_neg hor]
        by_cases h1 : r1 = o
        · by_cases h2 : v < r2
          · rw [if_pos (.inr h2)]
            subst h1
            go_enter Tryd.func54, Tryd.ntmps54
            go_wp2_with fail
            refine hr.mono ?_
            rintro e w1 ⟨rfl, rfl⟩
            clear hr
            go_wp2_with fail
            refine ho.mono ?_
            rintro e w1 ⟨rfl, rfl⟩
            clear ho
            go_wp2
            go_ret2
            exact ⟨by simp, rfl⟩
          · have h2' : decide (v < r2) = false := decide_eq_false h2
            rw [if_neg (by intro hh; omega)]
            subst h1
            have hh := rfree_any v hv w
            rw [freeP_in (by omega)] at hh
            go_enter Tryd.func54, Tryd.ntmps54
            go_wp2_with fail
            refine hr.mono ?_
            rintro e w1 ⟨rfl, rfl⟩
            clear hr
            go_wp2_with fail
            refine ho.mono ?_
            rintro e w1 ⟨rfl, rfl⟩
            clear ho
            go_wp2_with fail
            refine hh.mono ?_
            rintro e w1 ⟨rfl, rfl⟩
            clear hh
            go_wp2
            go_ret2
            exact ⟨by simp, rfl⟩
        · have h1' : (r1 == o) = false := by simpa using h1
          rw [if_pos (.inl h1)]
          go_enter Tryd.func54, Tryd.ntmps54
          go_wp2_with fail
          refine hr.mono ?_
          rintro e w1 ⟨rfl, rfl⟩
          clear hr
          go_wp2_with fail
          refine ho.mono ?_
          rintro e w1 ⟨rfl, rfl⟩
          clear ho
          go_wp2
          go_ret2
          exact ⟨by simp, rfl⟩
    · rw [decide_eq_false h4] at ho
      rw [if_pos (.inl h4)]
      go_enter Tryd.func54, Tryd.ntmps54
      go_wp2_with fail
      refine hr.mono ?_
      rintro e w1 ⟨rfl, rfl⟩
      clear hr
      go_wp2_with fail
      refine ho.mono ?_
      rintro e w1 ⟨rfl, rfl⟩
      clear ho
      go_wp2
      go_ret2
      exact ⟨by simp, rfl⟩
  · rw [if_pos (by decide)]
    go_enter Tryd.func54, Tryd.ntmps54
    go_wp2_with fail
    refine hr.mono ?_
    rintro e w1 ⟨rfl, rfl⟩
    clear hr
    go_wp2
    go_ret2
    exact ⟨by simp, rfl⟩

theorem rrestore_any (n o : Int) (hn : 0 ≤ n ∧ n < 18446744073709551616) (w : World) : Calls Tryd.prog 55 #[.int .u64 n, .int .i64 o] w fun e w' => e = .returned (two (restoreP n o)) ∧ w = w' := by
  have hr := rread_any n hn w
  have he := readP_err n
  have hvv := readP_v hn.1
  have hve := readP_ver hn.1
  have ho := rowner_any o w
  unfold restoreP
  generalize readP n = r at *
  obtain ⟨r1, r2, r3⟩ := r
  simp only at he hr hvv hve ⊢
  rcases he with rfl | rfl
  · replace hve := hve rfl
    rw [if_neg (by decide)]
    by_cases h4 : 0 ≤ o ∧ o < 4
    · rw [decide_eq_true h4] at ho
      rw [if_neg (fun hh => hh h4)]
      by_cases h1 : r1 = o
      · rw [if_neg (fun hh => hh h1)]
        subst h1
        have hh := rfree_any r2 hvv w
        rw [freeP_in hve] at hh
        go_enter Tryd.func55, Tryd.ntmps55
        go_wp2_with fail
        refine hr.mono ?_
        rintro e w1 ⟨rfl, rfl⟩
        clear hr
        go_wp2_with fail
        refine ho.mono ?_
        rintro e w1 ⟨rfl, rfl⟩
        clear ho
        go_wp2_with fail
        refine hh.mono ?_
        rintro e w1 ⟨rfl, rfl⟩
        clear hh
        go_wp2
        go_ret2
        exact ⟨by simp, rfl⟩
      · have h1' : (r1 == o) = false := by simpa using h1
        rw [if_pos h1]
        go_enter Tryd.func55, Tryd.ntmps55
        go_wp2_with fail
        refine hr.mono ?_
        rintro e w1 ⟨rfl, rfl⟩
        clear hr
        go_wp2_with fail
        refine ho.mono ?_
        rintro e w1 ⟨rfl, rfl⟩
        clear ho
        go_wp2
        go_ret2
        exact ⟨by simp, rfl⟩
    · rw [decide_eq_false h4] at ho
      rw [if_pos h4]
      go_enter Tryd.func55, Tryd.ntmps55
      go_wp2_with fail
      refine hr.mono ?_
      rintro e w1 ⟨rfl, rfl⟩
      clear hr
      go_wp2_with fail
      refine ho.mono ?_
      rintro e w1 ⟨rfl, rfl⟩
      clear ho
      go_wp2
      go_ret2
      exact ⟨by simp, rfl⟩
  · rw [if_pos (by decide)]
    go_enter Tryd.func55, Tryd.ntmps55
    go_wp2_with fail
    refine hr.mono ?_
    rintro e w1 ⟨rfl, rfl⟩
    clear hr
    go_wp2
    go_ret2
    exact ⟨by simp, rfl⟩

end Go.Proofs.YthkphhjhgkclfaaDoor
