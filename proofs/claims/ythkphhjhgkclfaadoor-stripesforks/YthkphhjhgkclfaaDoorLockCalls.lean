/-
  package lockword's Right, Lock, Unlock, Restore, Passes BY THEIR CONTRACTS.
-/
import Derived.Test.YthkphhjhgkclfaaDoorLockRead
namespace Go.Proofs.YthkphhjhgkclfaaDoor
set_option linter.unusedVariables false
set_option linter.unusedSimpArgs false
open Go.RowKit

def lockP (n o : Int) : Int × Int :=
  if (readP n).2.2 ≠ 0 then (0, 3) else if ¬ (0 ≤ o ∧ o < 4) then (0, 2) else if (readP n).1 = o then (0, 6) else if 0 ≤ (readP n).1 then (0, 7) else ((readP n).2.1 * 32 + o * 2 + 1, 0)
def unlockP (n o v : Int) : Int × Int :=
  if (readP n).2.2 ≠ 0 then (0, 3) else if ¬ (0 ≤ o ∧ o < 4) ∨ 1099511627776 < v then (0, 2) else if (readP n).1 ≠ o ∨ v < (readP n).2.1 then (0, 8) else (v * 32, 0)
def restoreP (n o : Int) : Int × Int :=
  if (readP n).2.2 ≠ 0 then (0, 3) else if ¬ (0 ≤ o ∧ o < 4) then (0, 2) else if (readP n).1 ≠ o then (0, 8) else ((readP n).2.1 * 32, 0)
def passesP (n o v : Int) : Bool := (readP n).2.2 == 0 && ((readP n).1 < 0 || (readP n).1 == o) && decide ((readP n).2.1 ≤ v)

/-- What a word that says anything is. -/
theorem readP_ok {n : Int} (hn : 0 ≤ n) (h : (readP n).2.2 = 0) : n / 32 ≤ 1099511627776 ∧ (readP n).2.1 = n / 32 ∧ (((readP n).1 = -1 ∧ n % 2 = 0 ∧ n % 32 / 2 = 0) ∨ ((readP n).1 = n % 32 / 2 ∧ n % 2 = 1 ∧ 0 ≤ n % 32 / 2 ∧ n % 32 / 2 < 4)) := by
  unfold readP at *
  by_cases h1 : 1099511627776 < n / 32
  · rw [if_pos h1] at h; simp at h
  · rw [if_neg h1] at h ⊢
    by_cases h2 : n % 32 = 0
    · rw [if_pos h2] at h ⊢
      exact ⟨by omega, rfl, .inl ⟨rfl, by omega, by omega⟩⟩
    · rw [if_neg h2] at h ⊢
      by_cases h3 : n % 2 = 1 ∧ n % 32 / 2 < 4
      · rw [if_pos h3] at h ⊢
        exact ⟨by omega, rfl, .inr ⟨rfl, h3.1, by omega, h3.2⟩⟩
      · rw [if_neg h3] at h; simp at h

theorem readP_err (n : Int) : (readP n).2.2 = 0 ∨ (readP n).2.2 = 3 := by
  unfold readP
  repeat' split
  all_goals simp

theorem right_ext (n : Int) (hn : 0 ≤ n ∧ n < 18446744073709551616) (w : World) (S : Sh w) : Calls Tryd.prog 69 #[.int .u64 n] w fun e w' => e = .returned (.bool ((readP n).2.2 == 0)) ∧ Touch w w' [] := by
  have hr := read_ext n hn w S
  generalize readP n = r at *
  go_enter Tryd.func69, Tryd.ntmps69
  go_wp2_with fail
  refine hr.mono ?_
  rintro e w1 ⟨rfl, t1⟩
  go_wp2
  go_ret
  exact ⟨rfl, t1⟩

/-- What asked tells. -/
def askedV (n o : Int) : Value :=
  if (readP n).2.2 ≠ 0 then .tuple #[part3 0 0 0, .int .i64 3] else if ¬ (0 ≤ o ∧ o < 4) then .tuple #[part3 0 0 0, .int .i64 2] else .tuple #[splitV n, .int .i64 0]

theorem asked_ext (n o : Int) (hn : 0 ≤ n ∧ n < 18446744073709551616) (w : World) (S : Sh w) : Calls Tryd.prog 57 #[.int .u64 n, .int .i64 o] w fun e w' => e = .returned (askedV n o) ∧ Touch w w' [] := by
  unfold askedV
  have HT : Hid _ := (Touch.refl w []).alloc (.cells #[.int .u64 0, .int .u64 0, .int .u64 0] 77)
  have HS : Hid _ := S.touch HT.out (by simp)
  have HB : Hid _ := Box.new w 0 0 0
  clear S
  have hr := right_ext n hn _ HS.out
  have ho := isOwner_any o
  by_cases h : (readP n).2.2 = 0
  · rw [h] at hr
    simp only [beq_self_eq_true] at hr
    by_cases h4 : 0 ≤ o ∧ o < 4
    · rw [decide_eq_true h4] at ho
      go_enter Tryd.func57, Tryd.ntmps57
      go_wp2_with fail
      refine hr.mono ?_
      rintro e w1 ⟨rfl, t1⟩
      clear hr
      go_wp2_with fail
      refine (ho _).mono ?_
      rintro e w2 ⟨rfl, e2⟩
      subst e2
      clear ho
      go_wp2_with fail
      refine (split_any n hn w1 (HS.out.touch t1 (by simp))).mono ?_
      rintro e w2 ⟨rfl, t2⟩
      have t12 := HT.out.trans (t1.trans t2 (by simp)) (by simp)
      have hB := HB.out.touch (t1.trans t2 (by simp)) (by simp)
      obtain ⟨b0, b1, b2⟩ := hB.cells
      have hfr := hB.frozen
      unfold splitV
      go_wp2
      refine bodyPost_ret (v := .tuple #[splitV n, .int .i64 0]) ?_ rfl ⟨by simp [h, h4, splitV], ?_⟩
      · rw [results_cell_tmp rfl]
        go_simp
        rfl
      · exact ((t12.setCell (.inr (Nat.le_refl _)) _).setCell (.inr (Nat.le_refl _)) _).setCell (.inr (Nat.le_refl _)) _
    · rw [decide_eq_false h4] at ho
      go_enter Tryd.func57, Tryd.ntmps57
      go_wp2_with fail
      refine hr.mono ?_
      rintro e w1 ⟨rfl, t1⟩
      clear hr
      go_wp2_with fail
      refine (ho _).mono ?_
      rintro e w2 ⟨rfl, e2⟩
      subst e2
      clear ho
      have t12 := HT.out.trans t1 (by simp)
      have hB := HB.out.touch t1 (by simp)
      obtain ⟨b0, b1, b2⟩ := hB.cells
      have hfr := hB.frozen
      go_wp2
      refine bodyPost_ret (v := .tuple #[part3 0 0 0, .int .i64 2]) ?_ rfl ⟨by first | rfl | rw [if_neg (fun hh => hh h), if_pos h4], ?_⟩
      · rw [results_cell_tmp rfl]
        go_simp
      · exact ((t12.setCell (.inr (Nat.le_refl _)) _).setCell (.inr (Nat.le_refl _)) _).setCell (.inr (Nat.le_refl _)) _
  · have hb : ((readP n).2.2 == 0) = false := by simpa using h
    rw [hb] at hr
    go_enter Tryd.func57, Tryd.ntmps57
    go_wp2_with fail
    refine hr.mono ?_
    rintro e w1 ⟨rfl, t1⟩
    clear hr
    have t12 := HT.out.trans t1 (by simp)
    have hB := HB.out.touch t1 (by simp)
    obtain ⟨b0, b1, b2⟩ := hB.cells
    have hfr := hB.frozen
    go_wp2
    refine bodyPost_ret (v := .tuple #[part3 0 0 0, .int .i64 3]) ?_ rfl ⟨by first | rfl | rw [if_pos h], ?_⟩
    · rw [results_cell_tmp rfl]
      go_simp
    · exact ((t12.setCell (.inr (Nat.le_refl _)) _).setCell (.inr (Nat.le_refl _)) _).setCell (.inr (Nat.le_refl _)) _


/-- The parts of a word that says anything. -/
theorem parts_ok {n : Int} (hn : 0 ≤ n) (h : (readP n).2.2 = 0) : ∃ x y z : Int, splitV n = part3 x y z ∧ (readP n).2.1 = z ∧ (0 ≤ z ∧ z ≤ 1099511627776) ∧ ((x = 0 ∧ y = 0 ∧ (readP n).1 = -1) ∨ (x = 1 ∧ 0 ≤ y ∧ y < 4 ∧ (readP n).1 = y)) := by
  obtain ⟨h1, h2, h3⟩ := readP_ok hn h
  refine ⟨n % 2, n % 32 / 2, n / 32, rfl, h2, by omega, ?_⟩
  rcases h3 with ⟨a, b, c⟩ | ⟨a, b, c, d⟩
  · exact .inl ⟨b, c, a⟩
  · exact .inr ⟨b, c, d, a⟩

set_option maxRecDepth 100000 in
theorem lock_ext (n o : Int) (hn : 0 ≤ n ∧ n < 18446744073709551616) (w : World) (S : Sh w) : Calls Tryd.prog 42 #[.int .u64 n, .int .i64 o] w fun e w' => e = .returned (two (lockP n o)) ∧ Touch w w' [] := by
  have ha := asked_ext n o hn w S
  unfold askedV at ha
  unfold lockP
  by_cases h : (readP n).2.2 = 0
  · have hne : ¬ (readP n).2.2 ≠ 0 := fun hh => hh h
    rw [if_neg hne] at ha ⊢
    by_cases h4 : 0 ≤ o ∧ o < 4
    · rw [if_neg (fun hh => hh h4)] at ha ⊢
      obtain ⟨x, y, z, e1, e2, hz, h5⟩ := parts_ok hn.1 h
      rw [e1] at ha
      rw [e2]
      clear h hne e1 e2
      generalize (readP n).1 = who at *
      have hb1 : (x == 1 && y == o) = decide (who = o) := by
        rcases h5 with ⟨rfl, rfl, rfl⟩ | ⟨rfl, _, _, rfl⟩
        · have : ¬ (-1 : Int) = o := by omega
          simp [this]
        · rw [Bool.eq_iff_iff]; simp
      have hb2 : (x == 0 && y == 0) = decide (who = -1) := by
        rcases h5 with ⟨rfl, rfl, rfl⟩ | ⟨rfl, _, _, rfl⟩
        · simp
        · simp
          omega
      have q1 : ∀ W : World, (Op.equalIn 10000 77 (.agg #[.int .u64 x, .int .u64 y, .int .u64 z]) (.agg #[.int .u64 1, .int .u64 o, .int .u64 z])).run Tryd.prog W = .ok (decide (who = o)) W := fun W => by rw [eqParts, hb1]; simp
      have q2 : ∀ W : World, (Op.equalIn 10000 77 (.agg #[.int .u64 x, .int .u64 y, .int .u64 z]) (.agg #[.int .u64 0, .int .u64 0, .int .u64 z])).run Tryd.prog W = .ok (decide (who = -1)) W := fun W => by rw [eqParts, hb2]; simp
      have hwho : who = -1 ∨ 0 ≤ who := by omega
      clear hb1 hb2 h5
      have HS : Hid _ := S
      clear S
      by_cases hm : who = o
      · rw [decide_eq_true hm] at q1
        go_enter Tryd.func42, Tryd.ntmps42
        go_wp2_with fail
        refine ha.mono ?_
        rintro e w1 ⟨rfl, t1⟩
        clear ha
        have HB1 : Hid _ := Box.new w1 x y z
        have HT1 : Hid _ := t1.alloc (.cells #[.int .u64 x, .int .u64 y, .int .u64 z] 77)
        go_wp2_with fail
        refine (held_any o z h4.1 h4.2 _).mono ?_
        rintro e w2 ⟨rfl, t2⟩
        have hB6 : Box (w2.alloc (.cells #[.int .u64 1, .int .u64 o, .int .u64 z] 77)) w1.heap.size x y z := HB1.out.touch (t2.alloc _) (by simp)
        have hB8 := Box.new w2 1 o z
        have HT3 : Hid _ := HT1.out.trans (t2.alloc (.cells #[.int .u64 1, .int .u64 o, .int .u64 z] 77)) (by simp)
        have HB6 : Hid _ := hB6
        have HB8 : Hid _ := hB8
        obtain ⟨c0, c1, c2⟩ := hB6.cells
        obtain ⟨d0, d1, d2⟩ := hB8.cells
        clear HB1 HT1 t1 t2 hB6 hB8
        go_wp2
        go_ret2
        exact ⟨by simp [hm], HT3.out⟩
      · rw [decide_eq_false hm] at q1
        have hnz : ¬ (readP n).1 = o ∨ True := .inr trivial
        clear hnz
        rcases hwho with hw1 | hw1
        · rw [decide_eq_true hw1] at q2
          have hneg : ¬ 0 ≤ who := by omega
          go_enter Tryd.func42, Tryd.ntmps42
          go_wp2_with fail
          refine ha.mono ?_
          rintro e w1 ⟨rfl, t1⟩
          clear ha
          have HB1 : Hid _ := Box.new w1 x y z
          have HT1 : Hid _ := t1.alloc (.cells #[.int .u64 x, .int .u64 y, .int .u64 z] 77)
          go_wp2_with fail
          refine (held_any o z h4.1 h4.2 _).mono ?_
          rintro e w2 ⟨rfl, t2⟩
          have hB6 : Box (w2.alloc (.cells #[.int .u64 1, .int .u64 o, .int .u64 z] 77)) w1.heap.size x y z := HB1.out.touch (t2.alloc _) (by simp)
          have hB8 := Box.new w2 1 o z
          have HT3 : Hid _ := HT1.out.trans (t2.alloc (.cells #[.int .u64 1, .int .u64 o, .int .u64 z] 77)) (by simp)
          have HB6 : Hid _ := hB6
          have HB8 : Hid _ := hB8
          obtain ⟨c0, c1, c2⟩ := hB6.cells
          obtain ⟨d0, d1, d2⟩ := hB8.cells
          clear HB1 HT1 t1 t2 hB6 hB8
          go_wp2_with fail
          refine wp_name fun W hW => ?_
          have hB6 : Box W w1.heap.size x y z := by rw [hW]; exact HB6.out
          have hB8 : Box W w2.heap.size 1 o z := by rw [hW]; exact HB8.out
          have HT : Hid (Touch w W []) := by rw [hW]; exact HT3.out
          clear hW HB6 HB8 HT3 c0 c1 c2 d0 d1 d2
          go_region_held3 (fun w' => w'.cell? ⟨w1.heap.size, 0, none⟩ = some (.int .u64 x) ∧ w'.cell? ⟨w1.heap.size, 1, none⟩ = some (.int .u64 y) ∧ w'.cell? ⟨w1.heap.size, 2, none⟩ = some (.int .u64 z) ∧ Touch W w' []) ((first | exact hB6.held (Touch.refl _ _).drew | exact hB6.held t3)) ((go_at_call 59; refine (free_any _ _).mono ?_; rintro e w5 ⟨rfl, t4⟩; have t3 : Touch W w5 [] := ((Touch.refl _ _).drew).trans t4 (by simp)))
          obtain ⟨d0, d1, d2, _⟩ := hB8.held t3
          have HT5 : Hid (Touch w w5 []) := HT.out.trans t3 (by simp)
          clear hB6 hB8 HT t3
          go_wp2_with fail
          refine (joined_any 1 o z w5 (HS.out.touch HT5.out (by simp)) (by omega) (by omega) (by omega)).mono ?_
          rintro e w6 ⟨rfl, t6⟩
          go_wp2
          go_ret2
          exact ⟨by simp [hm, hneg], HT5.out.trans t6 (by simp)⟩
        · have hw2 : ¬ who = -1 := by omega
          rw [decide_eq_false hw2] at q2
          go_enter Tryd.func42, Tryd.ntmps42
          go_wp2_with fail
          refine ha.mono ?_
          rintro e w1 ⟨rfl, t1⟩
          clear ha
          have HB1 : Hid _ := Box.new w1 x y z
          have HT1 : Hid _ := t1.alloc (.cells #[.int .u64 x, .int .u64 y, .int .u64 z] 77)
          go_wp2_with fail
          refine (held_any o z h4.1 h4.2 _).mono ?_
          rintro e w2 ⟨rfl, t2⟩
          have hB6 : Box (w2.alloc (.cells #[.int .u64 1, .int .u64 o, .int .u64 z] 77)) w1.heap.size x y z := HB1.out.touch (t2.alloc _) (by simp)
          have hB8 := Box.new w2 1 o z
          have HT3 : Hid _ := HT1.out.trans (t2.alloc (.cells #[.int .u64 1, .int .u64 o, .int .u64 z] 77)) (by simp)
          have HB6 : Hid _ := hB6
          have HB8 : Hid _ := hB8
          obtain ⟨c0, c1, c2⟩ := hB6.cells
          obtain ⟨d0, d1, d2⟩ := hB8.cells
          clear HB1 HT1 t1 t2 hB6 hB8
          go_wp2_with fail
          refine wp_name fun W hW => ?_
          have hB6 : Box W w1.heap.size x y z := by rw [hW]; exact HB6.out
          have hB8 : Box W w2.heap.size 1 o z := by rw [hW]; exact HB8.out
          have HT : Hid (Touch w W []) := by rw [hW]; exact HT3.out
          clear hW HB6 HB8 HT3 c0 c1 c2 d0 d1 d2
          go_region_held3 (fun w' => w'.cell? ⟨w1.heap.size, 0, none⟩ = some (.int .u64 x) ∧ w'.cell? ⟨w1.heap.size, 1, none⟩ = some (.int .u64 y) ∧ w'.cell? ⟨w1.heap.size, 2, none⟩ = some (.int .u64 z) ∧ Touch W w' []) ((first | exact hB6.held (Touch.refl _ _).drew | exact hB6.held t3)) ((go_at_call 59; refine (free_any _ _).mono ?_; rintro e w5 ⟨rfl, t4⟩; have t3 : Touch W w5 [] := ((Touch.refl _ _).drew).trans t4 (by simp)))
          obtain ⟨d0, d1, d2, _⟩ := hB8.held t3
          have HT5 : Hid (Touch w w5 []) := HT.out.trans t3 (by simp)
          clear hB6 hB8 HT t3
          go_wp2
          go_ret2
          exact ⟨by simp [hm, hw1], HT5.out⟩
    · rw [if_pos h4] at ha ⊢
      go_enter Tryd.func42, Tryd.ntmps42
      go_wp2_with fail
      refine ha.mono ?_
      rintro e w1 ⟨rfl, t1⟩
      clear ha
      go_wp2
      go_ret2
      exact ⟨by simp, t1.alloc _⟩
  · rw [if_pos h] at ha ⊢
    go_enter Tryd.func42, Tryd.ntmps42
    go_wp2_with fail
    refine ha.mono ?_
    rintro e w1 ⟨rfl, t1⟩
    clear ha
    go_wp2
    go_ret2
    exact ⟨by simp, t1.alloc _⟩

set_option maxRecDepth 100000 in
set_option maxHeartbeats 4000000 in
theorem unlock_ext (n o v : Int) (hn : 0 ≤ n ∧ n < 18446744073709551616) (hv : 0 ≤ v) (w : World) (S : Sh w) : Calls Tryd.prog 44 #[.int .u64 n, .int .i64 o, .int .u64 v] w fun e w' => e = .returned (two (unlockP n o v)) ∧ Touch w w' [] := by
  have ha := asked_ext n o hn w S
  have hc := isVersion_any v
  unfold askedV at ha
  unfold unlockP
  by_cases h : (readP n).2.2 = 0
  · have hne : ¬ (readP n).2.2 ≠ 0 := fun hh => hh h
    rw [if_neg hne] at ha ⊢
    by_cases h4 : 0 ≤ o ∧ o < 4
    · rw [if_neg (fun hh => hh h4)] at ha
      obtain ⟨x, y, z, e1, e2, hz, h5⟩ := parts_ok hn.1 h
      rw [e1] at ha
      rw [e2]
      clear h hne e1 e2
      generalize (readP n).1 = who at *
      have hb1 : (x == 1 && y == o) = decide (who = o) := by
        rcases h5 with ⟨rfl, rfl, rfl⟩ | ⟨rfl, _, _, rfl⟩
        · have : ¬ (-1 : Int) = o := by omega
          simp [this]
        · rw [Bool.eq_iff_iff]; simp
      have q1 : ∀ W : World, (Op.equalIn 10000 77 (.agg #[.int .u64 x, .int .u64 y, .int .u64 z]) (.agg #[.int .u64 1, .int .u64 o, .int .u64 z])).run Tryd.prog W = .ok (decide (who = o)) W := fun W => by rw [eqParts, hb1]; simp
      clear hb1 h5
      have HS : Hid _ := S
      clear S
      by_cases h6 : v ≤ 1099511627776
      · rw [decide_eq_true h6] at hc
        have hor : ¬ (¬ (0 ≤ o ∧ o < 4) ∨ 1099511627776 < v) := by omega
        rw [if_neg hor]
        by_cases hm : who = o
        · rw [decide_eq_true hm] at q1
          by_cases hl : v < z
          · have HR : Hid (who ≠ o ∨ v < z) := .inr hl
            rw [if_pos HR.out]
            go_enter Tryd.func44, Tryd.ntmps44
            go_wp2_with fail
            refine ha.mono ?_
            rintro e w1 ⟨rfl, t1⟩
            clear ha
            have HB : Hid _ := Box.new w1 x y z
            go_wp2_with fail
            refine (hc _).mono ?_
            rintro e w2 ⟨rfl, e2⟩
            clear hc
            subst e2
            go_wp2_with fail
            refine wp_name fun W hW => ?_
            have hB : Box W w1.heap.size x y z := by rw [hW]; exact HB.out
            have HT : Hid (Touch w W []) := by rw [hW]; exact t1.alloc _
            clear hW HB t1
            (first | go_region_held3 (fun w' => w'.cell? ⟨w1.heap.size, 0, none⟩ = some (.int .u64 x) ∧ w'.cell? ⟨w1.heap.size, 1, none⟩ = some (.int .u64 y) ∧ w'.cell? ⟨w1.heap.size, 2, none⟩ = some (.int .u64 z) ∧ Touch W w' []) ((first | exact hB.held (Touch.refl _ _).drew | exact hB.held t3)) ((go_at_call 58; refine (held_any _ _ h4.1 h4.2 _).mono ?_; rintro e w5 ⟨rfl, t2⟩; have t3 : Touch W w5 [] := ((Touch.refl _ _).drew).trans t2 (by simp))) | fail)
            have HT5 : Hid (Touch w w5 []) := HT.out.trans t3 (by simp)
            clear hB HT t3
            go_wp2
            go_ret2
            exact ⟨by simp, HT5.out⟩
          · have HR : Hid (¬ (who ≠ o ∨ v < z)) := by intro hh; omega
            rw [if_neg HR.out]
            have hl' : (decide (v < z)) = false := decide_eq_false hl
            go_enter Tryd.func44, Tryd.ntmps44
            go_wp2_with fail
            refine ha.mono ?_
            rintro e w1 ⟨rfl, t1⟩
            clear ha
            have HB : Hid _ := Box.new w1 x y z
            go_wp2_with fail
            refine (hc _).mono ?_
            rintro e w2 ⟨rfl, e2⟩
            clear hc
            subst e2
            go_wp2_with fail
            refine wp_name fun W hW => ?_
            have hB : Box W w1.heap.size x y z := by rw [hW]; exact HB.out
            have HT : Hid (Touch w W []) := by rw [hW]; exact t1.alloc _
            clear hW HB t1
            (first | go_region_held3 (fun w' => w'.cell? ⟨w1.heap.size, 0, none⟩ = some (.int .u64 x) ∧ w'.cell? ⟨w1.heap.size, 1, none⟩ = some (.int .u64 y) ∧ w'.cell? ⟨w1.heap.size, 2, none⟩ = some (.int .u64 z) ∧ Touch W w' []) ((first | exact hB.held (Touch.refl _ _).drew | exact hB.held t3)) ((go_at_call 58; refine (held_any _ _ h4.1 h4.2 _).mono ?_; rintro e w5 ⟨rfl, t2⟩; have t3 : Touch W w5 [] := ((Touch.refl _ _).drew).trans t2 (by simp))) | fail)
            have HT5 : Hid (Touch w w5 []) := HT.out.trans t3 (by simp)
            clear hB HT t3
            go_wp2_with fail
            refine (free_any v w5).mono ?_
            rintro e w6 ⟨rfl, t6⟩
            go_wp2_with fail
            refine (joined_any 0 0 v w6 (HS.out.touch (HT5.out.trans t6 (by simp)) (by simp)) (by omega) (by omega) (by omega)).mono ?_
            rintro e w7 ⟨rfl, t7⟩
            go_wp2
            go_ret2
            exact ⟨by simp, (HT5.out.trans t6 (by simp)).trans t7 (by simp)⟩
        · rw [decide_eq_false hm] at q1
          have HR : Hid (who ≠ o ∨ v < z) := .inl hm
          rw [if_pos HR.out]
          go_enter Tryd.func44, Tryd.ntmps44
          go_wp2_with fail
          refine ha.mono ?_
          rintro e w1 ⟨rfl, t1⟩
          clear ha
          have HB : Hid _ := Box.new w1 x y z
          go_wp2_with fail
          refine (hc _).mono ?_
          rintro e w2 ⟨rfl, e2⟩
          clear hc
          subst e2
          go_wp2_with fail
          refine wp_name fun W hW => ?_
          have hB : Box W w1.heap.size x y z := by rw [hW]; exact HB.out
          have HT : Hid (Touch w W []) := by rw [hW]; exact t1.alloc _
          clear hW HB t1
          obtain ⟨b0, b1, b2⟩ := hB.cells
          (first | go_region_with ((go_at_call 58; refine (held_any _ _ h4.1 h4.2 _).mono ?_; rintro e w5 ⟨rfl, t2⟩; have t3 : Touch W w5 [] := ((Touch.refl _ _).drew).trans t2 (by simp); obtain ⟨c0, c1, c2, _⟩ := hB.held t3)) | fail)
          all_goals
            have HT5 : Hid (Touch w w5 []) := HT.out.trans t3 (by simp)
            clear hB HT t3
            go_wp2
            go_ret2
            exact ⟨by simp, HT5.out⟩
      · rw [decide_eq_false h6] at hc
        have hor : (¬ (0 ≤ o ∧ o < 4) ∨ 1099511627776 < v) := by omega
        rw [if_pos hor]
        clear q1
        go_enter Tryd.func44, Tryd.ntmps44
        go_wp2_with fail
        refine ha.mono ?_
        rintro e w1 ⟨rfl, t1⟩
        clear ha
        go_wp2_with fail
        refine (hc _).mono ?_
        rintro e w2 ⟨rfl, e2⟩
        subst e2
        go_wp2
        go_ret2
        exact ⟨by simp, t1.alloc _⟩
    · rw [if_pos h4] at ha
      rw [if_pos (.inl h4)]
      go_enter Tryd.func44, Tryd.ntmps44
      go_wp2_with fail
      refine ha.mono ?_
      rintro e w1 ⟨rfl, t1⟩
      clear ha
      go_wp2
      go_ret2
      exact ⟨by simp, t1.alloc _⟩
  · rw [if_pos h] at ha ⊢
    go_enter Tryd.func44, Tryd.ntmps44
    go_wp2_with fail
    refine ha.mono ?_
    rintro e w1 ⟨rfl, t1⟩
    clear ha
    go_wp2
    go_ret2
    exact ⟨by simp, t1.alloc _⟩

theorem restore_ext (n o : Int) (hn : 0 ≤ n ∧ n < 18446744073709551616) (w : World) (S : Sh w) : Calls Tryd.prog 46 #[.int .u64 n, .int .i64 o] w fun e w' => e = .returned (two (restoreP n o)) ∧ Touch w w' [] := by
  have ha := asked_ext n o hn w S
  unfold askedV at ha
  by_cases h : (readP n).2.2 = 0
  · have hne : ¬ (readP n).2.2 ≠ 0 := fun hh => hh h
    rw [if_neg hne] at ha
    by_cases h4 : 0 ≤ o ∧ o < 4
    · rw [if_neg (fun hh => hh h4)] at ha
      have HE : Hid (restoreP n o = unlockP n o (readP n).2.1) := by
        show _ = _
        obtain ⟨_, _, z, _, e2, hz, _⟩ := parts_ok hn.1 h
        have e3 : ¬ (¬ (0 ≤ o ∧ o < 4) ∨ 1099511627776 < (readP n).2.1) := by rw [e2]; omega
        unfold restoreP unlockP
        rw [if_neg hne, if_neg hne, if_neg (fun hh => hh h4), if_neg e3]
        simp [Int.lt_irrefl]
      obtain ⟨x, y, z, e1, e2, hz, h5⟩ := parts_ok hn.1 h
      rw [e1] at ha
      rw [HE.out, e2]
      have HS : Hid _ := S
      clear S h hne e1 e2 h5 HE
      have HU : Hid (∀ W, Sh W → Calls Tryd.prog 44 #[.int .u64 n, .int .i64 o, .int .u64 z] W fun e w' => e = .returned (two (unlockP n o z)) ∧ Touch W w' []) := fun W => unlock_ext n o z hn hz.1 W
      generalize unlockP n o z = r at *
      go_enter Tryd.func46, Tryd.ntmps46
      go_wp2_with fail
      refine ha.mono ?_
      rintro e w1 ⟨rfl, t1⟩
      clear ha
      have HT : Hid _ := t1.alloc (.cells #[.int .u64 x, .int .u64 y, .int .u64 z] 77)
      go_wp2_with fail
      refine (HU.out _ (HS.out.touch HT.out (by simp))).mono ?_
      rintro e w2 ⟨rfl, t2⟩
      go_wp2
      go_ret2
      exact ⟨by simp, HT.out.trans t2 (by simp)⟩
    · have e : restoreP n o = (0, 2) := by unfold restoreP; rw [if_neg hne, if_pos h4]
      rw [if_pos h4] at ha
      rw [e]
      go_enter Tryd.func46, Tryd.ntmps46
      go_wp2_with fail
      refine ha.mono ?_
      rintro e w1 ⟨rfl, t1⟩
      clear ha
      go_wp2
      go_ret2
      exact ⟨by simp, t1.alloc _⟩
  · have e : restoreP n o = (0, 3) := by unfold restoreP; rw [if_pos h]
    rw [if_pos h] at ha
    rw [e]
    go_enter Tryd.func46, Tryd.ntmps46
    go_wp2_with fail
    refine ha.mono ?_
    rintro e w1 ⟨rfl, t1⟩
    clear ha
    go_wp2
    go_ret2
    exact ⟨by simp, t1.alloc _⟩

end Go.Proofs.YthkphhjhgkclfaaDoor
