/-
  THE DOCUMENT's MANAGER: Choose BY ITS CONTRACT.
-/
import Derived.Test.YtgnfonimnlejbaaMgrRef
import Derived.Test.YtgnfonimnlejbaaMgrJudge
namespace Go.Proofs.Ytgnfonimnlejbaa
set_option linter.unusedVariables false
set_option linter.unusedSimpArgs false
open Go.RowKit

def RCPost (b : Nat) (w : World) (r : (Int × Int × Int) × MD) (x : Ending) (w' : World) : Prop :=
  x = .returned (.tuple #[.int .u8 r.1.1, .int .i64 r.1.2.1, .int .i64 r.1.2.2]) ∧ RMObj w' b r.2 ∧ Touch w w' [b]
theorem RCPost.keep {b : Nat} {w : World} {M : MD} (e : Int) (h : RMObj w b M) : RCPost b w ((0, 0, e), M) (.returned (.tuple #[.int .u8 0, .int .i64 0, .int .i64 e])) w := ⟨rfl, h, Touch.refl _ _⟩

theorem rmchoose_no (b : Nat) (M : MD) (th other : Int) (hth : ¬ (0 ≤ th ∧ th < 4)) (w : World) (h : RMObj w b M) :
    Calls Try.prog 34 #[.pointer (some ⟨b, 0, none⟩), .int .i64 th, .int .i64 other] w (RCPost b w ((0, 0, 2), M)) := by
  go_enter Try.func34, Try.ntmps34
  go_wp2_with fail
  refine (rmay_no b th hth w).mono ?_
  rintro e w1 ⟨rfl, rfl⟩
  go_wp2
  go_ret3
  exact RCPost.keep _ h

theorem rmchoose_no2 (b i : Nat) (hi : i < 4) (M : MD) (other : Int) (hth : ¬ (0 ≤ other ∧ other < 4)) (w : World) (h : RMObj w b M) :
    Calls Try.prog 34 #[.pointer (some ⟨b, 0, none⟩), .int .i64 i, .int .i64 other] w (RCPost b w ((0, 0, 2), M)) := by
  go_enter Try.func34, Try.ntmps34
  go_wp2_with fail
  refine (rmay_ok b i hi w).mono ?_
  rintro e w1 ⟨rfl, rfl⟩
  go_wp2_with fail
  refine (rmay_no b other hth w).mono ?_
  rintro e w1 ⟨rfl, rfl⟩
  go_wp2
  go_ret3
  exact RCPost.keep _ h

set_option maxRecDepth 100000 in
theorem rmchoose_off (b i j : Nat) (hi : i < 4) (hj : j < 4) (M : MD) (ho : (M.t i).runs = false ∨ (M.t j).runs = false ∨ (i : Int) = (j : Int)) (w : World) (h : RMObj w b M) :
    Calls Try.prog 34 #[.pointer (some ⟨b, 0, none⟩), .int .i64 i, .int .i64 j] w (RCPost b w ((0, 0, 8), M)) := by
  have c0 := (h.at i hi).c0
  have d0 := (h.at j hj).c0
  have H : Hid (RMObj w b M) := h
  have A := HidC.mk (rmay_ok b i hi w)
  have B := HidC.mk (rmay_ok b j hj w)
  have i0 : 0 ≤ (i : Int) := by omega
  have i1 : (i : Int) < 4 := by omega
  have j0 : 0 ≤ (j : Int) := by omega
  have j1 : (j : Int) < 4 := by omega
  clear h
  generalize (M.t i).runs = r at *
  generalize (M.t j).runs = s at *
  by_cases hij : (i : Int) = (j : Int)
  · have hij' : i = j := by omega
    subst hij'
    clear ho hij B d0 c0
    go_enter Try.func34, Try.ntmps34
    go_wp2_with fail
    refine A.out.mono ?_
    rintro e w1 ⟨rfl, rfl⟩
    go_wp2_with fail
    refine A.out.mono ?_
    rintro e w1 ⟨rfl, rfl⟩
    clear A
    go_wp2
    go_ret3
    exact RCPost.keep _ H.out
  · have hij' : ((i : Int) == (j : Int)) = false := by simpa using hij
    cases r with
    | false =>
      clear ho hij
      go_enter Try.func34, Try.ntmps34
      go_wp2_with fail
      refine A.out.mono ?_
      rintro e w1 ⟨rfl, rfl⟩
      go_wp2_with fail
      refine B.out.mono ?_
      rintro e w1 ⟨rfl, rfl⟩
      clear A B
      go_wp2
      go_ret3
      exact RCPost.keep _ H.out
    | true =>
      have hs : s = false := by simpa [hij] using ho
      subst hs
      clear ho hij
      go_enter Try.func34, Try.ntmps34
      go_wp2_with fail
      refine A.out.mono ?_
      rintro e w1 ⟨rfl, rfl⟩
      go_wp2_with fail
      refine B.out.mono ?_
      rintro e w1 ⟨rfl, rfl⟩
      clear A B
      go_wp2
      go_ret3
      exact RCPost.keep _ H.out

set_option maxRecDepth 100000 in
set_option maxHeartbeats 1600000 in
theorem rmchoose_on (b i j : Nat) (hi : i < 4) (hj : j < 4) (M : MD) (k : Int) (hk : M.k = k) (hk3 : k = 1 ∨ k = 2 ∨ k = 3) (hr : (M.t i).runs = true) (hs : (M.t j).runs = true) (hne : i ≠ j)
    (h0 : 0 ≤ (M.t i).tries) (h1 : (M.t i).tries < 4611686018427387904) (h2 : 0 ≤ (M.t i).merit) (h3 : (M.t i).merit ≤ 1000) (w : World) (h : RMObj w b M) :
    Calls Try.prog 34 #[.pointer (some ⟨b, 0, none⟩), .int .i64 i, .int .i64 j] w (RCPost b w (if killsT k (M.t i) (M.t j) = true then ((2, 0, 0), M) else ((1, ticksT k (M.t i), 0), M.put i (waitT k (M.t i))))) := by
  obtain ⟨c0, c1, c2, c3, c4, f⟩ := h.at i hi
  obtain ⟨d0, d1, d2, d3, d4, _⟩ := h.at j hj
  have hlt := lt_of_heap h.st
  have A := HidC.mk (rmay_ok b i hi w)
  have B := HidC.mk (rmay_ok b j hj w)
  have i0 : 0 ≤ (i : Int) := by omega
  have i1 : (i : Int) < 4 := by omega
  have j0 : 0 ≤ (j : Int) := by omega
  have j1 : (j : Int) < 4 := by omega
  have hij : ¬ (i : Int) = (j : Int) := by omega
  have hij' : ((i : Int) == (j : Int)) = false := by simpa using hij
  have H : Hid (RMObj w b M) := h
  rw [hr] at c0
  rw [hs] at d0
  clear hij
  go_enter Try.func34, Try.ntmps34
  generalize hQ : RCPost b w _ = Q
  have HQ : Hid _ := hQ
  clear hQ
  go_wp2_with fail
  refine A.out.mono ?_
  rintro e w1 ⟨rfl, rfl⟩
  go_wp2_with fail
  refine B.out.mono ?_
  rintro e w1 ⟨rfl, rfl⟩
  clear A B
  go_wp2_with fail
  go_region
  have HT : Hid _ := ((Touch.refl w [b]).alloc (.cells #[.bool true, .bool (M.t j).waits, .int .i64 (M.t j).tries, .int .i64 (M.t j).merit, .int .i64 (M.t j).stamp] 69)).drew
  have H1 : RMObj _ b M := H.out.touch (((Touch.refl w []).alloc (.cells #[.bool true, .bool (M.t j).waits, .int .i64 (M.t j).tries, .int .i64 (M.t j).merit, .int .i64 (M.t j).stamp] 69)).drew) (by simp)
  have hy : ((w.alloc (.cells #[.bool true, .bool (M.t j).waits, .int .i64 (M.t j).tries, .int .i64 (M.t j).merit, .int .i64 (M.t j).stamp] 69)).drew).heap[w.heap.size]? = some (.cells #[.bool true, .bool (M.t j).waits, .int .i64 (M.t j).tries, .int .i64 (M.t j).merit, .int .i64 (M.t j).stamp] 69 (0, 0)) := heap_alloc_new w _
  generalize (w.alloc (.cells #[.bool true, .bool (M.t j).waits, .int .i64 (M.t j).tries, .int .i64 (M.t j).merit, .int .i64 (M.t j).stamp] 69)).drew = W1 at *
  clear c0 c1 c2 c3 c4 d0 d1 d2 d3 d4 H h f hlt
  generalize w.heap.size = q at *
  have y1 : W1.cell? ⟨q, 1, none⟩ = some (.bool (M.t j).waits) := by simp [World.cell?, hy]
  have y3 : W1.cell? ⟨q, 3, none⟩ = some (.int .i64 (M.t j).merit) := by simp [World.cell?, hy]
  have y4 : W1.cell? ⟨q, 4, none⟩ = some (.int .i64 (M.t j).stamp) := by simp [World.cell?, hy]
  clear hy
  obtain ⟨c0, c1, c2, c3, c4, f⟩ := H1.at i hi
  have f1 := f (1 + i * 5 + 1)
  have f2 := f (1 + i * 5 + 2)
  have hk0 := H1.ends.1
  have HM : Hid (RMObj W1 b M) := H1
  have HW : Hid (∀ v : Int, RMObj (W1.setCell ⟨b, 1 + i * 5 + 2, none⟩ (.int .i64 v)) b (M.put i { M.t i with tries := v })) := fun v => H1.set2 i hi v
  have HTW : Hid (∀ v : Int, Touch w (W1.setCell ⟨b, 1 + i * 5 + 2, none⟩ (.int .i64 v)) [b]) := fun v => HT.out.setCell (p := ⟨b, 1 + i * 5 + 2, none⟩) (.inl (by simp)) (.int .i64 v)
  rw [hk] at hk0
  clear f H1 c0
  rcases hk3 with rfl | rfl | rfl
  · by_cases h4 : 4 ≤ (M.t i).tries
    · have hkl : killsT 1 (M.t i) (M.t j) = true := by simp [killsT, h4]
      have HQ' : Hid (RCPost b w ((2, 0, 0), M) = Q) := by have := HQ.out; rw [if_pos hkl] at this; exact this
      clear HQ
      generalize (M.t i).tries = n at *
      have hn0 : decide (0 < n) = true := decide_eq_true (by omega)
      go_wp2_with fail
      go_rounds 1
      all_goals
        go_wp2
        (try go_ret3)
        rw [← HQ'.out]
        exact ⟨rfl, HM.out, HT.out⟩
    · have hkl : ¬ killsT 1 (M.t i) (M.t j) = true := by simp [killsT]; omega
      have HQ' : Hid (RCPost b w ((1, 2 ^ (M.t i).tries.toNat, 0), M.put i { M.t i with tries := (M.t i).tries + 1 }) = Q) := by have := HQ.out; rw [if_neg hkl] at this; exact this
      clear HQ hkl
      obtain ⟨n, hn⟩ : ∃ n, n = (M.t i).tries := ⟨_, rfl⟩
      rw [← hn] at HQ' c2 h0 h1 h4
      clear hn
      have hcase : n = 0 ∨ n = 1 ∨ n = 2 ∨ n = 3 := by omega
      clear h4 h0 h1
      rcases hcase with rfl | rfl | rfl | rfl
      all_goals
        go_wp2_with fail
        go_rounds 4
        all_goals
          go_wp2
          (try go_ret3)
          rw [← HQ'.out]
          exact ⟨rfl, HW.out _, HTW.out _⟩
  · by_cases hkl : (M.t j).merit < (M.t i).merit + (M.t i).tries
    · have hk' : killsT 2 (M.t i) (M.t j) = true := by simp [killsT, hkl]
      have HQ' : Hid (RCPost b w ((2, 0, 0), M) = Q) := by have := HQ.out; rw [if_pos hk'] at this; exact this
      clear HQ hk'
      generalize (M.t i).tries = n at *
      generalize (M.t i).merit = m at *
      generalize (M.t j).merit = y at *
      have hd : decide (y < m + n) = true := decide_eq_true hkl
      go_wp2_with fail
      go_quiet (fail)
      go_wp2
      (try go_ret3)
      rw [← HQ'.out]
      exact ⟨rfl, HM.out.touch (by first | exact (Touch.refl _ []) | exact (Touch.refl _ []).drew | exact (Touch.refl _ []).drewN _) (by simp), by first | exact HT.out | exact HT.out.drew | exact HT.out.drewN _⟩
    · have hk' : ¬ killsT 2 (M.t i) (M.t j) = true := by simp [killsT]; omega
      have HQ' : Hid (RCPost b w ((1, 1, 0), M.put i { M.t i with tries := (M.t i).tries + 1 }) = Q) := by have := HQ.out; rw [if_neg hk'] at this; exact this
      clear HQ hk'
      obtain ⟨n, hn⟩ : ∃ n, n = (M.t i).tries := ⟨_, rfl⟩
      rw [← hn] at HQ' c2 h0 h1 hkl
      clear hn
      generalize (M.t j).merit = y at *
      have hd : decide (y < (M.t i).merit + n) = false := decide_eq_false hkl
      go_wp2_with fail
      go_quiet (fail)
      go_wp2
      (try go_ret3)
      rw [← HQ'.out]
      first
      | exact ⟨rfl, HW.out _, HTW.out _⟩
      | exact ⟨rfl, (HW.out _).touch (Touch.refl _ []).drew (by simp), (HTW.out _).drew⟩
      | exact ⟨rfl, (HW.out _).touch ((Touch.refl _ []).drewN _) (by simp), (HTW.out _).drewN _⟩
  · have hQk : ∀ v : Bool, killsT 3 (M.t i) (M.t j) = v → Hid (RCPost b w (if v = true then ((2, 0, 0), M) else ((1, 1, 0), M.put i { M.t i with tries := (M.t i).tries + 1, waits := true })) = Q) := fun v hv => by
      have := HQ.out
      rw [hv] at this
      exact this
    have HW2 : Hid (∀ v : Int, RMObj ((W1.setCell ⟨b, 1 + i * 5 + 1, none⟩ (.bool true)).setCell ⟨b, 1 + i * 5 + 2, none⟩ (.int .i64 v)) b (M.put i { M.t i with tries := v, waits := true })) := fun v => ((HM.out.set1 i hi true).set2 i hi v).same (fun l => by simp only [MD.put_t]; split <;> simp) rfl
    have HTW2 : Hid (∀ v : Int, Touch w ((W1.setCell ⟨b, 1 + i * 5 + 1, none⟩ (.bool true)).setCell ⟨b, 1 + i * 5 + 2, none⟩ (.int .i64 v)) [b]) := fun v => (HT.out.setCell (p := ⟨b, 1 + i * 5 + 1, none⟩) (.inl (by simp)) (.bool true)).setCell (p := ⟨b, 1 + i * 5 + 2, none⟩) (.inl (by simp)) (.int .i64 v)
    have HM2 : Hid (RMObj (W1.setCell ⟨b, 1 + i * 5 + 1, none⟩ (.bool (M.t i).waits)) b M) := (HM.out.set1 i hi (M.t i).waits).same (fun l => by
      simp only [MD.put_t]
      split
      · rename_i e
        rw [e]
      · rfl) rfl
    have HT2 : Hid (Touch w (W1.setCell ⟨b, 1 + i * 5 + 1, none⟩ (.bool (M.t i).waits)) [b]) := HT.out.setCell (p := ⟨b, 1 + i * 5 + 1, none⟩) (.inl (by simp)) (.bool (M.t i).waits)
    clear HQ HM HW HTW
    by_cases hyw : (M.t j).waits = true
    · have HQ' := hQk true (by simp [killsT, hyw])
      clear hQk HW2 HTW2
      rw [if_pos rfl] at HQ'
      rw [hyw] at y1
      clear hyw
      generalize (M.t i).waits = wi at *
      generalize (M.t i).tries = n at *
      cases wi with
      | true =>
        go_wp2_with fail
        go_quiet (fail)
        go_wp2
        (try go_ret3)
        rw [← HQ'.out]
        exact ⟨rfl, HM2.out.touch (by first | exact (Touch.refl _ []) | exact (Touch.refl _ []).drew | exact (Touch.refl _ []).drewN _) (by simp), by first | exact HT2.out | exact HT2.out.drew | exact HT2.out.drewN _⟩
      | false =>
        go_wp2_with fail
        go_quiet (fail)
        go_wp2
        (try go_ret3)
        rw [← HQ'.out]
        exact ⟨rfl, HM2.out.touch (by first | exact (Touch.refl _ []) | exact (Touch.refl _ []).drew | exact (Touch.refl _ []).drewN _) (by simp), by first | exact HT2.out | exact HT2.out.drew | exact HT2.out.drewN _⟩
    · have hyw' : (M.t j).waits = false := by simpa using hyw
      rw [hyw'] at y1
      by_cases hst : (M.t i).stamp < (M.t j).stamp
      · have HQ' := hQk true (by simp [killsT, hyw', hst])
        clear hQk HW2 HTW2 hyw hyw'
        rw [if_pos rfl] at HQ'
        have hd : decide ((M.t i).stamp < (M.t j).stamp) = true := decide_eq_true hst
        generalize (M.t i).waits = wi at *
        generalize (M.t i).tries = n at *
        generalize (M.t i).stamp = si at *
        generalize (M.t j).stamp = sj at *
        cases wi with
        | true =>
          go_wp2_with fail
          go_quiet (fail)
          go_wp2
          (try go_ret3)
          rw [← HQ'.out]
          exact ⟨rfl, HM2.out.touch (by first | exact (Touch.refl _ []) | exact (Touch.refl _ []).drew | exact (Touch.refl _ []).drewN _) (by simp), by first | exact HT2.out | exact HT2.out.drew | exact HT2.out.drewN _⟩
        | false =>
          go_wp2_with fail
          go_quiet (fail)
          go_wp2
          (try go_ret3)
          rw [← HQ'.out]
          exact ⟨rfl, HM2.out.touch (by first | exact (Touch.refl _ []) | exact (Touch.refl _ []).drew | exact (Touch.refl _ []).drewN _) (by simp), by first | exact HT2.out | exact HT2.out.drew | exact HT2.out.drewN _⟩
      · have HQ' := hQk false (by simp [killsT, hyw']; omega)
        clear hQk HM2 HT2 hyw hyw'
        rw [if_neg (by decide)] at HQ'
        have hd : decide ((M.t i).stamp < (M.t j).stamp) = false := decide_eq_false hst
        obtain ⟨wi, hwi⟩ : ∃ n, n = (M.t i).waits := ⟨_, rfl⟩
        rw [← hwi] at c1
        clear hwi
        obtain ⟨n, hn⟩ : ∃ n, n = (M.t i).tries := ⟨_, rfl⟩
        rw [← hn] at HQ' c2 h0 h1
        clear hn
        obtain ⟨si, hsi⟩ : ∃ n, n = (M.t i).stamp := ⟨_, rfl⟩
        rw [← hsi] at c4 hst hd
        clear hsi
        generalize (M.t j).stamp = sj at *
        cases wi with
        | true =>
          go_wp2_with fail
          go_quiet (fail)
          go_wp2
          (try go_ret3)
          rw [← HQ'.out]
          first
          | exact ⟨rfl, HW2.out _, HTW2.out _⟩
          | exact ⟨rfl, (HW2.out _).touch (Touch.refl _ []).drew (by simp), (HTW2.out _).drew⟩
          | exact ⟨rfl, (HW2.out _).touch ((Touch.refl _ []).drewN _) (by simp), (HTW2.out _).drewN _⟩
        | false =>
          go_wp2_with fail
          go_quiet (fail)
          go_wp2
          (try go_ret3)
          rw [← HQ'.out]
          first
          | exact ⟨rfl, HW2.out _, HTW2.out _⟩
          | exact ⟨rfl, (HW2.out _).touch (Touch.refl _ []).drew (by simp), (HTW2.out _).drew⟩
          | exact ⟨rfl, (HW2.out _).touch ((Touch.refl _ []).drewN _) (by simp), (HTW2.out _).drewN _⟩

end Go.Proofs.Ytgnfonimnlejbaa
