/-
  THE DOCUMENT's MANAGER (rowlockref12): New, may, runs, Began, Opened, Passed, Ended BY THEIR CONTRACTS.
-/
import Derived.Test.YtgnfonimnlejbaaMgrOps
import Derived.BigRegion
namespace Go.Proofs.Ytgnfonimnlejbaa
set_option linter.unusedVariables false
set_option linter.unusedSimpArgs false
open Go.RowKit

abbrev RMObj (w : World) (b : Nat) (M : MD) : Prop := MCell 72 (.int .u8 M.k) w b M
def RMPost (b : Nat) (w : World) (r : Int × MD) (x : Ending) (w' : World) : Prop := x = .returned (.int .i64 r.1) ∧ RMObj w' b r.2 ∧ Touch w w' [b]
theorem RMPost.keep {b : Nat} {w : World} {M : MD} (e : Int) (h : RMObj w b M) : RMPost b w (e, M) (.returned (.int .i64 e)) w := ⟨rfl, h, Touch.refl _ _⟩

theorem rmnew_ok (k : Int) (h : k = 1 ∨ k = 2 ∨ k = 3) (w : World) : Calls Try.prog 24 #[.int .u8 k] w fun x w' => x = .returned (.pointer (some ⟨w.heap.size, 0, none⟩)) ∧ RMObj w' w.heap.size (newM k) ∧ Touch w w' [] := by
  rcases h with rfl | rfl | rfl
  all_goals
    go_enter Try.func24, Try.ntmps24
    go_wp2
    go_ret
    exact ⟨rfl, ⟨heap_alloc_new _ _⟩, (Touch.refl _ _).alloc _⟩

theorem rmay_ok (b i : Nat) (hi : i < 4) (w : World) : Calls Try.prog 37 #[.pointer (some ⟨b, 0, none⟩), .int .i64 i] w fun x w' => x = .returned (.int .i64 0) ∧ w = w' := by
  have h0 : ¬ ((i : Int) < 0) := by omega
  have h1 : (i : Int) < 4 := by omega
  go_enter Try.func37, Try.ntmps37
  go_wp2
  go_ret
  exact ⟨rfl, rfl⟩

theorem rmay_no (b : Nat) (th : Int) (h : ¬ (0 ≤ th ∧ th < 4)) (w : World) : Calls Try.prog 37 #[.pointer (some ⟨b, 0, none⟩), .int .i64 th] w fun x w' => x = .returned (.int .i64 2) ∧ w = w' := by
  by_cases h0 : th < 0
  · go_enter Try.func37, Try.ntmps37
    go_wp2
    go_ret
    exact ⟨rfl, rfl⟩
  · have h1 : (4 : Int) ≤ th := by omega
    go_enter Try.func37, Try.ntmps37
    go_wp2
    go_ret
    exact ⟨rfl, rfl⟩

theorem rmruns_ok (b i : Nat) (hi : i < 4) (M : MD) (w : World) (h : RMObj w b M) : Calls Try.prog 38 #[.pointer (some ⟨b, 0, none⟩), .int .i64 i] w fun x w' => x = .returned (.int .i64 (if (M.t i).runs = true then 0 else 8)) ∧ w = w' := by
  have c0 := (h.at i hi).c0
  have h0 : 0 ≤ (i : Int) := by omega
  have h1 : (i : Int) < 4 := by omega
  clear h
  generalize (M.t i).runs = r at *
  cases r with
  | true =>
    go_enter Try.func38, Try.ntmps38
    go_wp2_with fail
    refine (rmay_ok b i hi w).mono ?_
    rintro e w1 ⟨rfl, rfl⟩
    go_wp2
    go_ret
    exact ⟨rfl, rfl⟩
  | false =>
    go_enter Try.func38, Try.ntmps38
    go_wp2_with fail
    refine (rmay_ok b i hi w).mono ?_
    rintro e w1 ⟨rfl, rfl⟩
    go_wp2
    go_ret
    exact ⟨rfl, rfl⟩

theorem rmruns_no (b : Nat) (th : Int) (h : ¬ (0 ≤ th ∧ th < 4)) (w : World) : Calls Try.prog 38 #[.pointer (some ⟨b, 0, none⟩), .int .i64 th] w fun x w' => x = .returned (.int .i64 2) ∧ w = w' := by
  go_enter Try.func38, Try.ntmps38
  go_wp2_with fail
  refine (rmay_no b th h w).mono ?_
  rintro e w1 ⟨rfl, rfl⟩
  go_wp2
  go_ret
  exact ⟨rfl, rfl⟩

set_option maxRecDepth 100000 in
set_option maxHeartbeats 1600000 in
theorem rmpassed_ok (b i : Nat) (hi : i < 4) (M : MD) (hr : (M.t i).runs = true) (w : World) (h : RMObj w b M) :
    Calls Try.prog 35 #[.pointer (some ⟨b, 0, none⟩), .int .i64 i] w (RMPost b w (0, M.put i (stopT (M.t i)))) := by
  have R := HidC.mk (rmruns_ok b i hi M w h)
  obtain ⟨c0, c1, c2, c3, c4, f⟩ := h.at i hi
  have f2 := f (1 + i * 5 + 2)
  have f1 := f (1 + i * 5 + 1)
  have h0 : 0 ≤ (i : Int) := by omega
  have h1 : (i : Int) < 4 := by omega
  have HO : Hid _ := ((h.set2 i hi 0).set1 i hi false).same (M' := M.put i (stopT (M.t i))) (fun j => by simp only [MD.put_t, stopT]; split <;> simp) rfl
  have HT : Hid _ := ((Touch.refl w [b]).setCell (p := ⟨b, 1 + i * 5 + 2, none⟩) (.inl (by simp)) (.int .i64 0)).setCell (p := ⟨b, 1 + i * 5 + 1, none⟩) (.inl (by simp)) (.bool false)
  rw [hr, if_pos rfl] at R
  clear h hr f c0 c3 c4
  go_enter Try.func35, Try.ntmps35
  go_wp2_with fail
  refine R.out.mono ?_
  rintro e w1 ⟨rfl, rfl⟩
  clear R
  go_wp2_with fail
  go_region
  go_wp2
  go_ret
  exact ⟨rfl, HO.out.touch (Touch.refl _ []).drew (by simp), HT.out.drew⟩

set_option maxRecDepth 100000 in
set_option maxHeartbeats 1600000 in
theorem rmended_ok (b i : Nat) (hi : i < 4) (M : MD) (hr : (M.t i).runs = true) (w : World) (h : RMObj w b M) :
    Calls Try.prog 36 #[.pointer (some ⟨b, 0, none⟩), .int .i64 i] w (RMPost b w (0, M.put i zeroT)) := by
  have R := HidC.mk (rmruns_ok b i hi M w h)
  obtain ⟨c0, c1, c2, c3, c4, f⟩ := h.at i hi
  have f0 := f (1 + i * 5)
  have f1 := f (1 + i * 5 + 1)
  have f2 := f (1 + i * 5 + 2)
  have f3 := f (1 + i * 5 + 3)
  have f4 := f (1 + i * 5 + 4)
  have h0 : 0 ≤ (i : Int) := by omega
  have h1 : (i : Int) < 4 := by omega
  have hh := ((((h.set0 i hi false).set1 i hi false).set2 i hi 0).set3 i hi 0).set4 i hi 0
  have HO : Hid _ := hh.same (M' := M.put i zeroT) (fun j => by simp only [MD.put_t]; split <;> simp_all) rfl
  have HT : Hid _ := (((((Touch.refl w [b]).setCell (p := ⟨b, 1 + i * 5, none⟩) (.inl (by simp)) (.bool false)).setCell (p := ⟨b, 1 + i * 5 + 1, none⟩) (.inl (by simp)) (.bool false)).setCell (p := ⟨b, 1 + i * 5 + 2, none⟩) (.inl (by simp)) (.int .i64 0)).setCell (p := ⟨b, 1 + i * 5 + 3, none⟩) (.inl (by simp)) (.int .i64 0)).setCell (p := ⟨b, 1 + i * 5 + 4, none⟩) (.inl (by simp)) (.int .i64 0)
  rw [hr, if_pos rfl] at R
  clear h hr f hh
  go_enter Try.func36, Try.ntmps36
  go_wp2_with fail
  refine R.out.mono ?_
  rintro e w1 ⟨rfl, rfl⟩
  clear R
  go_wp2
  go_ret
  exact ⟨rfl, HO.out, HT.out⟩

set_option maxRecDepth 100000 in
set_option maxHeartbeats 1600000 in
theorem rmopened_ok (b i : Nat) (hi : i < 4) (M : MD) (hr : (M.t i).runs = true) (g0 : 0 ≤ (M.t i).merit) (g1 : (M.t i).merit ≤ 1000) (w : World) (h : RMObj w b M) :
    Calls Try.prog 33 #[.pointer (some ⟨b, 0, none⟩), .int .i64 i] w (RMPost b w (0, M.put i (openT (M.t i)))) := by
  have R := HidC.mk (rmruns_ok b i hi M w h)
  obtain ⟨c0, c1, c2, c3, c4, f⟩ := h.at i hi
  have f3 := f (1 + i * 5 + 3)
  have h0 : 0 ≤ (i : Int) := by omega
  have h1 : (i : Int) < 4 := by omega
  rw [hr, if_pos rfl] at R
  by_cases hlt : (M.t i).merit < 1000
  · have HO : Hid _ := (h.set3 i hi ((M.t i).merit + 1)).same (M' := M.put i (openT (M.t i))) (fun j => by simp only [MD.put_t, openT]; split <;> simp; omega) rfl
    have HT : Hid _ := (Touch.refl w [b]).setCell (p := ⟨b, 1 + i * 5 + 3, none⟩) (.inl (by simp)) (.int .i64 ((M.t i).merit + 1))
    have hlt' : decide ((M.t i).merit < 1000) = true := decide_eq_true hlt
    clear h hr f c0 c1 c2 c4
    obtain ⟨m, hm⟩ : ∃ m, m = (M.t i).merit := ⟨_, rfl⟩
    rw [← hm] at c3 hlt hlt' g0 g1 HO HT
    clear hm
    go_enter Try.func33, Try.ntmps33
    go_wp2_with fail
    refine R.out.mono ?_
    rintro e w1 ⟨rfl, rfl⟩
    clear R
    go_wp2_with fail
    go_region
    go_wp2
    go_ret
    exact ⟨rfl, HO.out.touch (Touch.refl _ []).drew (by simp), HT.out.drew⟩
  · have hm : (M.t i).merit = 1000 := by omega
    have hlt' : decide ((M.t i).merit < 1000) = false := decide_eq_false hlt
    have HO : Hid (RMObj w b (M.put i (openT (M.t i)))) := h.same (M' := M.put i (openT (M.t i))) (fun j => by
      simp only [MD.put_t]
      split
      · rename_i e
        subst e
        generalize M.t j = x at hm ⊢
        obtain ⟨x0, x1, x2, x3, x4⟩ := x
        simp only at hm
        subst hm
        rfl
      · rfl) rfl
    rw [hm] at c3
    clear h hr f c0 c1 c2 c4 hlt hlt' g0 g1 hm
    go_enter Try.func33, Try.ntmps33
    go_wp2_with fail
    refine R.out.mono ?_
    rintro e w1 ⟨rfl, rfl⟩
    clear R
    go_wp2
    go_ret
    exact ⟨rfl, HO.out, Touch.refl _ _⟩

theorem rmopened_no (b : Nat) (M : MD) (th : Int) (hth : ¬ (0 ≤ th ∧ th < 4)) (w : World) (h : RMObj w b M) :
    Calls Try.prog 33 #[.pointer (some ⟨b, 0, none⟩), .int .i64 th] w (RMPost b w (2, M)) := by
  go_enter Try.func33, Try.ntmps33
  go_wp2_with fail
  refine (rmruns_no b th hth w).mono ?_
  rintro e w1 ⟨rfl, rfl⟩
  go_wp2
  go_ret
  exact RMPost.keep _ h

theorem rmopened_off (b i : Nat) (hi : i < 4) (M : MD) (hr : (M.t i).runs = false) (w : World) (h : RMObj w b M) :
    Calls Try.prog 33 #[.pointer (some ⟨b, 0, none⟩), .int .i64 i] w (RMPost b w (8, M)) := by
  have R := HidC.mk (rmruns_ok b i hi M w h)
  rw [hr, if_neg (by decide)] at R
  go_enter Try.func33, Try.ntmps33
  go_wp2_with fail
  refine R.out.mono ?_
  rintro e w1 ⟨rfl, rfl⟩
  clear R
  go_wp2
  go_ret
  exact RMPost.keep _ h
theorem rmpassed_no (b : Nat) (M : MD) (th : Int) (hth : ¬ (0 ≤ th ∧ th < 4)) (w : World) (h : RMObj w b M) :
    Calls Try.prog 35 #[.pointer (some ⟨b, 0, none⟩), .int .i64 th] w (RMPost b w (2, M)) := by
  go_enter Try.func35, Try.ntmps35
  go_wp2_with fail
  refine (rmruns_no b th hth w).mono ?_
  rintro e w1 ⟨rfl, rfl⟩
  go_wp2
  go_ret
  exact RMPost.keep _ h

theorem rmpassed_off (b i : Nat) (hi : i < 4) (M : MD) (hr : (M.t i).runs = false) (w : World) (h : RMObj w b M) :
    Calls Try.prog 35 #[.pointer (some ⟨b, 0, none⟩), .int .i64 i] w (RMPost b w (8, M)) := by
  have R := HidC.mk (rmruns_ok b i hi M w h)
  rw [hr, if_neg (by decide)] at R
  go_enter Try.func35, Try.ntmps35
  go_wp2_with fail
  refine R.out.mono ?_
  rintro e w1 ⟨rfl, rfl⟩
  clear R
  go_wp2
  go_ret
  exact RMPost.keep _ h
theorem rmended_no (b : Nat) (M : MD) (th : Int) (hth : ¬ (0 ≤ th ∧ th < 4)) (w : World) (h : RMObj w b M) :
    Calls Try.prog 36 #[.pointer (some ⟨b, 0, none⟩), .int .i64 th] w (RMPost b w (2, M)) := by
  go_enter Try.func36, Try.ntmps36
  go_wp2_with fail
  refine (rmruns_no b th hth w).mono ?_
  rintro e w1 ⟨rfl, rfl⟩
  go_wp2
  go_ret
  exact RMPost.keep _ h

theorem rmended_off (b i : Nat) (hi : i < 4) (M : MD) (hr : (M.t i).runs = false) (w : World) (h : RMObj w b M) :
    Calls Try.prog 36 #[.pointer (some ⟨b, 0, none⟩), .int .i64 i] w (RMPost b w (8, M)) := by
  have R := HidC.mk (rmruns_ok b i hi M w h)
  rw [hr, if_neg (by decide)] at R
  go_enter Try.func36, Try.ntmps36
  go_wp2_with fail
  refine R.out.mono ?_
  rintro e w1 ⟨rfl, rfl⟩
  clear R
  go_wp2
  go_ret
  exact RMPost.keep _ h

theorem rmbegan_no (b : Nat) (M : MD) (th : Int) (again : Bool) (hth : ¬ (0 ≤ th ∧ th < 4)) (w : World) (h : RMObj w b M) :
    Calls Try.prog 32 #[.pointer (some ⟨b, 0, none⟩), .int .i64 th, .bool again] w (RMPost b w (2, M)) := by
  go_enter Try.func32, Try.ntmps32
  go_wp2_with fail
  refine (rmay_no b th hth w).mono ?_
  rintro e w1 ⟨rfl, rfl⟩
  go_wp2
  go_ret
  exact RMPost.keep _ h

theorem rmbegan_off (b i : Nat) (hi : i < 4) (M : MD) (again : Bool) (hr : (M.t i).runs ≠ again) (w : World) (h : RMObj w b M) :
    Calls Try.prog 32 #[.pointer (some ⟨b, 0, none⟩), .int .i64 i, .bool again] w (RMPost b w (8, M)) := by
  have c0 := (h.at i hi).c0
  have h0 : 0 ≤ (i : Int) := by omega
  have h1 : (i : Int) < 4 := by omega
  generalize (M.t i).runs = r at *
  have hr' : (r == again) = false := by simpa using hr
  have hr2 : (r != again) = true := by simpa using hr
  clear hr
  go_enter Try.func32, Try.ntmps32
  go_wp2_with fail
  refine (rmay_ok b i hi w).mono ?_
  rintro e w1 ⟨rfl, rfl⟩
  go_wp2
  go_ret
  exact RMPost.keep _ h

set_option maxRecDepth 100000 in
set_option maxHeartbeats 1600000 in
theorem rmbegan_again (b i : Nat) (hi : i < 4) (M : MD) (hr : (M.t i).runs = true) (w : World) (h : RMObj w b M) :
    Calls Try.prog 32 #[.pointer (some ⟨b, 0, none⟩), .int .i64 i, .bool true] w (RMPost b w (0, M.put i { M.t i with runs := true, waits := false, tries := 0 })) := by
  obtain ⟨c0, c1, c2, c3, c4, f⟩ := h.at i hi
  have f0 := f (1 + i * 5)
  have f1 := f (1 + i * 5 + 1)
  have f2 := f (1 + i * 5 + 2)
  have h0 : 0 ≤ (i : Int) := by omega
  have h1 : (i : Int) < 4 := by omega
  have HO : Hid _ := (((h.set0 i hi true).set1 i hi false).set2 i hi 0).same (M' := M.put i { M.t i with runs := true, waits := false, tries := 0 }) (fun j => by simp only [MD.put_t]; split <;> simp) rfl
  have HT : Hid _ := (((Touch.refl w [b]).setCell (p := ⟨b, 1 + i * 5, none⟩) (.inl (by simp)) (.bool true)).setCell (p := ⟨b, 1 + i * 5 + 1, none⟩) (.inl (by simp)) (.bool false)).setCell (p := ⟨b, 1 + i * 5 + 2, none⟩) (.inl (by simp)) (.int .i64 0)
  rw [hr] at c0
  have R := HidC.mk (rmay_ok b i hi w)
  clear h hr f c3 c4
  go_enter Try.func32, Try.ntmps32
  go_wp2_with fail
  refine R.out.mono ?_
  rintro e w1 ⟨rfl, rfl⟩
  clear R
  go_wp2_with fail
  go_region
  go_wp2
  go_ret
  exact ⟨rfl, HO.out.touch (Touch.refl _ []).drew (by simp), HT.out.drew⟩

set_option maxRecDepth 100000 in
set_option maxHeartbeats 1600000 in
theorem rmbegan_new (b i : Nat) (hi : i < 4) (M : MD) (hr : (M.t i).runs = false) (hn : 0 ≤ M.n) (hn' : M.n < 4611686018427387904) (w : World) (h : RMObj w b M) :
    Calls Try.prog 32 #[.pointer (some ⟨b, 0, none⟩), .int .i64 i, .bool false] w (RMPost b w (0, { M.put i ⟨true, false, 0, 0, M.n + 1⟩ with n := M.n + 1 })) := by
  obtain ⟨c0, c1, c2, c3, c4, f⟩ := h.at i hi
  have f0 := f (1 + i * 5)
  have f1 := f (1 + i * 5 + 1)
  have f2 := f (1 + i * 5 + 2)
  have h0 : 0 ≤ (i : Int) := by omega
  have h1 : (i : Int) < 4 := by omega
  have hh := ((h.set0 i hi true).set1 i hi false).set2 i hi 0
  have HT0 : Hid _ := (((Touch.refl w [b]).setCell (p := ⟨b, 1 + i * 5, none⟩) (.inl (by simp)) (.bool true)).setCell (p := ⟨b, 1 + i * 5 + 1, none⟩) (.inl (by simp)) (.bool false)).setCell (p := ⟨b, 1 + i * 5 + 2, none⟩) (.inl (by simp)) (.int .i64 0)
  have HH : Hid _ := hh
  rw [hr] at c0
  have R := HidC.mk (rmay_ok b i hi w)
  clear h hr f c3 c4 hh
  go_enter Try.func32, Try.ntmps32
  go_wp2_with fail
  refine R.out.mono ?_
  rintro e w1 ⟨rfl, rfl⟩
  clear R
  go_wp2_with fail
  go_region
  clear c0 c1 c2 f0 f1 f2
  have h2 := HH.out.touch (Touch.refl _ []).drew (by simp)
  have HT1 : Hid _ := HT0.out.drew
  clear HH HT0
  generalize (((w.setCell ⟨b, 1 + i * 5, none⟩ (.bool true)).setCell ⟨b, 1 + i * 5 + 1, none⟩ (.bool false)).setCell ⟨b, 1 + i * 5 + 2, none⟩ (.int .i64 0)).drew = w2 at *
  have e1 := h2.ends.2.1
  have g1 := h2.ends.2.2
  have e1' : w2.cell? ⟨b, 21, none⟩ = some (.int .i64 M.n) := e1
  obtain ⟨_, _, _, q3, q4, _⟩ := h2.at i hi
  simp only [MD.put_same] at q3 q4
  have h3 := h2.setN (M.n + 1)
  have e3 := h3.ends.2.1
  have f3 := (h3.at i hi).f (1 + i * 5 + 3)
  have h4 := h3.set3 i hi 0
  have f4 := (h4.at i hi).f (1 + i * 5 + 4)
  have h5 := h4.set4 i hi (M.n + 1)
  have HO : Hid _ := h5.same (M' := { M.put i ⟨true, false, 0, 0, M.n + 1⟩ with n := M.n + 1 }) (fun j => by simp only [MD.put_t]; split <;> simp_all) rfl
  have HT : Hid _ := ((HT1.out.setCell (p := ⟨b, 21, none⟩) (.inl (by simp)) (.int .i64 (M.n + 1))).setCell (p := ⟨b, 1 + i * 5 + 3, none⟩) (.inl (by simp)) (.int .i64 0)).setCell (p := ⟨b, 1 + i * 5 + 4, none⟩) (.inl (by simp)) (.int .i64 (M.n + 1))
  have hne3 : ¬ (21 = 1 + i * 5 + 3) := by omega
  have hne4 : ¬ (21 = 1 + i * 5 + 4) := by omega
  have hne3' : ¬ (1 + i * 5 + 3 = 21) := by omega
  have hne4' : ¬ (1 + i * 5 + 4 = 21) := by omega
  simp only at e3
  clear h2 h3 h4 h5 e1 HT1
  go_wp2_with fail
  go_region
  go_wp2
  go_ret
  exact ⟨rfl, HO.out.touch (Touch.refl _ []).drew (by simp), HT.out.drew⟩

end Go.Proofs.Ytgnfonimnlejbaa
