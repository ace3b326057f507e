/-
  package manager: Began, Opened, Passed, Ended, told and its readers, BY THEIR CONTRACTS.
-/
import Derived.Test.YtgnfonimnlejbaaMgrCalls
namespace Go.Proofs.Ytgnfonimnlejbaa
set_option linter.unusedVariables false
set_option linter.unusedSimpArgs false
open Go.RowKit

/-- What a call leaves that answers an error. -/
def MPost (b : Nat) (w : World) (r : Int × MD) (x : Ending) (w' : World) : Prop := x = .returned (.int .i64 r.1) ∧ MObj w' b r.2 ∧ Touch w w' [b]

theorem MPost.keep {b : Nat} {w : World} {M : MD} (e : Int) (h : MObj w b M) : MPost b w (e, M) (.returned (.int .i64 e)) w := ⟨rfl, h, Touch.refl _ _⟩

/-- What Began comes to. -/
def beganM (M : MD) (th : Int) (again : Bool) : Int × MD :=
  if ¬ (0 ≤ th ∧ th < 4) then (2, M) else if (M.t th.toNat).runs ≠ again then (8, M)
  else if again = true then (0, M.put th.toNat { M.t th.toNat with runs := true, waits := false, tries := 0 })
  else (0, { M.put th.toNat ⟨true, false, 0, 0, M.n + 1⟩ with n := M.n + 1 })

theorem toNat_of {th : Int} (h : 0 ≤ th ∧ th < 4) : ∃ i : Nat, i < 4 ∧ th = (i : Int) ∧ th.toNat = i := ⟨th.toNat, by omega, by omega, rfl⟩

theorem mbegan_no (b : Nat) (M : MD) (th : Int) (again : Bool) (hth : ¬ (0 ≤ th ∧ th < 4)) (w : World) (h : MObj w b M) :
    Calls Try.prog 15 #[.pointer (some ⟨b, 0, none⟩), .int .i64 th, .bool again] w (MPost b w (2, M)) := by
  go_enter Try.func15, Try.ntmps15
  go_wp2_with fail
  refine (mthread_no b th hth w).mono ?_
  rintro e w1 ⟨rfl, rfl⟩
  go_wp2
  go_ret
  exact MPost.keep _ h

theorem mbegan_off (b i : Nat) (hi : i < 4) (M : MD) (again : Bool) (hr : (M.t i).runs ≠ again) (w : World) (h : MObj w b M) :
    Calls Try.prog 15 #[.pointer (some ⟨b, 0, none⟩), .int .i64 i, .bool again] w (MPost b w (8, M)) := by
  have c0 := (h.at i hi).c0
  generalize (M.t i).runs = r at *
  have hr' : (r == again) = false := by simpa using hr
  have hr2 : (r != again) = true := by simpa using hr
  clear hr
  go_enter Try.func15, Try.ntmps15
  go_wp2_with fail
  refine (mthread_ok b i hi w).mono ?_
  rintro e w1 ⟨rfl, rfl⟩
  go_wp2
  go_ret
  exact MPost.keep _ h

set_option maxRecDepth 100000 in
theorem mbegan_again (b i : Nat) (hi : i < 4) (M : MD) (hr : (M.t i).runs = true) (w : World) (h : MObj w b M) :
    Calls Try.prog 15 #[.pointer (some ⟨b, 0, none⟩), .int .i64 i, .bool true] w (MPost b w (0, M.put i { M.t i with runs := true, waits := false, tries := 0 })) := by
  obtain ⟨c0, c1, c2, c3, c4, f⟩ := h.at i hi
  have f0 := f (1 + i * 5)
  rw [hr] at c0
  have HS := HidC.mk (mstop_any b i hi (M.put i { M.t i with runs := true }) _ (h.set0 i hi true))
  have HT0 : Hid _ := (Touch.refl w [b]).setCell (p := ⟨b, 1 + i * 5, none⟩) (.inl (by simp)) (.bool true)
  clear c1 c2 c3 c4 f h
  go_enter Try.func15, Try.ntmps15
  go_wp2_with fail
  refine (mthread_ok b i hi w).mono ?_
  rintro e w1 ⟨rfl, rfl⟩
  go_wp2_with fail
  refine HS.out.mono ?_
  rintro e w2 ⟨rfl, h2, t2⟩
  clear HS
  go_wp2
  go_ret
  exact ⟨rfl, h2.same (fun j => by simp only [MD.put_t]; split <;> simp_all) rfl, HT0.out.trans t2 (fun x hx => .inl hx)⟩

set_option maxRecDepth 100000 in
theorem mbegan_new (b i : Nat) (hi : i < 4) (M : MD) (hr : (M.t i).runs = false) (hn : 0 ≤ M.n) (hn' : M.n < 4611686018427387904) (w : World) (h : MObj w b M) :
    Calls Try.prog 15 #[.pointer (some ⟨b, 0, none⟩), .int .i64 i, .bool false] w (MPost b w (0, { M.put i ⟨true, false, 0, 0, M.n + 1⟩ with n := M.n + 1 })) := by
  obtain ⟨c0, c1, c2, c3, c4, f⟩ := h.at i hi
  have f0 := f (1 + i * 5)
  rw [hr] at c0
  have HS := HidC.mk (mstop_any b i hi (M.put i { M.t i with runs := true }) _ (h.set0 i hi true))
  have HT0 : Hid _ := (Touch.refl w [b]).setCell (p := ⟨b, 1 + i * 5, none⟩) (.inl (by simp)) (.bool true)
  clear c1 c2 c3 c4 f h
  go_enter Try.func15, Try.ntmps15
  go_wp2_with fail
  refine (mthread_ok b i hi w).mono ?_
  rintro e w1 ⟨rfl, rfl⟩
  go_wp2_with fail
  refine HS.out.mono ?_
  rintro e w2 ⟨rfl, h2, t2⟩
  clear HS c0 f0
  have e1 := h2.ends.2.1
  have g1 := h2.ends.2.2
  have e1' : w2.cell? ⟨b, 21, none⟩ = some (.int .i64 M.n) := e1
  obtain ⟨_, _, _, q3, q4, _⟩ := h2.at i hi
  simp only [MD.put_same] at q3 q4
  have h3 := h2.setN (M.n + 1)
  have e3 := h3.ends.2.1
  have f3 := (h3.at i hi).f (1 + i * 5 + 3)
  have h4 := h3.set3 i hi 0
  have f4 := (h4.at i hi).f (1 + i * 5 + 4)
  have h5 := h4.set4 i hi (M.n + 1)
  have HO : Hid _ := h5.same (M' := { M.put i ⟨true, false, 0, 0, M.n + 1⟩ with n := M.n + 1 }) (fun j => by simp only [MD.put_t]; split <;> simp_all) rfl
  have HT : Hid _ := (((HT0.out.trans t2 (fun x hx => .inl hx)).setCell (p := ⟨b, 21, none⟩) (.inl (by simp)) (.int .i64 (M.n + 1))).setCell (p := ⟨b, 1 + i * 5 + 3, none⟩) (.inl (by simp)) (.int .i64 0)).setCell (p := ⟨b, 1 + i * 5 + 4, none⟩) (.inl (by simp)) (.int .i64 (M.n + 1))
  have hne3 : ¬ (21 = 1 + i * 5 + 3) := by omega
  have hne4 : ¬ (21 = 1 + i * 5 + 4) := by omega
  have hne3' : ¬ (1 + i * 5 + 3 = 21) := by omega
  have hne4' : ¬ (1 + i * 5 + 4 = 21) := by omega
  simp only at e3
  clear h2 h3 h4 h5 e1 HT0 t2
  go_wp2
  go_ret
  exact ⟨rfl, HO.out, HT.out⟩

theorem mbegan_any (b : Nat) (M : MD) (th : Int) (again : Bool) (hn : 0 ≤ M.n) (hn' : M.n < 4611686018427387904) (w : World) (h : MObj w b M) :
    Calls Try.prog 15 #[.pointer (some ⟨b, 0, none⟩), .int .i64 th, .bool again] w (MPost b w (beganM M th again)) := by
  unfold beganM
  by_cases hth : 0 ≤ th ∧ th < 4
  · rw [if_neg (fun e => e hth)]
    obtain ⟨i, hi, rfl, e⟩ := toNat_of hth
    rw [e]
    by_cases hr : (M.t i).runs ≠ again
    · rw [if_pos hr]
      exact mbegan_off b i hi M again hr w h
    · rw [if_neg hr]
      have hr' : (M.t i).runs = again := Classical.not_not.1 hr
      cases again with
      | true => rw [if_pos rfl]; exact mbegan_again b i hi M hr' w h
      | false => rw [if_neg (by decide)]; exact mbegan_new b i hi M hr' hn hn' w h
  · rw [if_pos hth]
    exact mbegan_no b M th again hth w h

theorem mbegan_nil (th : Int) (again : Bool) (w : World) :
    Calls Try.prog 15 #[.pointer none, .int .i64 th, .bool again] w fun x w' => x = .returned (.int .i64 1) ∧ w = w' := by
  go_enter Try.func15, Try.ntmps15
  go_wp2_with fail
  refine (mthread_nil th w).mono ?_
  rintro e w1 ⟨rfl, rfl⟩
  go_wp2
  go_ret
  exact ⟨rfl, rfl⟩

/-- What a call comes to that a running thread is needed for. -/
def onM (f : TD → TD) (M : MD) (th : Int) : Int × MD :=
  if ¬ (0 ≤ th ∧ th < 4) then (2, M) else if (M.t th.toNat).runs = false then (8, M) else (0, M.put th.toNat (f (M.t th.toNat)))

def openT (t : TD) : TD := { t with merit := if t.merit + 1 ≤ 1000 then t.merit + 1 else 1000 }
def stopT (t : TD) : TD := { t with tries := 0, waits := false }
def endT (t : TD) : TD := { zeroT with waits := t.waits }

theorem mopened_no (b : Nat) (M : MD) (th : Int) (hth : ¬ (0 ≤ th ∧ th < 4)) (w : World) (h : MObj w b M) :
    Calls Try.prog 16 #[.pointer (some ⟨b, 0, none⟩), .int .i64 th] w (MPost b w (2, M)) := by
  go_enter Try.func16, Try.ntmps16
  go_wp2_with fail
  refine (mrunning_no b th hth w).mono ?_
  rintro e w1 ⟨rfl, rfl⟩
  go_wp2
  go_ret
  exact MPost.keep _ h

theorem mopened_off (b i : Nat) (hi : i < 4) (M : MD) (hr : (M.t i).runs = false) (w : World) (h : MObj w b M) :
    Calls Try.prog 16 #[.pointer (some ⟨b, 0, none⟩), .int .i64 i] w (MPost b w (8, M)) := by
  go_enter Try.func16, Try.ntmps16
  go_wp2_with fail
  refine (mrunning_off b i hi M w h hr).mono ?_
  rintro e w1 ⟨rfl, rfl⟩
  go_wp2
  go_ret
  exact MPost.keep _ h

theorem mopened_nil (th : Int) (w : World) :
    Calls Try.prog 16 #[.pointer none, .int .i64 th] w fun x w' => x = .returned (.int .i64 1) ∧ w = w' := by
  go_enter Try.func16, Try.ntmps16
  go_wp2_with fail
  refine (mrunning_nil th w).mono ?_
  rintro e w1 ⟨rfl, rfl⟩
  go_wp2
  go_ret
  exact ⟨rfl, rfl⟩
theorem mpassed_no (b : Nat) (M : MD) (th : Int) (hth : ¬ (0 ≤ th ∧ th < 4)) (w : World) (h : MObj w b M) :
    Calls Try.prog 17 #[.pointer (some ⟨b, 0, none⟩), .int .i64 th] w (MPost b w (2, M)) := by
  go_enter Try.func17, Try.ntmps17
  go_wp2_with fail
  refine (mrunning_no b th hth w).mono ?_
  rintro e w1 ⟨rfl, rfl⟩
  go_wp2
  go_ret
  exact MPost.keep _ h

theorem mpassed_off (b i : Nat) (hi : i < 4) (M : MD) (hr : (M.t i).runs = false) (w : World) (h : MObj w b M) :
    Calls Try.prog 17 #[.pointer (some ⟨b, 0, none⟩), .int .i64 i] w (MPost b w (8, M)) := by
  go_enter Try.func17, Try.ntmps17
  go_wp2_with fail
  refine (mrunning_off b i hi M w h hr).mono ?_
  rintro e w1 ⟨rfl, rfl⟩
  go_wp2
  go_ret
  exact MPost.keep _ h

theorem mpassed_nil (th : Int) (w : World) :
    Calls Try.prog 17 #[.pointer none, .int .i64 th] w fun x w' => x = .returned (.int .i64 1) ∧ w = w' := by
  go_enter Try.func17, Try.ntmps17
  go_wp2_with fail
  refine (mrunning_nil th w).mono ?_
  rintro e w1 ⟨rfl, rfl⟩
  go_wp2
  go_ret
  exact ⟨rfl, rfl⟩
theorem mended_no (b : Nat) (M : MD) (th : Int) (hth : ¬ (0 ≤ th ∧ th < 4)) (w : World) (h : MObj w b M) :
    Calls Try.prog 21 #[.pointer (some ⟨b, 0, none⟩), .int .i64 th] w (MPost b w (2, M)) := by
  go_enter Try.func21, Try.ntmps21
  go_wp2_with fail
  refine (mrunning_no b th hth w).mono ?_
  rintro e w1 ⟨rfl, rfl⟩
  go_wp2
  go_ret
  exact MPost.keep _ h

theorem mended_off (b i : Nat) (hi : i < 4) (M : MD) (hr : (M.t i).runs = false) (w : World) (h : MObj w b M) :
    Calls Try.prog 21 #[.pointer (some ⟨b, 0, none⟩), .int .i64 i] w (MPost b w (8, M)) := by
  go_enter Try.func21, Try.ntmps21
  go_wp2_with fail
  refine (mrunning_off b i hi M w h hr).mono ?_
  rintro e w1 ⟨rfl, rfl⟩
  go_wp2
  go_ret
  exact MPost.keep _ h

theorem mended_nil (th : Int) (w : World) :
    Calls Try.prog 21 #[.pointer none, .int .i64 th] w fun x w' => x = .returned (.int .i64 1) ∧ w = w' := by
  go_enter Try.func21, Try.ntmps21
  go_wp2_with fail
  refine (mrunning_nil th w).mono ?_
  rintro e w1 ⟨rfl, rfl⟩
  go_wp2
  go_ret
  exact ⟨rfl, rfl⟩

set_option maxRecDepth 100000 in
theorem mopened_ok (b i : Nat) (hi : i < 4) (M : MD) (hr : (M.t i).runs = true) (h0 : 0 ≤ (M.t i).merit) (h1 : (M.t i).merit ≤ 1000) (w : World) (h : MObj w b M) :
    Calls Try.prog 16 #[.pointer (some ⟨b, 0, none⟩), .int .i64 i] w (MPost b w (0, M.put i (openT (M.t i)))) := by
  obtain ⟨c0, c1, c2, c3, c4, f⟩ := h.at i hi
  have f3 := f (1 + i * 5 + 3)
  have HO : Hid (∀ v : Int, MObj (w.setCell ⟨b, 1 + i * 5 + 3, none⟩ (.int .i64 v)) b (M.put i { M.t i with merit := v })) := fun v => h.set3 i hi v
  have HT : Hid (∀ v : Int, Touch w (w.setCell ⟨b, 1 + i * 5 + 3, none⟩ (.int .i64 v)) [b]) := fun v => (Touch.refl w [b]).setCell (p := ⟨b, 1 + i * 5 + 3, none⟩) (.inl (by simp)) (.int .i64 v)
  have HR := HidC.mk (mrunning_ok b i hi M w h hr)
  unfold openT
  clear c0 c1 c2 c4 f h hr
  generalize hm : (M.t i).merit = m at *
  by_cases hlt : m + 1 ≤ 1000
  · rw [if_pos hlt]
    go_enter Try.func16, Try.ntmps16
    go_wp2_with fail
    refine HR.out.mono ?_
    rintro e w1 ⟨rfl, rfl⟩
    clear HR
    go_wp2
    go_ret
    first | exact ⟨rfl, HO.out _, HT.out _⟩ | (have e : min (m + 1) 1000 = m + 1 := by omega; rw [e]; exact ⟨rfl, HO.out _, HT.out _⟩)
  · rw [if_neg hlt]
    go_enter Try.func16, Try.ntmps16
    go_wp2_with fail
    refine HR.out.mono ?_
    rintro e w1 ⟨rfl, rfl⟩
    clear HR
    go_wp2
    go_ret
    first | exact ⟨rfl, HO.out _, HT.out _⟩ | (have e : min (m + 1) 1000 = 1000 := by omega; rw [e]; exact ⟨rfl, HO.out _, HT.out _⟩)

set_option maxRecDepth 100000 in
theorem mpassed_ok (b i : Nat) (hi : i < 4) (M : MD) (hr : (M.t i).runs = true) (w : World) (h : MObj w b M) :
    Calls Try.prog 17 #[.pointer (some ⟨b, 0, none⟩), .int .i64 i] w (MPost b w (0, M.put i (stopT (M.t i)))) := by
  have HS := HidC.mk (mstop_any b i hi M w h)
  have HR := HidC.mk (mrunning_ok b i hi M w h hr)
  clear h hr
  go_enter Try.func17, Try.ntmps17
  go_wp2_with fail
  refine HR.out.mono ?_
  rintro e w1 ⟨rfl, rfl⟩
  clear HR
  go_wp2_with fail
  refine HS.out.mono ?_
  rintro e w2 ⟨rfl, h2, t2⟩
  clear HS
  go_wp2
  go_ret
  exact ⟨rfl, h2, t2⟩

set_option maxRecDepth 100000 in
theorem mended_ok (b i : Nat) (hi : i < 4) (M : MD) (hr : (M.t i).runs = true) (w : World) (h : MObj w b M) :
    Calls Try.prog 21 #[.pointer (some ⟨b, 0, none⟩), .int .i64 i] w (MPost b w (0, M.put i (endT (M.t i)))) := by
  obtain ⟨c0, c1, c2, c3, c4, f⟩ := h.at i hi
  have f0 := f (1 + i * 5)
  have f1 := f (1 + i * 5 + 1)
  have f2 := f (1 + i * 5 + 2)
  have f3 := f (1 + i * 5 + 3)
  have f4 := f (1 + i * 5 + 4)
  have HR := HidC.mk (mrunning_ok b i hi M w h hr)
  have hh := ((((h.set0 i hi false).set1 i hi (M.t i).waits).set2 i hi 0).set3 i hi 0).set4 i hi 0
  have HO : Hid _ := hh.same (M' := M.put i (endT (M.t i))) (fun j => by simp only [MD.put_t, endT]; split <;> simp_all) rfl
  have HT : Hid _ := (((((Touch.refl w [b]).setCell (p := ⟨b, 1 + i * 5, none⟩) (.inl (by simp)) (.bool false)).setCell (p := ⟨b, 1 + i * 5 + 1, none⟩) (.inl (by simp)) (.bool (M.t i).waits)).setCell (p := ⟨b, 1 + i * 5 + 2, none⟩) (.inl (by simp)) (.int .i64 0)).setCell (p := ⟨b, 1 + i * 5 + 3, none⟩) (.inl (by simp)) (.int .i64 0)).setCell (p := ⟨b, 1 + i * 5 + 4, none⟩) (.inl (by simp)) (.int .i64 0)
  clear h hr f hh
  go_enter Try.func21, Try.ntmps21
  go_wp2_with fail
  refine HR.out.mono ?_
  rintro e w1 ⟨rfl, rfl⟩
  clear HR
  go_wp2
  go_ret
  exact ⟨rfl, HO.out, HT.out⟩

end Go.Proofs.Ytgnfonimnlejbaa
