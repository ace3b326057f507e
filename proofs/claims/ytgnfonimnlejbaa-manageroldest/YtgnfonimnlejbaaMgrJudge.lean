/-
  package manager: THE JUDGES' kills AND wait, Choose, Kind, told and its readers, Fork, BY THEIR CONTRACTS.
-/
import Derived.Test.YtgnfonimnlejbaaMgrOps
namespace Go.Proofs.Ytgnfonimnlejbaa
set_option linter.unusedVariables false
set_option linter.unusedSimpArgs false
open Go.RowKit

def killsT (k : Int) (x y : TD) : Bool := if k = 1 then decide (4 ≤ x.tries) else if k = 2 then decide (y.merit < x.merit + x.tries) else (y.waits || decide (x.stamp < y.stamp))
def ticksT (k : Int) (x : TD) : Int := if k = 1 then 2 ^ x.tries.toNat else 1
def waitT (k : Int) (x : TD) : TD := { x with tries := x.tries + 1, waits := if k = 3 then true else x.waits }

theorem pkills_any (x y : TD) (w : World) : Calls Try.prog 55 #[.agg #[], x.val, y.val] w fun e w' => e = .returned (.bool (killsT 1 x y)) ∧ Touch w w' [] := by
  obtain ⟨a0, a1, a2, a3, a4⟩ := x
  obtain ⟨b0, b1, b2, b3, b4⟩ := y
  simp only [killsT, TD.val]
  go_enter Try.func55, Try.ntmps55
  go_wp2
  go_ret
  exact ⟨rfl, (((Touch.refl w []).alloc _).alloc _).alloc _⟩

theorem kkills_any (x y : TD) (h0 : 0 ≤ x.tries) (h1 : x.tries < 4611686018427387904) (h2 : 0 ≤ x.merit) (h3 : x.merit ≤ 1000) (w : World) : Calls Try.prog 57 #[.agg #[], x.val, y.val] w fun e w' => e = .returned (.bool (killsT 2 x y)) ∧ Touch w w' [] := by
  obtain ⟨a0, a1, a2, a3, a4⟩ := x
  obtain ⟨b0, b1, b2, b3, b4⟩ := y
  simp only [killsT, TD.val] at *
  go_enter Try.func57, Try.ntmps57
  go_wp2
  go_ret
  exact ⟨rfl, (((Touch.refl w []).alloc _).alloc _).alloc _⟩

theorem gkills_any (x y : TD) (w : World) : Calls Try.prog 59 #[.agg #[], x.val, y.val] w fun e w' => e = .returned (.bool (killsT 3 x y)) ∧ Touch w w' [] := by
  obtain ⟨a0, a1, a2, a3, a4⟩ := x
  obtain ⟨b0, b1, b2, b3, b4⟩ := y
  simp only [killsT, TD.val]
  cases b1 with
  | true =>
    go_enter Try.func59, Try.ntmps59
    go_wp2
    go_ret
    exact ⟨rfl, (((Touch.refl w []).alloc _).alloc _).alloc _⟩
  | false =>
    go_enter Try.func59, Try.ntmps59
    go_wp2
    go_ret
    exact ⟨rfl, (((Touch.refl w []).alloc _).alloc _).alloc _⟩

/-- What wait leaves. -/
def WPost (b i : Nat) (M : MD) (w : World) (x : Ending) (w' : World) : Prop := x = .returned (.int .i64 (ticksT M.k (M.t i))) ∧ MObj w' b (M.put i (waitT M.k (M.t i))) ∧ Touch w w' [b]

set_option maxRecDepth 100000 in
theorem pwait_any (b i : Nat) (hi : i < 4) (M : MD) (hk : M.k = 1) (h0 : 0 ≤ (M.t i).tries) (h1 : (M.t i).tries < 4) (w : World) (h : MObj w b M) :
    Calls Try.prog 56 #[.agg #[], .pointer (some ⟨b, 1 + i * 5, none⟩)] w (WPost b i M w) := by
  have h' := h.touch ((Touch.refl w []).alloc (.cells #[] 74)) (by simp)
  have hlt := lt_of_heap h.st
  have c2 := (h'.at i hi).c2
  have f2 := (h'.at i hi).f (1 + i * 5 + 2)
  have HO : Hid _ := ((h.set2 i hi ((M.t i).tries + 1)).same (M' := M.put i (waitT M.k (M.t i))) (fun j => by simp only [MD.put_t, waitT, hk]; split <;> simp) rfl).touch ((Touch.refl _ []).alloc (.cells #[] 74)) (by simp)
  have HT : Hid _ := ((Touch.refl w [b]).setCell (p := ⟨b, 1 + i * 5 + 2, none⟩) (.inl (by simp)) (.int .i64 ((M.t i).tries + 1))).alloc (.cells #[] 74)
  have HE : Hid (ticksT M.k (M.t i) = 2 ^ (M.t i).tries.toNat) := by simp [Hid, ticksT, hk]
  clear hk h h'
  obtain ⟨n, hn⟩ : ∃ n, n = (M.t i).tries := ⟨_, rfl⟩
  rw [← hn] at c2 HO HT HE h0 h1
  clear hn
  have hcase : n = 0 ∨ n = 1 ∨ n = 2 ∨ n = 3 := by omega
  rcases hcase with rfl | rfl | rfl | rfl
  all_goals
    go_enter Try.func56, Try.ntmps56
    go_wp2
    go_ret
    exact ⟨by rw [HE.out]; rfl, HO.out, HT.out⟩

set_option maxRecDepth 100000 in
theorem kwait_any (b i : Nat) (hi : i < 4) (M : MD) (hk : M.k = 2) (h0 : 0 ≤ (M.t i).tries) (h1 : (M.t i).tries < 4611686018427387904) (w : World) (h : MObj w b M) :
    Calls Try.prog 58 #[.agg #[], .pointer (some ⟨b, 1 + i * 5, none⟩)] w (WPost b i M w) := by
  have h' := h.touch ((Touch.refl w []).alloc (.cells #[] 75)) (by simp)
  have hlt := lt_of_heap h.st
  have c2 := (h'.at i hi).c2
  have f2 := (h'.at i hi).f (1 + i * 5 + 2)
  have HO : Hid _ := ((h.set2 i hi ((M.t i).tries + 1)).same (M' := M.put i (waitT M.k (M.t i))) (fun j => by simp only [MD.put_t, waitT, hk]; split <;> simp) rfl).touch ((Touch.refl _ []).alloc (.cells #[] 75)) (by simp)
  have HT : Hid _ := ((Touch.refl w [b]).setCell (p := ⟨b, 1 + i * 5 + 2, none⟩) (.inl (by simp)) (.int .i64 ((M.t i).tries + 1))).alloc (.cells #[] 75)
  have HE : Hid (ticksT M.k (M.t i) = 1) := by simp [Hid, ticksT, hk]
  clear hk h h'
  obtain ⟨n, hn⟩ : ∃ n, n = (M.t i).tries := ⟨_, rfl⟩
  rw [← hn] at c2 HO HT h0 h1
  clear hn
  go_enter Try.func58, Try.ntmps58
  go_wp2
  go_ret
  exact ⟨by rw [HE.out]; rfl, HO.out, HT.out⟩

set_option maxRecDepth 100000 in
theorem gwait_any (b i : Nat) (hi : i < 4) (M : MD) (hk : M.k = 3) (h0 : 0 ≤ (M.t i).tries) (h1 : (M.t i).tries < 4611686018427387904) (w : World) (h : MObj w b M) :
    Calls Try.prog 60 #[.agg #[], .pointer (some ⟨b, 1 + i * 5, none⟩)] w (WPost b i M w) := by
  have h' := h.touch ((Touch.refl w []).alloc (.cells #[] 76)) (by simp)
  have hlt := lt_of_heap h.st
  have c1 := (h'.at i hi).c1
  have c2 := (h'.at i hi).c2
  have f1 := (h'.at i hi).f (1 + i * 5 + 1)
  have f2 := (h'.at i hi).f (1 + i * 5 + 2)
  have HO : Hid _ := (((h.set2 i hi ((M.t i).tries + 1)).set1 i hi true).same (M' := M.put i (waitT M.k (M.t i))) (fun j => by simp only [MD.put_t, waitT, hk]; split <;> simp) rfl).touch ((Touch.refl _ []).alloc (.cells #[] 76)) (by simp)
  have HT : Hid _ := (((Touch.refl w [b]).setCell (p := ⟨b, 1 + i * 5 + 2, none⟩) (.inl (by simp)) (.int .i64 ((M.t i).tries + 1))).setCell (p := ⟨b, 1 + i * 5 + 1, none⟩) (.inl (by simp)) (.bool true)).alloc (.cells #[] 76)
  have c1' := (h.at i hi).c1
  have g1' := (h.at i hi).f (1 + i * 5 + 1)
  have HE : Hid (ticksT M.k (M.t i) = 1) := by simp [Hid, ticksT, hk]
  clear hk h h'
  obtain ⟨n, hn⟩ : ∃ n, n = (M.t i).tries := ⟨_, rfl⟩
  rw [← hn] at c2 HO HT h0 h1
  clear hn
  go_enter Try.func60, Try.ntmps60
  go_wp2
  go_ret
  exact ⟨by rw [HE.out]; rfl, HO.out, HT.out⟩

/-! ### Choose -/
/-- What Choose comes to: the choice, the ticks, the error; what is left. -/
def chooseM (M : MD) (th other : Int) : (Int × Int × Int) × MD :=
  if ¬ (0 ≤ th ∧ th < 4) then ((0, 0, 2), M) else if ¬ (0 ≤ other ∧ other < 4) then ((0, 0, 2), M)
  else if (M.t th.toNat).runs = false ∨ (M.t other.toNat).runs = false ∨ th = other then ((0, 0, 8), M)
  else if killsT M.k (M.t th.toNat) (M.t other.toNat) = true then ((2, 0, 0), M)
  else ((1, ticksT M.k (M.t th.toNat), 0), M.put th.toNat (waitT M.k (M.t th.toNat)))

def CPost (b : Nat) (w : World) (r : (Int × Int × Int) × MD) (x : Ending) (w' : World) : Prop :=
  x = .returned (.tuple #[.int .u8 r.1.1, .int .i64 r.1.2.1, .int .i64 r.1.2.2]) ∧ MObj w' b r.2 ∧ Touch w w' [b]

theorem CPost.keep {b : Nat} {w : World} {M : MD} (e : Int) (h : MObj w b M) : CPost b w ((0, 0, e), M) (.returned (.tuple #[.int .u8 0, .int .i64 0, .int .i64 e])) w := ⟨rfl, h, Touch.refl _ _⟩

theorem mchoose_nil (th other : Int) (w : World) : Calls Try.prog 12 #[.pointer none, .int .i64 th, .int .i64 other] w fun x w' => x = .returned (.tuple #[.int .u8 0, .int .i64 0, .int .i64 1]) ∧ w = w' := by
  go_enter Try.func12, Try.ntmps12
  go_wp2_with fail
  refine (mthread_nil th w).mono ?_
  rintro e w1 ⟨rfl, rfl⟩
  go_wp2
  go_ret3
  exact ⟨rfl, rfl⟩

theorem mchoose_no (b : Nat) (M : MD) (th other : Int) (hth : ¬ (0 ≤ th ∧ th < 4)) (w : World) (h : MObj w b M) :
    Calls Try.prog 12 #[.pointer (some ⟨b, 0, none⟩), .int .i64 th, .int .i64 other] w (CPost b w ((0, 0, 2), M)) := by
  go_enter Try.func12, Try.ntmps12
  go_wp2_with fail
  refine (mthread_no b th hth w).mono ?_
  rintro e w1 ⟨rfl, rfl⟩
  go_wp2
  go_ret3
  exact CPost.keep _ h

theorem mchoose_no2 (b i : Nat) (hi : i < 4) (M : MD) (other : Int) (hth : ¬ (0 ≤ other ∧ other < 4)) (w : World) (h : MObj w b M) :
    Calls Try.prog 12 #[.pointer (some ⟨b, 0, none⟩), .int .i64 i, .int .i64 other] w (CPost b w ((0, 0, 2), M)) := by
  go_enter Try.func12, Try.ntmps12
  go_wp2_with fail
  refine (mthread_ok b i hi w).mono ?_
  rintro e w1 ⟨rfl, rfl⟩
  go_wp2_with fail
  refine (mthread_no b other hth w).mono ?_
  rintro e w1 ⟨rfl, rfl⟩
  go_wp2
  go_ret3
  exact CPost.keep _ h

set_option maxRecDepth 100000 in
theorem mchoose_off (b i j : Nat) (hi : i < 4) (hj : j < 4) (M : MD) (ho : (M.t i).runs = false ∨ (M.t j).runs = false ∨ (i : Int) = (j : Int)) (w : World) (h : MObj w b M) :
    Calls Try.prog 12 #[.pointer (some ⟨b, 0, none⟩), .int .i64 i, .int .i64 j] w (CPost b w ((0, 0, 8), M)) := by
  have c0 := (h.at i hi).c0
  have d0 := (h.at j hj).c0
  have H : Hid (MObj w b M) := h
  have A := HidC.mk (mthread_ok b i hi w)
  have B := HidC.mk (mthread_ok b j hj w)
  clear h
  generalize (M.t i).runs = r at *
  generalize (M.t j).runs = s at *
  cases r with
  | false =>
    clear ho
    go_enter Try.func12, Try.ntmps12
    go_wp2_with fail
    refine A.out.mono ?_
    rintro e w1 ⟨rfl, rfl⟩
    go_wp2_with fail
    refine B.out.mono ?_
    rintro e w1 ⟨rfl, rfl⟩
    clear A B
    go_wp2
    go_ret3
    exact CPost.keep _ H.out
  | true =>
    cases s with
    | false =>
      clear ho
      go_enter Try.func12, Try.ntmps12
      go_wp2_with fail
      refine A.out.mono ?_
      rintro e w1 ⟨rfl, rfl⟩
      go_wp2_with fail
      refine B.out.mono ?_
      rintro e w1 ⟨rfl, rfl⟩
      clear A B
      go_wp2
      go_ret3
      exact CPost.keep _ H.out
    | true =>
      have hij : (i : Int) = (j : Int) := by simpa using ho
      have hij' : i = j := by omega
      subst hij'
      clear ho hij B d0
      go_enter Try.func12, Try.ntmps12
      go_wp2_with fail
      refine A.out.mono ?_
      rintro e w1 ⟨rfl, rfl⟩
      go_wp2_with fail
      refine A.out.mono ?_
      rintro e w1 ⟨rfl, rfl⟩
      clear A
      go_wp2
      go_ret3
      exact CPost.keep _ H.out

end Go.Proofs.Ytgnfonimnlejbaa
