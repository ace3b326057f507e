/-
  package manager: Choose BY ITS CONTRACT.
-/
import Derived.Test.YtgnfonimnlejbaaMgrJudge
namespace Go.Proofs.Ytgnfonimnlejbaa
set_option linter.unusedVariables false
set_option linter.unusedSimpArgs false
open Go.RowKit

/-- The cells that kills asks for. -/
theorem keep11 {w w' : World} {b o p : Nat} {v0 v1 v2 v3 v4 v5 v6 v7 v8 v9 v10 : Value} (h : w.cell? ⟨b, 0, none⟩ = some v0 ∧ w.cell? ⟨b, o, none⟩ = some v1 ∧ w.cell? ⟨b, o + 1, none⟩ = some v2 ∧ w.cell? ⟨b, o + 2, none⟩ = some v3 ∧ w.cell? ⟨b, o + 3, none⟩ = some v4 ∧ w.cell? ⟨b, o + 4, none⟩ = some v5 ∧ w.cell? ⟨b, p, none⟩ = some v6 ∧ w.cell? ⟨b, p + 1, none⟩ = some v7 ∧ w.cell? ⟨b, p + 2, none⟩ = some v8 ∧ w.cell? ⟨b, p + 3, none⟩ = some v9 ∧ w.cell? ⟨b, p + 4, none⟩ = some v10) (t : Touch w w' []) (hb : b < w.heap.size) :
    w'.cell? ⟨b, 0, none⟩ = some v0 ∧ w'.cell? ⟨b, o, none⟩ = some v1 ∧ w'.cell? ⟨b, o + 1, none⟩ = some v2 ∧ w'.cell? ⟨b, o + 2, none⟩ = some v3 ∧ w'.cell? ⟨b, o + 3, none⟩ = some v4 ∧ w'.cell? ⟨b, o + 4, none⟩ = some v5 ∧ w'.cell? ⟨b, p, none⟩ = some v6 ∧ w'.cell? ⟨b, p + 1, none⟩ = some v7 ∧ w'.cell? ⟨b, p + 2, none⟩ = some v8 ∧ w'.cell? ⟨b, p + 3, none⟩ = some v9 ∧ w'.cell? ⟨b, p + 4, none⟩ = some v10 := by
  obtain ⟨h0, h1, h2, h3, h4, h5, h6, h7, h8, h9, h10⟩ := h
  have e (j : Nat) := t.cell (p := ⟨b, j, none⟩) hb (by simp)
  exact ⟨(e _).trans h0, (e _).trans h1, (e _).trans h2, (e _).trans h3, (e _).trans h4, (e _).trans h5, (e _).trans h6, (e _).trans h7, (e _).trans h8, (e _).trans h9, (e _).trans h10⟩

set_option maxRecDepth 100000 in
set_option maxHeartbeats 800000 in
theorem mchoose1_kill (b i j : Nat) (hi : i < 4) (hj : j < 4) (M : MD) (hk : M.k = 1) (hr : (M.t i).runs = true) (hs : (M.t j).runs = true) (hne : i ≠ j)
    (h0 : 0 ≤ (M.t i).tries) (h1 : (M.t i).tries < 4611686018427387904) (h2 : 0 ≤ (M.t i).merit) (h3 : (M.t i).merit ≤ 1000) (hkl : killsT M.k (M.t i) (M.t j) = true) (w : World) (h : MObj w b M) :
    Calls Try.prog 12 #[.pointer (some ⟨b, 0, none⟩), .int .i64 i, .int .i64 j] w (CPost b w ((2, 0, 0), M)) := by
  obtain ⟨c0, c1, c2, c3, c4, _⟩ := h.at i hi
  obtain ⟨d0, d1, d2, d3, d4, _⟩ := h.at j hj
  have hj0 := h.ends.1
  have hlt := lt_of_heap h.st
  have H : Hid (MObj w b M) := h
  have A := HidC.mk (mthread_ok b i hi w)
  have B := HidC.mk (mthread_ok b j hj w)
  have hij : ¬ (i : Int) = (j : Int) := by omega
  have hij' : ((i : Int) == (j : Int)) = false := by simpa using hij
  rw [hk] at hkl hj0
  simp only [judgeV] at hj0
  clear h hne hij
  generalize M.t i = x at *
  generalize M.t j = y at *
  have K := fun W => pkills_any x y  W
  rw [hkl] at K
  obtain ⟨x0, x1, x2, x3, x4⟩ := x
  obtain ⟨y0, y1, y2, y3, y4⟩ := y
  simp only at hr hs c0 c1 c2 c3 c4 d0 d1 d2 d3 d4
  subst hr hs
  simp only [TD.val] at K
  clear h0 h1 h2 h3 hk hkl
  go_enter Try.func12, Try.ntmps12
  go_wp2_with fail
  refine A.out.mono ?_
  rintro e w1 ⟨rfl, rfl⟩
  go_wp2_with fail
  refine B.out.mono ?_
  rintro e w1 ⟨rfl, rfl⟩
  clear A B
  go_wp2_with fail
  refine wp_name fun W hW => ?_
  have h11 : W.cell? ⟨b, 0, none⟩ = some (.iface 74 (.agg #[])) ∧ W.cell? ⟨b, 1 + i * 5, none⟩ = some (.bool true) ∧ W.cell? ⟨b, 1 + i * 5 + 1, none⟩ = some (.bool x1) ∧ W.cell? ⟨b, 1 + i * 5 + 2, none⟩ = some (.int .i64 x2) ∧ W.cell? ⟨b, 1 + i * 5 + 3, none⟩ = some (.int .i64 x3) ∧ W.cell? ⟨b, 1 + i * 5 + 4, none⟩ = some (.int .i64 x4) ∧ W.cell? ⟨b, 1 + j * 5, none⟩ = some (.bool true) ∧ W.cell? ⟨b, 1 + j * 5 + 1, none⟩ = some (.bool y1) ∧ W.cell? ⟨b, 1 + j * 5 + 2, none⟩ = some (.int .i64 y2) ∧ W.cell? ⟨b, 1 + j * 5 + 3, none⟩ = some (.int .i64 y3) ∧ W.cell? ⟨b, 1 + j * 5 + 4, none⟩ = some (.int .i64 y4) := by subst hW; exact ⟨hj0, c0, c1, c2, c3, c4, d0, d1, d2, d3, d4⟩
  have hbW : b < W.heap.size := by subst hW; exact hlt
  have HM : Hid (MObj W b M) := by subst hW; exact H.out
  have HT : Hid (Touch w W []) := by subst hW; exact Touch.refl _ _
  clear hW H hj0 c0 c1 c2 c3 c4 d0 d1 d2 d3 d4 hlt
  have HS : Hid _ := h11
  go_region_held3 (fun w' => w'.cell? ⟨b, 0, none⟩ = some (.iface 74 (.agg #[])) ∧ w'.cell? ⟨b, 1 + i * 5, none⟩ = some (.bool true) ∧ w'.cell? ⟨b, 1 + i * 5 + 1, none⟩ = some (.bool x1) ∧ w'.cell? ⟨b, 1 + i * 5 + 2, none⟩ = some (.int .i64 x2) ∧ w'.cell? ⟨b, 1 + i * 5 + 3, none⟩ = some (.int .i64 x3) ∧ w'.cell? ⟨b, 1 + i * 5 + 4, none⟩ = some (.int .i64 x4) ∧ w'.cell? ⟨b, 1 + j * 5, none⟩ = some (.bool true) ∧ w'.cell? ⟨b, 1 + j * 5 + 1, none⟩ = some (.bool y1) ∧ w'.cell? ⟨b, 1 + j * 5 + 2, none⟩ = some (.int .i64 y2) ∧ w'.cell? ⟨b, 1 + j * 5 + 3, none⟩ = some (.int .i64 y3) ∧ w'.cell? ⟨b, 1 + j * 5 + 4, none⟩ = some (.int .i64 y4)) ((first | exact keep11 HS.out (Touch.refl _ []).drew hbW | exact keep11 HS.out t2 hbW)) ((go_at_call 55; refine (K _).mono ?_; rintro e w1 ⟨rfl, t1⟩; have t2 : Touch W w1 [] := ((Touch.refl _ _).drew).trans t1 (by simp)))
  have hh : Hid (MObj w1 b M) := HM.out.touch t2 (by simp)
  have tt : Hid (Touch w w1 [b]) := (HT.out.trans t2 (by simp)).mono (by simp)
  clear K HM HT HS t1 t2
  go_wp2
  go_ret3
  exact ⟨rfl, hh.out, tt.out⟩

set_option maxRecDepth 100000 in
set_option maxHeartbeats 800000 in
theorem mchoose1_wait (b i j : Nat) (hi : i < 4) (hj : j < 4) (M : MD) (hk : M.k = 1) (hr : (M.t i).runs = true) (hs : (M.t j).runs = true) (hne : i ≠ j)
    (h0 : 0 ≤ (M.t i).tries) (h1 : (M.t i).tries < 4611686018427387904) (h2 : 0 ≤ (M.t i).merit) (h3 : (M.t i).merit ≤ 1000) (hkl : killsT M.k (M.t i) (M.t j) = false) (w : World) (h : MObj w b M) :
    Calls Try.prog 12 #[.pointer (some ⟨b, 0, none⟩), .int .i64 i, .int .i64 j] w (CPost b w ((1, ticksT M.k (M.t i), 0), M.put i (waitT M.k (M.t i)))) := by
  obtain ⟨c0, c1, c2, c3, c4, _⟩ := h.at i hi
  obtain ⟨d0, d1, d2, d3, d4, _⟩ := h.at j hj
  have hj0 := h.ends.1
  have hlt := lt_of_heap h.st
  have H : Hid (MObj w b M) := h
  have A := HidC.mk (mthread_ok b i hi w)
  have B := HidC.mk (mthread_ok b j hj w)
  have hij : ¬ (i : Int) = (j : Int) := by omega
  have hij' : ((i : Int) == (j : Int)) = false := by simpa using hij
  have h1' : 1 = 1 → (M.t i).tries < 4 := fun _ => by
    by_cases hq : 4 ≤ (M.t i).tries
    · simp [killsT, hk, hq] at hkl <;> omega
    · omega
  have WT : ∀ W, MObj W b M → HidC Try.prog 56 #[.agg #[], .pointer (some ⟨b, 1 + i * 5, none⟩)] W (WPost b i M W) := fun W hW => ⟨pwait_any b i hi M hk h0 (h1' rfl) W hW⟩
  rw [hk] at hkl hj0
  simp only [judgeV] at hj0
  clear h hne hij
  have K := fun W => pkills_any (M.t i) (M.t j)  W
  rw [hkl] at K
  generalize hx : M.t i = x at *
  generalize M.t j = y at *
  obtain ⟨x0, x1, x2, x3, x4⟩ := x
  obtain ⟨y0, y1, y2, y3, y4⟩ := y
  simp only at hr hs c0 c1 c2 c3 c4 d0 d1 d2 d3 d4
  subst hr hs
  simp only [TD.val] at K
  rw [← hx]
  clear h0 h1 h2 h3 hk hkl hx
  go_enter Try.func12, Try.ntmps12
  go_wp2_with fail
  refine A.out.mono ?_
  rintro e w1 ⟨rfl, rfl⟩
  go_wp2_with fail
  refine B.out.mono ?_
  rintro e w1 ⟨rfl, rfl⟩
  clear A B
  go_wp2_with fail
  refine wp_name fun W hW => ?_
  have h11 : W.cell? ⟨b, 0, none⟩ = some (.iface 74 (.agg #[])) ∧ W.cell? ⟨b, 1 + i * 5, none⟩ = some (.bool true) ∧ W.cell? ⟨b, 1 + i * 5 + 1, none⟩ = some (.bool x1) ∧ W.cell? ⟨b, 1 + i * 5 + 2, none⟩ = some (.int .i64 x2) ∧ W.cell? ⟨b, 1 + i * 5 + 3, none⟩ = some (.int .i64 x3) ∧ W.cell? ⟨b, 1 + i * 5 + 4, none⟩ = some (.int .i64 x4) ∧ W.cell? ⟨b, 1 + j * 5, none⟩ = some (.bool true) ∧ W.cell? ⟨b, 1 + j * 5 + 1, none⟩ = some (.bool y1) ∧ W.cell? ⟨b, 1 + j * 5 + 2, none⟩ = some (.int .i64 y2) ∧ W.cell? ⟨b, 1 + j * 5 + 3, none⟩ = some (.int .i64 y3) ∧ W.cell? ⟨b, 1 + j * 5 + 4, none⟩ = some (.int .i64 y4) := by subst hW; exact ⟨hj0, c0, c1, c2, c3, c4, d0, d1, d2, d3, d4⟩
  have hbW : b < W.heap.size := by subst hW; exact hlt
  have HM : Hid (MObj W b M) := by subst hW; exact H.out
  have HT : Hid (Touch w W []) := by subst hW; exact Touch.refl _ _
  clear hW H hj0 c0 c1 c2 c3 c4 d0 d1 d2 d3 d4 hlt
  have HS : Hid _ := h11
  go_region_held3 (fun w' => w'.cell? ⟨b, 0, none⟩ = some (.iface 74 (.agg #[])) ∧ w'.cell? ⟨b, 1 + i * 5, none⟩ = some (.bool true) ∧ w'.cell? ⟨b, 1 + i * 5 + 1, none⟩ = some (.bool x1) ∧ w'.cell? ⟨b, 1 + i * 5 + 2, none⟩ = some (.int .i64 x2) ∧ w'.cell? ⟨b, 1 + i * 5 + 3, none⟩ = some (.int .i64 x3) ∧ w'.cell? ⟨b, 1 + i * 5 + 4, none⟩ = some (.int .i64 x4) ∧ w'.cell? ⟨b, 1 + j * 5, none⟩ = some (.bool true) ∧ w'.cell? ⟨b, 1 + j * 5 + 1, none⟩ = some (.bool y1) ∧ w'.cell? ⟨b, 1 + j * 5 + 2, none⟩ = some (.int .i64 y2) ∧ w'.cell? ⟨b, 1 + j * 5 + 3, none⟩ = some (.int .i64 y3) ∧ w'.cell? ⟨b, 1 + j * 5 + 4, none⟩ = some (.int .i64 y4)) ((first | exact keep11 HS.out (Touch.refl _ []).drew hbW | exact keep11 HS.out t2 hbW)) ((go_at_call 55; refine (K _).mono ?_; rintro e w1 ⟨rfl, t1⟩; have t2 : Touch W w1 [] := ((Touch.refl _ _).drew).trans t1 (by simp)))
  have tt : Hid (Touch w w1 [b]) := (HT.out.trans t2 (by simp)).mono (by simp)
  have hh : MObj w1 b M := HM.out.touch t2 (by simp)
  have hj1 := (keep11 HS.out t2 hbW).1
  have WW := WT w1 hh
  clear K HM HT HS t1 t2 WT hh h11
  go_wp2_with fail
  refine WW.out.mono ?_
  rintro e w3 ⟨rfl, h3, t3⟩
  clear WW
  go_wp2
  go_ret3
  exact ⟨rfl, h3, tt.out.trans t3 (fun x hx => .inl hx)⟩
set_option maxRecDepth 100000 in
set_option maxHeartbeats 800000 in
theorem mchoose2_kill (b i j : Nat) (hi : i < 4) (hj : j < 4) (M : MD) (hk : M.k = 2) (hr : (M.t i).runs = true) (hs : (M.t j).runs = true) (hne : i ≠ j)
    (h0 : 0 ≤ (M.t i).tries) (h1 : (M.t i).tries < 4611686018427387904) (h2 : 0 ≤ (M.t i).merit) (h3 : (M.t i).merit ≤ 1000) (hkl : killsT M.k (M.t i) (M.t j) = true) (w : World) (h : MObj w b M) :
    Calls Try.prog 12 #[.pointer (some ⟨b, 0, none⟩), .int .i64 i, .int .i64 j] w (CPost b w ((2, 0, 0), M)) := by
  obtain ⟨c0, c1, c2, c3, c4, _⟩ := h.at i hi
  obtain ⟨d0, d1, d2, d3, d4, _⟩ := h.at j hj
  have hj0 := h.ends.1
  have hlt := lt_of_heap h.st
  have H : Hid (MObj w b M) := h
  have A := HidC.mk (mthread_ok b i hi w)
  have B := HidC.mk (mthread_ok b j hj w)
  have hij : ¬ (i : Int) = (j : Int) := by omega
  have hij' : ((i : Int) == (j : Int)) = false := by simpa using hij
  rw [hk] at hkl hj0
  simp only [judgeV] at hj0
  clear h hne hij
  generalize M.t i = x at *
  generalize M.t j = y at *
  have K := fun W => kkills_any x y h0 h1 h2 h3 W
  rw [hkl] at K
  obtain ⟨x0, x1, x2, x3, x4⟩ := x
  obtain ⟨y0, y1, y2, y3, y4⟩ := y
  simp only at hr hs c0 c1 c2 c3 c4 d0 d1 d2 d3 d4
  subst hr hs
  simp only [TD.val] at K
  clear h0 h1 h2 h3 hk hkl
  go_enter Try.func12, Try.ntmps12
  go_wp2_with fail
  refine A.out.mono ?_
  rintro e w1 ⟨rfl, rfl⟩
  go_wp2_with fail
  refine B.out.mono ?_
  rintro e w1 ⟨rfl, rfl⟩
  clear A B
  go_wp2_with fail
  refine wp_name fun W hW => ?_
  have h11 : W.cell? ⟨b, 0, none⟩ = some (.iface 75 (.agg #[])) ∧ W.cell? ⟨b, 1 + i * 5, none⟩ = some (.bool true) ∧ W.cell? ⟨b, 1 + i * 5 + 1, none⟩ = some (.bool x1) ∧ W.cell? ⟨b, 1 + i * 5 + 2, none⟩ = some (.int .i64 x2) ∧ W.cell? ⟨b, 1 + i * 5 + 3, none⟩ = some (.int .i64 x3) ∧ W.cell? ⟨b, 1 + i * 5 + 4, none⟩ = some (.int .i64 x4) ∧ W.cell? ⟨b, 1 + j * 5, none⟩ = some (.bool true) ∧ W.cell? ⟨b, 1 + j * 5 + 1, none⟩ = some (.bool y1) ∧ W.cell? ⟨b, 1 + j * 5 + 2, none⟩ = some (.int .i64 y2) ∧ W.cell? ⟨b, 1 + j * 5 + 3, none⟩ = some (.int .i64 y3) ∧ W.cell? ⟨b, 1 + j * 5 + 4, none⟩ = some (.int .i64 y4) := by subst hW; exact ⟨hj0, c0, c1, c2, c3, c4, d0, d1, d2, d3, d4⟩
  have hbW : b < W.heap.size := by subst hW; exact hlt
  have HM : Hid (MObj W b M) := by subst hW; exact H.out
  have HT : Hid (Touch w W []) := by subst hW; exact Touch.refl _ _
  clear hW H hj0 c0 c1 c2 c3 c4 d0 d1 d2 d3 d4 hlt
  have HS : Hid _ := h11
  go_region_held3 (fun w' => w'.cell? ⟨b, 0, none⟩ = some (.iface 75 (.agg #[])) ∧ w'.cell? ⟨b, 1 + i * 5, none⟩ = some (.bool true) ∧ w'.cell? ⟨b, 1 + i * 5 + 1, none⟩ = some (.bool x1) ∧ w'.cell? ⟨b, 1 + i * 5 + 2, none⟩ = some (.int .i64 x2) ∧ w'.cell? ⟨b, 1 + i * 5 + 3, none⟩ = some (.int .i64 x3) ∧ w'.cell? ⟨b, 1 + i * 5 + 4, none⟩ = some (.int .i64 x4) ∧ w'.cell? ⟨b, 1 + j * 5, none⟩ = some (.bool true) ∧ w'.cell? ⟨b, 1 + j * 5 + 1, none⟩ = some (.bool y1) ∧ w'.cell? ⟨b, 1 + j * 5 + 2, none⟩ = some (.int .i64 y2) ∧ w'.cell? ⟨b, 1 + j * 5 + 3, none⟩ = some (.int .i64 y3) ∧ w'.cell? ⟨b, 1 + j * 5 + 4, none⟩ = some (.int .i64 y4)) ((first | exact keep11 HS.out (Touch.refl _ []).drew hbW | exact keep11 HS.out t2 hbW)) ((go_at_call 57; refine (K _).mono ?_; rintro e w1 ⟨rfl, t1⟩; have t2 : Touch W w1 [] := ((Touch.refl _ _).drew).trans t1 (by simp)))
  have hh : Hid (MObj w1 b M) := HM.out.touch t2 (by simp)
  have tt : Hid (Touch w w1 [b]) := (HT.out.trans t2 (by simp)).mono (by simp)
  clear K HM HT HS t1 t2
  go_wp2
  go_ret3
  exact ⟨rfl, hh.out, tt.out⟩

set_option maxRecDepth 100000 in
set_option maxHeartbeats 800000 in
theorem mchoose2_wait (b i j : Nat) (hi : i < 4) (hj : j < 4) (M : MD) (hk : M.k = 2) (hr : (M.t i).runs = true) (hs : (M.t j).runs = true) (hne : i ≠ j)
    (h0 : 0 ≤ (M.t i).tries) (h1 : (M.t i).tries < 4611686018427387904) (h2 : 0 ≤ (M.t i).merit) (h3 : (M.t i).merit ≤ 1000) (hkl : killsT M.k (M.t i) (M.t j) = false) (w : World) (h : MObj w b M) :
    Calls Try.prog 12 #[.pointer (some ⟨b, 0, none⟩), .int .i64 i, .int .i64 j] w (CPost b w ((1, ticksT M.k (M.t i), 0), M.put i (waitT M.k (M.t i)))) := by
  obtain ⟨c0, c1, c2, c3, c4, _⟩ := h.at i hi
  obtain ⟨d0, d1, d2, d3, d4, _⟩ := h.at j hj
  have hj0 := h.ends.1
  have hlt := lt_of_heap h.st
  have H : Hid (MObj w b M) := h
  have A := HidC.mk (mthread_ok b i hi w)
  have B := HidC.mk (mthread_ok b j hj w)
  have hij : ¬ (i : Int) = (j : Int) := by omega
  have hij' : ((i : Int) == (j : Int)) = false := by simpa using hij
  have h1' : 2 = 1 → (M.t i).tries < 4 := fun _ => by
    by_cases hq : 4 ≤ (M.t i).tries
    · simp [killsT, hk, hq] at hkl <;> omega
    · omega
  have WT : ∀ W, MObj W b M → HidC Try.prog 58 #[.agg #[], .pointer (some ⟨b, 1 + i * 5, none⟩)] W (WPost b i M W) := fun W hW => ⟨kwait_any b i hi M hk h0 h1 W hW⟩
  rw [hk] at hkl hj0
  simp only [judgeV] at hj0
  clear h hne hij
  have K := fun W => kkills_any (M.t i) (M.t j) h0 h1 h2 h3 W
  rw [hkl] at K
  generalize hx : M.t i = x at *
  generalize M.t j = y at *
  obtain ⟨x0, x1, x2, x3, x4⟩ := x
  obtain ⟨y0, y1, y2, y3, y4⟩ := y
  simp only at hr hs c0 c1 c2 c3 c4 d0 d1 d2 d3 d4
  subst hr hs
  simp only [TD.val] at K
  rw [← hx]
  clear h0 h1 h2 h3 hk hkl hx
  go_enter Try.func12, Try.ntmps12
  go_wp2_with fail
  refine A.out.mono ?_
  rintro e w1 ⟨rfl, rfl⟩
  go_wp2_with fail
  refine B.out.mono ?_
  rintro e w1 ⟨rfl, rfl⟩
  clear A B
  go_wp2_with fail
  refine wp_name fun W hW => ?_
  have h11 : W.cell? ⟨b, 0, none⟩ = some (.iface 75 (.agg #[])) ∧ W.cell? ⟨b, 1 + i * 5, none⟩ = some (.bool true) ∧ W.cell? ⟨b, 1 + i * 5 + 1, none⟩ = some (.bool x1) ∧ W.cell? ⟨b, 1 + i * 5 + 2, none⟩ = some (.int .i64 x2) ∧ W.cell? ⟨b, 1 + i * 5 + 3, none⟩ = some (.int .i64 x3) ∧ W.cell? ⟨b, 1 + i * 5 + 4, none⟩ = some (.int .i64 x4) ∧ W.cell? ⟨b, 1 + j * 5, none⟩ = some (.bool true) ∧ W.cell? ⟨b, 1 + j * 5 + 1, none⟩ = some (.bool y1) ∧ W.cell? ⟨b, 1 + j * 5 + 2, none⟩ = some (.int .i64 y2) ∧ W.cell? ⟨b, 1 + j * 5 + 3, none⟩ = some (.int .i64 y3) ∧ W.cell? ⟨b, 1 + j * 5 + 4, none⟩ = some (.int .i64 y4) := by subst hW; exact ⟨hj0, c0, c1, c2, c3, c4, d0, d1, d2, d3, d4⟩
  have hbW : b < W.heap.size := by subst hW; exact hlt
  have HM : Hid (MObj W b M) := by subst hW; exact H.out
  have HT : Hid (Touch w W []) := by subst hW; exact Touch.refl _ _
  clear hW H hj0 c0 c1 c2 c3 c4 d0 d1 d2 d3 d4 hlt
  have HS : Hid _ := h11
  go_region_held3 (fun w' => w'.cell? ⟨b, 0, none⟩ = some (.iface 75 (.agg #[])) ∧ w'.cell? ⟨b, 1 + i * 5, none⟩ = some (.bool true) ∧ w'.cell? ⟨b, 1 + i * 5 + 1, none⟩ = some (.bool x1) ∧ w'.cell? ⟨b, 1 + i * 5 + 2, none⟩ = some (.int .i64 x2) ∧ w'.cell? ⟨b, 1 + i * 5 + 3, none⟩ = some (.int .i64 x3) ∧ w'.cell? ⟨b, 1 + i * 5 + 4, none⟩ = some (.int .i64 x4) ∧ w'.cell? ⟨b, 1 + j * 5, none⟩ = some (.bool true) ∧ w'.cell? ⟨b, 1 + j * 5 + 1, none⟩ = some (.bool y1) ∧ w'.cell? ⟨b, 1 + j * 5 + 2, none⟩ = some (.int .i64 y2) ∧ w'.cell? ⟨b, 1 + j * 5 + 3, none⟩ = some (.int .i64 y3) ∧ w'.cell? ⟨b, 1 + j * 5 + 4, none⟩ = some (.int .i64 y4)) ((first | exact keep11 HS.out (Touch.refl _ []).drew hbW | exact keep11 HS.out t2 hbW)) ((go_at_call 57; refine (K _).mono ?_; rintro e w1 ⟨rfl, t1⟩; have t2 : Touch W w1 [] := ((Touch.refl _ _).drew).trans t1 (by simp)))
  have tt : Hid (Touch w w1 [b]) := (HT.out.trans t2 (by simp)).mono (by simp)
  have hh : MObj w1 b M := HM.out.touch t2 (by simp)
  have hj1 := (keep11 HS.out t2 hbW).1
  have WW := WT w1 hh
  clear K HM HT HS t1 t2 WT hh h11
  go_wp2_with fail
  refine WW.out.mono ?_
  rintro e w3 ⟨rfl, h3, t3⟩
  clear WW
  go_wp2
  go_ret3
  exact ⟨rfl, h3, tt.out.trans t3 (fun x hx => .inl hx)⟩
set_option maxRecDepth 100000 in
set_option maxHeartbeats 800000 in
theorem mchoose3_kill (b i j : Nat) (hi : i < 4) (hj : j < 4) (M : MD) (hk : M.k = 3) (hr : (M.t i).runs = true) (hs : (M.t j).runs = true) (hne : i ≠ j)
    (h0 : 0 ≤ (M.t i).tries) (h1 : (M.t i).tries < 4611686018427387904) (h2 : 0 ≤ (M.t i).merit) (h3 : (M.t i).merit ≤ 1000) (hkl : killsT M.k (M.t i) (M.t j) = true) (w : World) (h : MObj w b M) :
    Calls Try.prog 12 #[.pointer (some ⟨b, 0, none⟩), .int .i64 i, .int .i64 j] w (CPost b w ((2, 0, 0), M)) := by
  obtain ⟨c0, c1, c2, c3, c4, _⟩ := h.at i hi
  obtain ⟨d0, d1, d2, d3, d4, _⟩ := h.at j hj
  have hj0 := h.ends.1
  have hlt := lt_of_heap h.st
  have H : Hid (MObj w b M) := h
  have A := HidC.mk (mthread_ok b i hi w)
  have B := HidC.mk (mthread_ok b j hj w)
  have hij : ¬ (i : Int) = (j : Int) := by omega
  have hij' : ((i : Int) == (j : Int)) = false := by simpa using hij
  rw [hk] at hkl hj0
  simp only [judgeV] at hj0
  clear h hne hij
  generalize M.t i = x at *
  generalize M.t j = y at *
  have K := fun W => gkills_any x y  W
  rw [hkl] at K
  obtain ⟨x0, x1, x2, x3, x4⟩ := x
  obtain ⟨y0, y1, y2, y3, y4⟩ := y
  simp only at hr hs c0 c1 c2 c3 c4 d0 d1 d2 d3 d4
  subst hr hs
  simp only [TD.val] at K
  clear h0 h1 h2 h3 hk hkl
  go_enter Try.func12, Try.ntmps12
  go_wp2_with fail
  refine A.out.mono ?_
  rintro e w1 ⟨rfl, rfl⟩
  go_wp2_with fail
  refine B.out.mono ?_
  rintro e w1 ⟨rfl, rfl⟩
  clear A B
  go_wp2_with fail
  refine wp_name fun W hW => ?_
  have h11 : W.cell? ⟨b, 0, none⟩ = some (.iface 76 (.agg #[])) ∧ W.cell? ⟨b, 1 + i * 5, none⟩ = some (.bool true) ∧ W.cell? ⟨b, 1 + i * 5 + 1, none⟩ = some (.bool x1) ∧ W.cell? ⟨b, 1 + i * 5 + 2, none⟩ = some (.int .i64 x2) ∧ W.cell? ⟨b, 1 + i * 5 + 3, none⟩ = some (.int .i64 x3) ∧ W.cell? ⟨b, 1 + i * 5 + 4, none⟩ = some (.int .i64 x4) ∧ W.cell? ⟨b, 1 + j * 5, none⟩ = some (.bool true) ∧ W.cell? ⟨b, 1 + j * 5 + 1, none⟩ = some (.bool y1) ∧ W.cell? ⟨b, 1 + j * 5 + 2, none⟩ = some (.int .i64 y2) ∧ W.cell? ⟨b, 1 + j * 5 + 3, none⟩ = some (.int .i64 y3) ∧ W.cell? ⟨b, 1 + j * 5 + 4, none⟩ = some (.int .i64 y4) := by subst hW; exact ⟨hj0, c0, c1, c2, c3, c4, d0, d1, d2, d3, d4⟩
  have hbW : b < W.heap.size := by subst hW; exact hlt
  have HM : Hid (MObj W b M) := by subst hW; exact H.out
  have HT : Hid (Touch w W []) := by subst hW; exact Touch.refl _ _
  clear hW H hj0 c0 c1 c2 c3 c4 d0 d1 d2 d3 d4 hlt
  have HS : Hid _ := h11
  go_region_held3 (fun w' => w'.cell? ⟨b, 0, none⟩ = some (.iface 76 (.agg #[])) ∧ w'.cell? ⟨b, 1 + i * 5, none⟩ = some (.bool true) ∧ w'.cell? ⟨b, 1 + i * 5 + 1, none⟩ = some (.bool x1) ∧ w'.cell? ⟨b, 1 + i * 5 + 2, none⟩ = some (.int .i64 x2) ∧ w'.cell? ⟨b, 1 + i * 5 + 3, none⟩ = some (.int .i64 x3) ∧ w'.cell? ⟨b, 1 + i * 5 + 4, none⟩ = some (.int .i64 x4) ∧ w'.cell? ⟨b, 1 + j * 5, none⟩ = some (.bool true) ∧ w'.cell? ⟨b, 1 + j * 5 + 1, none⟩ = some (.bool y1) ∧ w'.cell? ⟨b, 1 + j * 5 + 2, none⟩ = some (.int .i64 y2) ∧ w'.cell? ⟨b, 1 + j * 5 + 3, none⟩ = some (.int .i64 y3) ∧ w'.cell? ⟨b, 1 + j * 5 + 4, none⟩ = some (.int .i64 y4)) ((first | exact keep11 HS.out (Touch.refl _ []).drew hbW | exact keep11 HS.out t2 hbW)) ((go_at_call 59; refine (K _).mono ?_; rintro e w1 ⟨rfl, t1⟩; have t2 : Touch W w1 [] := ((Touch.refl _ _).drew).trans t1 (by simp)))
  have hh : Hid (MObj w1 b M) := HM.out.touch t2 (by simp)
  have tt : Hid (Touch w w1 [b]) := (HT.out.trans t2 (by simp)).mono (by simp)
  clear K HM HT HS t1 t2
  go_wp2
  go_ret3
  exact ⟨rfl, hh.out, tt.out⟩

set_option maxRecDepth 100000 in
set_option maxHeartbeats 800000 in
theorem mchoose3_wait (b i j : Nat) (hi : i < 4) (hj : j < 4) (M : MD) (hk : M.k = 3) (hr : (M.t i).runs = true) (hs : (M.t j).runs = true) (hne : i ≠ j)
    (h0 : 0 ≤ (M.t i).tries) (h1 : (M.t i).tries < 4611686018427387904) (h2 : 0 ≤ (M.t i).merit) (h3 : (M.t i).merit ≤ 1000) (hkl : killsT M.k (M.t i) (M.t j) = false) (w : World) (h : MObj w b M) :
    Calls Try.prog 12 #[.pointer (some ⟨b, 0, none⟩), .int .i64 i, .int .i64 j] w (CPost b w ((1, ticksT M.k (M.t i), 0), M.put i (waitT M.k (M.t i)))) := by
  obtain ⟨c0, c1, c2, c3, c4, _⟩ := h.at i hi
  obtain ⟨d0, d1, d2, d3, d4, _⟩ := h.at j hj
  have hj0 := h.ends.1
  have hlt := lt_of_heap h.st
  have H : Hid (MObj w b M) := h
  have A := HidC.mk (mthread_ok b i hi w)
  have B := HidC.mk (mthread_ok b j hj w)
  have hij : ¬ (i : Int) = (j : Int) := by omega
  have hij' : ((i : Int) == (j : Int)) = false := by simpa using hij
  have h1' : 3 = 1 → (M.t i).tries < 4 := fun _ => by
    by_cases hq : 4 ≤ (M.t i).tries
    · simp [killsT, hk, hq] at hkl <;> omega
    · omega
  have WT : ∀ W, MObj W b M → HidC Try.prog 60 #[.agg #[], .pointer (some ⟨b, 1 + i * 5, none⟩)] W (WPost b i M W) := fun W hW => ⟨gwait_any b i hi M hk h0 h1 W hW⟩
  rw [hk] at hkl hj0
  simp only [judgeV] at hj0
  clear h hne hij
  have K := fun W => gkills_any (M.t i) (M.t j)  W
  rw [hkl] at K
  generalize hx : M.t i = x at *
  generalize M.t j = y at *
  obtain ⟨x0, x1, x2, x3, x4⟩ := x
  obtain ⟨y0, y1, y2, y3, y4⟩ := y
  simp only at hr hs c0 c1 c2 c3 c4 d0 d1 d2 d3 d4
  subst hr hs
  simp only [TD.val] at K
  rw [← hx]
  clear h0 h1 h2 h3 hk hkl hx
  go_enter Try.func12, Try.ntmps12
  go_wp2_with fail
  refine A.out.mono ?_
  rintro e w1 ⟨rfl, rfl⟩
  go_wp2_with fail
  refine B.out.mono ?_
  rintro e w1 ⟨rfl, rfl⟩
  clear A B
  go_wp2_with fail
  refine wp_name fun W hW => ?_
  have h11 : W.cell? ⟨b, 0, none⟩ = some (.iface 76 (.agg #[])) ∧ W.cell? ⟨b, 1 + i * 5, none⟩ = some (.bool true) ∧ W.cell? ⟨b, 1 + i * 5 + 1, none⟩ = some (.bool x1) ∧ W.cell? ⟨b, 1 + i * 5 + 2, none⟩ = some (.int .i64 x2) ∧ W.cell? ⟨b, 1 + i * 5 + 3, none⟩ = some (.int .i64 x3) ∧ W.cell? ⟨b, 1 + i * 5 + 4, none⟩ = some (.int .i64 x4) ∧ W.cell? ⟨b, 1 + j * 5, none⟩ = some (.bool true) ∧ W.cell? ⟨b, 1 + j * 5 + 1, none⟩ = some (.bool y1) ∧ W.cell? ⟨b, 1 + j * 5 + 2, none⟩ = some (.int .i64 y2) ∧ W.cell? ⟨b, 1 + j * 5 + 3, none⟩ = some (.int .i64 y3) ∧ W.cell? ⟨b, 1 + j * 5 + 4, none⟩ = some (.int .i64 y4) := by subst hW; exact ⟨hj0, c0, c1, c2, c3, c4, d0, d1, d2, d3, d4⟩
  have hbW : b < W.heap.size := by subst hW; exact hlt
  have HM : Hid (MObj W b M) := by subst hW; exact H.out
  have HT : Hid (Touch w W []) := by subst hW; exact Touch.refl _ _
  clear hW H hj0 c0 c1 c2 c3 c4 d0 d1 d2 d3 d4 hlt
  have HS : Hid _ := h11
  go_region_held3 (fun w' => w'.cell? ⟨b, 0, none⟩ = some (.iface 76 (.agg #[])) ∧ w'.cell? ⟨b, 1 + i * 5, none⟩ = some (.bool true) ∧ w'.cell? ⟨b, 1 + i * 5 + 1, none⟩ = some (.bool x1) ∧ w'.cell? ⟨b, 1 + i * 5 + 2, none⟩ = some (.int .i64 x2) ∧ w'.cell? ⟨b, 1 + i * 5 + 3, none⟩ = some (.int .i64 x3) ∧ w'.cell? ⟨b, 1 + i * 5 + 4, none⟩ = some (.int .i64 x4) ∧ w'.cell? ⟨b, 1 + j * 5, none⟩ = some (.bool true) ∧ w'.cell? ⟨b, 1 + j * 5 + 1, none⟩ = some (.bool y1) ∧ w'.cell? ⟨b, 1 + j * 5 + 2, none⟩ = some (.int .i64 y2) ∧ w'.cell? ⟨b, 1 + j * 5 + 3, none⟩ = some (.int .i64 y3) ∧ w'.cell? ⟨b, 1 + j * 5 + 4, none⟩ = some (.int .i64 y4)) ((first | exact keep11 HS.out (Touch.refl _ []).drew hbW | exact keep11 HS.out t2 hbW)) ((go_at_call 59; refine (K _).mono ?_; rintro e w1 ⟨rfl, t1⟩; have t2 : Touch W w1 [] := ((Touch.refl _ _).drew).trans t1 (by simp)))
  have tt : Hid (Touch w w1 [b]) := (HT.out.trans t2 (by simp)).mono (by simp)
  have hh : MObj w1 b M := HM.out.touch t2 (by simp)
  have hj1 := (keep11 HS.out t2 hbW).1
  have WW := WT w1 hh
  clear K HM HT HS t1 t2 WT hh h11
  go_wp2_with fail
  refine WW.out.mono ?_
  rintro e w3 ⟨rfl, h3, t3⟩
  clear WW
  go_wp2
  go_ret3
  exact ⟨rfl, h3, tt.out.trans t3 (fun x hx => .inl hx)⟩

/-- What Choose needs of a manager. -/
structure MWf (N : Int) (M : MD) : Prop where
  kind : M.k = 1 ∨ M.k = 2 ∨ M.k = 3
  bound : 0 ≤ N ∧ N < 4611686018427387904
  n : 0 ≤ M.n ∧ M.n ≤ N
  tries : ∀ i, 0 ≤ (M.t i).tries ∧ (M.t i).tries ≤ N
  merit : ∀ i, 0 ≤ (M.t i).merit ∧ (M.t i).merit ≤ 1000

theorem mchoose_any (b : Nat) (N : Int) (M : MD) (th other : Int) (hM : MWf N M) (w : World) (h : MObj w b M) :
    Calls Try.prog 12 #[.pointer (some ⟨b, 0, none⟩), .int .i64 th, .int .i64 other] w (CPost b w (chooseM M th other)) := by
  unfold chooseM
  by_cases hth : 0 ≤ th ∧ th < 4
  · rw [if_neg (fun e => e hth)]
    obtain ⟨i, hi, rfl, e⟩ := toNat_of hth
    by_cases hot : 0 ≤ other ∧ other < 4
    · rw [if_neg (fun e => e hot)]
      obtain ⟨j, hj, rfl, e'⟩ := toNat_of hot
      rw [e, e']
      by_cases ho : (M.t i).runs = false ∨ (M.t j).runs = false ∨ (i : Int) = (j : Int)
      · rw [if_pos ho]
        exact mchoose_off b i j hi hj M ho w h
      · rw [if_neg ho]
        have hr : (M.t i).runs = true := by cases hh : (M.t i).runs with | true => rfl | false => exact absurd (.inl hh) ho
        have hs : (M.t j).runs = true := by cases hh : (M.t j).runs with | true => rfl | false => exact absurd (.inr (.inl hh)) ho
        have hne : i ≠ j := fun hh => ho (.inr (.inr (by rw [hh])))
        have b0 := hM.tries i
        have b1 := hM.merit i
        have bN := hM.bound
        rcases hM.kind with hk | hk | hk
        · by_cases hkl : killsT M.k (M.t i) (M.t j) = true
          · rw [if_pos hkl]
            exact mchoose1_kill b i j hi hj M hk hr hs hne (by omega) (by omega) (by omega) (by omega) hkl w h
          · rw [if_neg hkl]
            exact mchoose1_wait b i j hi hj M hk hr hs hne (by omega) (by omega) (by omega) (by omega) (by simpa using hkl) w h
        · by_cases hkl : killsT M.k (M.t i) (M.t j) = true
          · rw [if_pos hkl]
            exact mchoose2_kill b i j hi hj M hk hr hs hne (by omega) (by omega) (by omega) (by omega) hkl w h
          · rw [if_neg hkl]
            exact mchoose2_wait b i j hi hj M hk hr hs hne (by omega) (by omega) (by omega) (by omega) (by simpa using hkl) w h
        · by_cases hkl : killsT M.k (M.t i) (M.t j) = true
          · rw [if_pos hkl]
            exact mchoose3_kill b i j hi hj M hk hr hs hne (by omega) (by omega) (by omega) (by omega) hkl w h
          · rw [if_neg hkl]
            exact mchoose3_wait b i j hi hj M hk hr hs hne (by omega) (by omega) (by omega) (by omega) (by simpa using hkl) w h
    · rw [if_pos hot]
      exact mchoose_no2 b i hi M other hot w h
  · rw [if_pos hth]
    exact mchoose_no b M th other hth w h

end Go.Proofs.Ytgnfonimnlejbaa
