/-
  ManagerOldest, WALKED.
-/
import Derived.Test.YtgnfonimnlejbaaMgrOldest
namespace Go.Proofs.Ytgnfonimnlejbaa
set_option linter.unusedVariables false
set_option linter.unusedSimpArgs false
open Go.RowKit

theorem choose_in (M : MD) {i j : Nat} (hi : i < 4) (hj : j < 4) : chooseM M i j = if (M.t i).runs = false ∨ (M.t j).runs = false ∨ (i : Int) = (j : Int) then ((0, 0, 8), M)
    else if killsT M.k (M.t i) (M.t j) = true then ((2, 0, 0), M) else ((1, ticksT M.k (M.t i), 0), M.put i (waitT M.k (M.t i))) := by
  have h1 : ¬ ¬ (0 ≤ (i : Int) ∧ (i : Int) < 4) := fun e => e (by omega)
  have h2 : ¬ ¬ (0 ≤ (j : Int) ∧ (j : Int) < 4) := fun e => e (by omega)
  unfold chooseM
  rw [if_neg h1, if_neg h2]
  simp only [Int.toNat_natCast]

/-- Of Greedy: the oldest and another one. -/
theorem greedy_oldest {N : Int} {M : MD} (h : MInv N M) (hk : M.k = 3) {o j : Nat} (hO : OldP M 4 o true) (hj : j < 4) :
    ((chooseM M o j).1 = (0, 0, 8) ∧ (chooseM M j o).1 = (0, 0, 8)) ∨
    ((chooseM M o j).1 = (2, 0, 0) ∧ (((M.t o).waits = true ∧ (chooseM M j o).1 = (2, 0, 0)) ∨ ((M.t o).waits = false ∧ (chooseM M j o).1 = (1, 1, 0)))) := by
  obtain ⟨ho4, _, ho⟩ := hO
  obtain ⟨hor, hmin⟩ := ho rfl
  rw [choose_in M ho4 hj, choose_in M hj ho4]
  by_cases hjr : (M.t j).runs = true
  · by_cases hoj : o = j
    · subst hoj
      left
      rw [if_pos (by simp)]
      exact ⟨rfl, rfl⟩
    · right
      have h1 : ¬ ((M.t o).runs = false ∨ (M.t j).runs = false ∨ (o : Int) = (j : Int)) := by simp [hor, hjr]; omega
      have h2 : ¬ ((M.t j).runs = false ∨ (M.t o).runs = false ∨ (j : Int) = (o : Int)) := by simp [hor, hjr]; omega
      rw [if_neg h1, if_neg h2, hk]
      have hle := hmin j hj hjr
      have hne := h.ne o j hoj hor hjr
      have hlt : (M.t o).stamp < (M.t j).stamp := by omega
      have k1 : killsT 3 (M.t o) (M.t j) = true := by simp [killsT, hlt]
      rw [if_pos k1]
      refine ⟨rfl, ?_⟩
      cases hw : (M.t o).waits with
      | true =>
        left
        rw [if_pos (by simp [killsT, hw])]
        exact ⟨rfl, rfl⟩
      | false =>
        right
        rw [if_neg (by simp [killsT, hw]; omega)]
        exact ⟨rfl, rfl⟩
  · left
    have hjr' : (M.t j).runs = false := by simpa using hjr
    rw [if_pos (.inr (.inl hjr')), if_pos (.inl hjr')]
    exact ⟨rfl, rfl⟩

set_option maxRecDepth 100000 in
set_option maxHeartbeats 1600000 in
theorem moldestlaw_any (ao : Option Addr) (cap : Nat) (l : List DeedM) (x0 x1 : Int) (g0 : 0 ≤ x0) (g1 : x0 ≤ 255) (w : World) (hr : DeedMRow w (.slice ao l.length cap) l) (hl : l.length ≤ maxLen) :
    Calls Try.prog 3 #[.slice ao l.length cap, .agg #[.int .u8 x0, .int .u8 x1]] w (TrueIn w) := by
  have t0 := (Touch.refl w []).alloc (.cells #[.int .u8 x0, .int .u8 x1] 23)
  have hp := HidC.mk (mplay_any 2 (by decide) (by decide) ao cap l (w.alloc (.cells #[.int .u8 x0, .int .u8 x1] 23)) (hr.keep t0 (by simp)) hl)
  have hK : kindK 2 = 3 := by decide
  rw [hK] at hp
  have hinv : MInv 60 (runM (newM 3) (l.take 60)) := by
    have hm := runM_inv 3 (.inr (.inr rfl)) (l.take 60) (by simp; omega)
    obtain ⟨⟨a1, a2, a3, a4, a5⟩, b, c, d⟩ := hm
    have : ((l.take 60).length : Int) ≤ 60 := by simp; omega
    exact ⟨⟨a1, by omega, by omega, fun i => by have := a4 i; omega, a5⟩, b, c, d⟩
  have hk : (runM (newM 3) (l.take 60)).k = 3 := runM_k _ _
  unfold MPlayed at hp
  generalize runM (newM 3) (l.take 60) = M at *
  have hst : (w.alloc (.cells #[.int .u8 x0, .int .u8 x1] 23)).heap[w.heap.size]? = some (.cells #[.int .u8 x0, .int .u8 x1] 23 (0, 0)) := heap_alloc_new w _
  have HT0 : Hid _ := t0
  clear hr hl t0
  obtain ⟨j, hj⟩ : ∃ i : Nat, (i : Int) = x0 % 4 := ⟨(x0 % 4).toNat, by omega⟩
  have hj4 : j < 4 := by omega
  have hmod : x0.tmod 4 = (j : Int) := by rw [hj, Int.tmod_eq_emod_of_nonneg g0]
  clear hj
  have CH := fun (W : World) (b : Nat) (p q : Int) (hW : MObj W b M) => HidC.mk (mchoose_any b 60 M p q hinv.wf W hW)
  have FK := fun (W : World) (b : Nat) (hW : MObj W b M) => HidC.mk (mfork_any b M W hW)
  have HINV : Hid (MInv 60 M) := hinv
  have HKK : Hid (M.k = 3) := hk
  clear hinv hk hK
  have hst' : Hid ((w.alloc (.cells #[.int .u8 x0, .int .u8 x1] 23)).heap[w.heap.size]? = some (.cells #[.int .u8 x0, .int .u8 x1] 23 (0, 0))) := hst
  clear hst
  go_enter Try.func3, Try.ntmps3
  go_wp2_with fail
  refine hp.out.mono ?_
  rintro e w1 ⟨bl, br, rfl, hbl, hbr, hP, t1⟩
  have S1 := (t1.block _ (lt_of_heap hst'.out) (by simp)).trans hst'.out
  have T1 : Touch w w1 [] := HT0.out.trans t1 (by simp)
  have hbl' : w.heap.size ≤ bl := by simp at hbl; omega
  clear hp t1 HT0 hst' hbl hbr
  go_wp2_with fail
  refine (mlive_any _).mono ?_
  rintro e w2 ⟨rfl, t2⟩
  have P2 := hP.touch t2 (by simp)
  have S2 := (t2.block _ (lt_of_heap S1) (by simp)).trans S1
  have T2 : Touch w w2 [] := T1.trans t2 (by simp)
  clear hP S1 T1 t2
  go_wp2_with fail
  refine (moldest_any bl M w2 P2).mono ?_
  rintro e w3 ⟨o, is, rfl, hO, t3⟩
  have P3 := P2.touch t3 (by simp)
  have S3 := (t3.block _ (lt_of_heap S2) (by simp)).trans S2
  have HT3 : Hid (Touch w w3 []) := T2.trans t3 (by simp)
  have c0 : w3.cell? ⟨w.heap.size, 0, none⟩ = some (.int .u8 x0) := by simp [World.cell?, S3]
  clear P2 S2 T2 t3 S3
  cases is with
  | false =>
    clear CH FK P3
    have HOx : Hid _ := hO
    clear hO
    go_wp2
    go_ret
    exact ⟨rfl, HT3.out⟩
  | true =>
    have HG : Hid _ := greedy_oldest HINV.out HKK.out hO hj4
    have WT := fun (W : World) (hW : MObj W bl M) => HidC.mk (mwaits_any bl o M W hW)
    have hto : toldM M o = M.t o := by simp only [toldM]; rw [if_pos (by have := hO.1; omega)]; simp
    rw [hto] at WT
    clear hO hto HINV HKK
    go_wp2_with fail
    refine (FK w3 bl P3).out.mono ?_
    rintro e w4 ⟨f1, rfl, hf1, F1, t4⟩
    have P4 := P3.touch t4 (by simp)
    have hb4 := lt_of_heap P3.st
    have hs3 := HT3.out.size
    have HT4 : Hid (Touch w w4 []) := HT3.out.trans t4 (by simp)
    clear P3 HT3 t4 c0
    go_wp2_with fail
    refine (CH w4 f1 o j F1).out.mono ?_
    rintro e w5 ⟨rfl, _, t5⟩
    have P5 := P4.touch t5 (by simp; omega)
    have hs45 : w3.heap.size ≤ w5.heap.size := by have := lt_of_heap F1.st; have := t5.size; omega
    have HT5 : Hid (Touch w w5 []) := HT4.out.trans t5 (by intro x hx; simp at hx; omega)
    clear P4 HT4 t5 F1
    go_wp2_with fail
    refine (FK w5 bl P5).out.mono ?_
    rintro e w6 ⟨f2, rfl, hf2, F2, t6⟩
    have P6 := P5.touch t6 (by simp)
    have hb6 := lt_of_heap P5.st
    have HT6 : Hid (Touch w w6 []) := HT5.out.trans t6 (by simp)
    have hs5 := HT5.out.size
    clear P5 HT5 t6 FK
    go_wp2_with fail
    refine (CH w6 f2 j o F2).out.mono ?_
    rintro e w7 ⟨rfl, _, t7⟩
    have P7 := P6.touch t7 (by simp; omega)
    have HT7 : Hid (Touch w w7 []) := HT6.out.trans t7 (by intro x hx; simp at hx; omega)
    have W7 := WT w7 P7
    clear P6 HT6 t7 F2 CH WT P7 hb4 hb6 hs3 hs45 hs5 hf1 hf2
    rcases HG.out with ⟨e1, e2⟩ | ⟨e1, ⟨hw, e2⟩ | ⟨hw, e2⟩⟩
    · rw [e1, e2]
      clear e1 e2 HG W7
      go_wp2
      go_ret
      exact ⟨rfl, HT7.out⟩
    · rw [e1, e2]
      rw [hw] at W7
      clear e1 e2 HG hw
      go_wp2_with fail
      refine W7.out.mono ?_
      rintro e w8 ⟨rfl, t8⟩
      clear W7
      go_wp2
      go_ret
      exact ⟨rfl, HT7.out.trans t8 (by simp)⟩
    · rw [e1, e2]
      rw [hw] at W7
      clear e1 e2 HG hw
      go_wp2_with fail
      refine W7.out.mono ?_
      rintro e w8 ⟨rfl, t8⟩
      clear W7
      go_wp2
      go_ret
      exact ⟨rfl, HT7.out.trans t8 (by simp)⟩

end Go.Proofs.Ytgnfonimnlejbaa
