/-
  ManagerStamps, WALKED.
-/
import Derived.Test.YtgnfonimnlejbaaMgrLaws
namespace Go.Proofs.Ytgnfonimnlejbaa
set_option linter.unusedVariables false
set_option linter.unusedSimpArgs false
open Go.RowKit

theorem told_stamp {N : Int} {M : MD} (h : MInv N M) (th : Int) : 0 ≤ (toldM M th).stamp ∧ (toldM M th).stamp ≤ M.n := by
  have hn := h.wf.n
  unfold toldM
  split
  · cases hr : (M.t th.toNat).runs with
    | true => have := h.on _ hr; omega
    | false => have := (h.off _ hr).2.2; omega
  · simp; omega

set_option maxRecDepth 100000 in
set_option maxHeartbeats 1600000 in
theorem mstamps_any (k : Int) (h0 : 0 ≤ k) (h1 : k ≤ 255) (ao : Option Addr) (cap : Nat) (l : List DeedM) (th : Int) (g0 : 0 ≤ th) (g1 : th ≤ 255) (w : World) (hr : DeedMRow w (.slice ao l.length cap) l) (hl : l.length ≤ maxLen) :
    Calls Try.prog 5 #[.int .u8 k, .slice ao l.length cap, .int .u8 th] w (TrueIn w) := by
  have hp := HidC.mk (mplay_any k h0 h1 ao cap l w hr hl)
  have hinv : MInv 60 (runM (newM (kindK k)) (l.take 60)) := by
    have hm := runM_inv (kindK k) (kindK_ok h0) (l.take 60) (by simp; omega)
    obtain ⟨⟨a1, a2, a3, a4, a5⟩, b, c, d⟩ := hm
    have : ((l.take 60).length : Int) ≤ 60 := by simp; omega
    exact ⟨⟨a1, by omega, by omega, fun i => by have := a4 i; omega, a5⟩, b, c, d⟩
  unfold MPlayed at hp
  generalize runM (newM (kindK k)) (l.take 60) = M at *
  clear hr hl h0 h1
  obtain ⟨i, hi⟩ : ∃ i : Nat, (i : Int) = th % 4 := ⟨(th % 4).toNat, by omega⟩
  have hi4 : i < 4 := by omega
  have hmod : th.tmod 4 = (i : Int) := by rw [hi, Int.tmod_eq_emod_of_nonneg g0]
  have ST := fun (W : World) (b : Nat) (t : Int) (hW : MObj W b M) => HidC.mk (mstamp_any b t M W hW)
  have BN := fun (W : World) (b : Nat) (hW : MObj W b M) => HidC.mk (mbegan_any b M i false (by have := hinv.wf.n; omega) (by have := hinv.wf.n; omega) W hW)
  have hn0 := hinv.wf.n
  have HTS : Hid (∀ t, 0 ≤ (toldM M t).stamp ∧ (toldM M t).stamp ≤ M.n) := told_stamp hinv
  have HI : Hid (th % 4 = (i : Int)) := hi.symm
  clear hi
  go_enter Try.func5, Try.ntmps5
  go_wp2_with fail
  refine hp.out.mono ?_
  rintro e w1 ⟨bl, br, rfl, hbl, hbr, hP, t1⟩
  clear hp
  go_wp2_with fail
  refine (mlive_any _).mono ?_
  rintro e w2 ⟨rfl, t2⟩
  have P2 := hP.touch t2 (by simp)
  have T2 : Hid (Touch w w2 []) := t1.trans t2 (by simp)
  clear hP t1 t2
  go_wp2_with fail
  go_loopw [11, 12] (fun hgh j wr => ∃ (q : Nat) (v : Int), hgh = .int .i64 v ∧ j = .int .i64 q ∧ q ≤ 4 ∧ 0 ≤ v ∧ v ≤ M.n ∧ MObj wr bl M ∧ Touch w wr []) (fun _ j _ => 4 - (intOf j).toNat)
  case atStart => exact ⟨0, 0, rfl, rfl, by omega, by omega, by omega, P2, T2.out⟩
  case round =>
    obtain ⟨q, v, rfl, rfl, hq, hv0, hv1, hP, t⟩ := hrel
    have HT : Hid (Touch w wr []) := t
    clear t P2 T2
    by_cases hq4 : q < 4
    · have hq4' : (q : Int) < 4 := by omega
      have SQ := fun W hW => ST W bl q hW
      have hb := HTS.out q
      generalize (toldM M q).stamp = sv at *
      go_wp2_with fail
      refine (SQ wr hP).out.mono ?_
      rintro e w3 ⟨rfl, t3⟩
      have HP3 := hP.touch t3 (by simp)
      have HT3 : Hid (Touch w w3 []) := HT.out.trans t3 (by simp)
      clear HT t3 hP
      by_cases hgt : v < sv
      · go_wp2_with fail
        refine (SQ w3 HP3).out.mono ?_
        rintro e w4 ⟨rfl, t4⟩
        have HP : Hid (MObj w4 bl M) := HP3.touch t4 (by simp)
        have HT4 : Hid (Touch w w4 []) := HT3.out.trans t4 (by simp)
        clear HP3 ST BN SQ t4 HT3
        go_wp2
        go_roundw
        case rel => exact ⟨q + 1, sv, rfl, by go_num, by omega, by omega, by omega, HP.out, HT4.out⟩
        case measure => simp [intOf]; omega
      · have HP : Hid (MObj w3 bl M) := HP3
        clear HP3 ST BN SQ
        go_wp2
        go_roundw
        case rel => exact ⟨q + 1, v, rfl, by go_num, by omega, hv0, hv1, HP.out, HT3.out⟩
        case measure => simp [intOf]; omega
    · have hq : q = 4 := by omega
      subst hq
      have hti : toldM M i = M.t i := by simp only [toldM]; rw [if_pos (by omega)]; simp
      have SI := fun W hW => ST W bl i hW
      rw [hti] at SI
      have hS : ∀ y ∈ [bl], y ∈ ([] : List Nat) ∨ w.heap.size ≤ y := by intro y hy; simp at hy; omega
      have HS : Hid (∀ y ∈ [bl], y ∈ ([] : List Nat) ∨ w.heap.size ≤ y) := hS
      clear hS ST hq4 hti
      by_cases hrun : (M.t i).runs = true
      · have e8 : beganM M i false = (8, M) := by
          unfold beganM
          rw [if_neg (by omega), if_pos (by simp [hrun])]
        have AG := fun (W : World) (hW : MObj W bl M) => HidC.mk (mbegan_again bl i hi4 M hrun W hW)
        have S2 := fun (W : World) (hW : MObj W bl (M.put i { M.t i with runs := true, waits := false, tries := 0 })) => HidC.mk (mstamp_any bl i _ W hW)
        have W2 := fun (W : World) (hW : MObj W bl (M.put i { M.t i with runs := true, waits := false, tries := 0 })) => HidC.mk (mwaits_any bl i _ W hW)
        have hti : toldM (M.put i { M.t i with runs := true, waits := false, tries := 0 }) i = { M.t i with runs := true, waits := false, tries := 0 } := by simp only [toldM]; rw [if_pos (by omega)]; simp [MD.put]
        rw [hti] at S2 W2
        have hpos := (hinv.on i hrun).1
        rw [e8] at BN
        simp only at S2 W2
        clear hinv e8 hti HTS hn0
        go_wp2_with fail
        refine (SI wr hP).out.mono ?_
        rintro e w3 ⟨rfl, t3⟩
        have P3 := hP.touch t3 (by simp)
        have HT3 : Hid (Touch w w3 []) := HT.out.trans t3 (by simp)
        clear SI HT t3 hP
        go_wp2_with fail
        refine (BN w3 bl P3).out.mono ?_
        rintro e w4 ⟨rfl, P4, t4⟩
        have HT4 : Hid (Touch w w4 []) := HT3.out.trans t4 HS.out
        clear BN HT3 t4 P3
        go_wp2_with fail
        refine (AG w4 P4).out.mono ?_
        rintro e w5 ⟨rfl, P5, t5⟩
        have HT5 : Hid (Touch w w5 []) := HT4.out.trans t5 HS.out
        clear AG HT4 t5 P4
        go_wp2_with fail
        refine (S2 w5 P5).out.mono ?_
        rintro e w6 ⟨rfl, t6⟩
        have P6 := P5.touch t6 (by simp)
        have HT6 : Hid (Touch w w6 []) := HT5.out.trans t6 (by simp)
        clear S2 HT5 t6 P5
        go_wp2_with fail
        refine (W2 w6 P6).out.mono ?_
        rintro e w7 ⟨rfl, t7⟩
        have HT7 : Hid (Touch w w7 []) := HT6.out.trans t7 (by simp)
        clear W2 HT6 t7 P6
        go_wp2
        go_ret
        exact ⟨rfl, HT7.out⟩
      · have hrun' : (M.t i).runs = false := by simpa using hrun
        have BW := fun (W : World) (hW : MObj W bl M) => HidC.mk (mbegan_new bl i hi4 M hrun' (by omega) (by omega) W hW)
        have hst := (hinv.off i hrun').2.2
        have S2 := fun (W : World) (hW : MObj W bl { M.put i ⟨true, false, 0, 0, M.n + 1⟩ with n := M.n + 1 }) => HidC.mk (mstamp_any bl i _ W hW)
        have M2 := fun (W : World) (hW : MObj W bl { M.put i ⟨true, false, 0, 0, M.n + 1⟩ with n := M.n + 1 }) => HidC.mk (mmerit_any bl i _ W hW)
        have R2 := fun (W : World) (hW : MObj W bl { M.put i ⟨true, false, 0, 0, M.n + 1⟩ with n := M.n + 1 }) => HidC.mk (mtries_any bl i _ W hW)
        have hti : toldM { M.put i ⟨true, false, 0, 0, M.n + 1⟩ with n := M.n + 1 } i = ⟨true, false, 0, 0, M.n + 1⟩ := by simp only [toldM]; rw [if_pos (by omega)]; simp [MD.put]
        rw [hti] at S2 M2 R2
        simp only at S2 M2 R2
        rw [hst] at SI
        have hv2 : v < M.n + 1 := by omega
        clear hinv hst hti HTS BN hrun hrun'
        go_wp2_with fail
        refine (SI wr hP).out.mono ?_
        rintro e w3 ⟨rfl, t3⟩
        have P3 := hP.touch t3 (by simp)
        have HT3 : Hid (Touch w w3 []) := HT.out.trans t3 (by simp)
        clear SI HT t3 hP
        go_wp2_with fail
        refine (BW w3 P3).out.mono ?_
        rintro e w4 ⟨rfl, P4, t4⟩
        have HT4 : Hid (Touch w w4 []) := HT3.out.trans t4 HS.out
        clear BW HT3 t4 P3
        go_wp2_with fail
        refine (S2 w4 P4).out.mono ?_
        rintro e w5 ⟨rfl, t5⟩
        have P5 := P4.touch t5 (by simp)
        have HT5 : Hid (Touch w w5 []) := HT4.out.trans t5 (by simp)
        clear S2 HT4 t5 P4
        go_wp2_with fail
        refine (M2 w5 P5).out.mono ?_
        rintro e w6 ⟨rfl, t6⟩
        have P6 := P5.touch t6 (by simp)
        have HT6 : Hid (Touch w w6 []) := HT5.out.trans t6 (by simp)
        clear M2 HT5 t6 P5
        go_wp2_with fail
        refine (R2 w6 P6).out.mono ?_
        rintro e w7 ⟨rfl, t7⟩
        have HT7 : Hid (Touch w w7 []) := HT6.out.trans t7 (by simp)
        clear R2 HT6 t7 P6
        go_wp2
        go_ret
        exact ⟨rfl, HT7.out⟩

end Go.Proofs.Ytgnfonimnlejbaa
