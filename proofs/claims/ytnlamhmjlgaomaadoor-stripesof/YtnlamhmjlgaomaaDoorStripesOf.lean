/-
  StripesOf walked.
-/
import Derived.Test.YtnlamhmjlgaomaaDoorOfRef
import Derived.Test.YtnlamhmjlgaomaaDoorSameInts
namespace Go.Proofs.YtnlamhmjlgaomaaDoor
set_option linter.unusedVariables false
set_option linter.unusedSimpArgs false
open Go.RowKit Go.Sort

theorem IntRow.take {w : World} {ao : Option Addr} {cap : Nat} {l : List Int} (h : IntRow w (.slice ao l.length cap) l) (m c : Nat) (hm : m ≤ l.length) : IntRow w (.slice ao (l.take m).length c) (l.take m) := by
  obtain ⟨ao', cap', e, h1⟩ := h
  simp only [Value.slice.injEq, true_and] at e
  obtain ⟨rfl, rfl⟩ := e
  refine ⟨ao, c, rfl, fun hn => ?_⟩
  obtain ⟨g, off, rfl, hlt, hc⟩ := h1 (fun e => hn (by rw [e]; simp))
  refine ⟨g, off, rfl, hlt, fun k hk => ?_⟩
  rw [List.getElem_take]
  exact hc k (by simp at hk; omega)

set_option maxRecDepth 100000 in
set_option maxHeartbeats 2000000 in
theorem of_walk (n : Int) (h0 : 0 ≤ n) (h1 : n ≤ 255) (v : Int) (ao : Option Addr) (cap : Nat) (l : List Int) (w : World) (S : Sh w) (hr : IntRow w (.slice ao l.length cap) l) (hl : l.length ≤ maxLen) (hcap : l.length ≤ cap) :
    Calls Tryd.prog 3 #[.int .u8 n, .int .i64 v, .slice ao l.length cap] w fun e w' => e = .returned (.bool true) ∧ Touch w w' [] := by
  have hp := play_nil n h0 h1 w
  unfold maxLen at hl
  have HS : Hid _ := S
  obtain ⟨m, hm⟩ : ∃ m : Nat, m = (n % 8 + 1).toNat := ⟨_, rfl⟩
  have hm1 : 1 ≤ m := by omega
  have hm8 : m ≤ 8 := by omega
  rw [← hm] at hp
  clear S hm
  -- what is asked, cut to 20
  obtain ⟨N, hN⟩ : ∃ N, N = l.length := ⟨_, rfl⟩
  have HIR : Hid (IntRow w (.slice ao l.length cap) l) := hr
  have HN : Hid (N = l.length) := hN
  rw [← hN] at hl hcap ⊢
  clear hN hr
  go_enter Tryd.func3, Tryd.ntmps3
  by_cases h20 : N ≤ 20
  · have h20' : decide ((20 : Int) < N) = false := decide_eq_false (by omega)
    go_wp2_with fail
    obtain ⟨q, hq⟩ : ∃ q : List Int, q = l := ⟨_, rfl⟩
    have HQ : Hid (IntRow w (.slice ao N cap) q) := by
      show IntRow w (.slice ao N cap) q
      rw [hq, HN.out]
      exact HIR.out
    have hm20 : q.length ≤ 20 := by rw [hq]; have := HN.out; omega
    have HM : Hid (q.length = N) := by
      show q.length = N
      rw [hq, HN.out]
    clear HIR hq
    refine hp.mono ?_
    rintro e w1 ⟨b, rb, vw, rfl, hP, t1⟩
    clear hp
    have hlv := slive_any w1 (HS.out.touch t1 (by simp))
    have HP : Hid _ := hP
    clear hP
    go_wp2_with fail
    refine hlv.mono ?_
    rintro e w2 ⟨rfl, t2'⟩
    have t2 : Touch w w2 [] := t1.trans t2' (by simp)
    have hP2 := HP.out.keep t2'
    have hlen : (List.replicate m (0 : Int)).length = m := by simp
    have c1 := of_any hP2.t hP2.g.pos v
    have c2 := rof_any hP2.r hP2.g.pos v
    have c3 := tstripes_any hP2.t hP2.g ao cap q (by omega) (by rw [HM.out]; exact IntRow.touch HQ.out t2)
    rw [hlen] at c1 c2 c3
    rw [HM.out] at c3
    have HP2 : Hid _ := hP2
    clear hlv t1 t2' hP2 HP
    go_wp2_with fail
    refine c1.mono ?_
    rintro e w3 ⟨rfl, rfl⟩
    go_wp2_with fail
    refine c2.mono ?_
    rintro e w3 ⟨rfl, rfl⟩
    clear c2
    go_wp2_with fail
    refine c3.mono ?_
    rintro e w3 ⟨v3, B3, rfl, ho3, _, t3⟩
    have hP3 := HP2.out.keep t3
    have c4 := rstripes_any hP3.r hP3.g ao cap q (by omega) (by rw [HM.out]; exact IntRow.touch HQ.out (t2.trans t3 (by simp)))
    rw [hlen, HM.out] at c4
    have HO3 : Hid (w3.ownsRow B3 3 1 _ _ _) := ho3
    have HT3 : Hid (Touch w w3 []) := t2.trans t3 (by simp)
    have HP3 : Hid _ := hP3
    clear c3 ho3 t2 t3 hP3 HP2 c1
    go_wp2_with fail
    refine c4.mono ?_
    rintro e w4 ⟨v4, B4, rfl, ho4, _, t4⟩
    have hP4 := HP3.out.keep t4
    have c5 := sameInts_eq B3 B4 _ _ _ (stripesP m q m) w4 (by have := stripesP_le m q m; omega) (ownsRow_touch HO3.out t4 (by simp)) ho4
    have HT4 : Hid (Touch w w4 []) := HT3.out.trans t4 (by simp)
    have HP4 : Hid _ := hP4
    clear c4 ho4 t4 hP4 HP3 HT3 HO3
    go_wp2_with fail
    refine c5.mono ?_
    rintro e w5 ⟨rfl, t5⟩
    have hP5 := HP4.out.keep t5
    have HT5 : Hid (Touch w w5 []) := HT4.out.trans t5 (by simp)
    have c6 := of_any hP5.t hP5.g.pos v
    have c7 := size_any hP5.t
    rw [hlen] at c6 c7
    clear c5 t5 hP5 HP4 HT4
    by_cases hv0 : v < 0
    · clear c6 c7
      go_wp2
      go_ret
      exact ⟨by simp, HT5.out⟩
    · by_cases hv1 : 12 ≤ v
      · have hv0' : decide (v < 0) = false := decide_eq_false hv0
        clear c6 c7
        go_wp2
        go_ret
        exact ⟨by simp, HT5.out⟩
      · have hv0' : decide (v < 0) = false := decide_eq_false hv0
        have hv1' : decide (12 ≤ v) = false := decide_eq_false hv1
        have ha : 0 ≤ ofP m v := ofP_in (by omega) (by omega) (by omega)
        have hb : ofP m v < m := ofP_lt (by omega) v
        generalize ofP m v = o at *
        go_wp2_with fail
        refine c6.mono ?_
        rintro e w6 ⟨rfl, rfl⟩
        go_wp2_with fail
        refine c6.mono ?_
        rintro e w6 ⟨rfl, rfl⟩
        clear c6
        go_wp2_with fail
        refine c7.mono ?_
        rintro e w6 ⟨rfl, rfl⟩
        clear c7
        go_wp2
        go_ret
        exact ⟨by simp, HT5.out⟩
  · have h20' : (20 : Int) < N := by omega
    go_wp2_with fail
    obtain ⟨q, hq⟩ : ∃ q : List Int, q = l.take 20 := ⟨_, rfl⟩
    have hql : q.length = 20 := by rw [hq]; have := HN.out; simp; omega
    have HQ : Hid (IntRow w (.slice ao 20 cap) q) := by
      have := IntRow.take HIR.out 20 cap (by have := HN.out; omega)
      rw [← hq, hql] at this
      exact this
    have hm20 : q.length ≤ 20 := by omega
    have HM : Hid (q.length = 20) := hql
    clear HIR hq hql
    refine hp.mono ?_
    rintro e w1 ⟨b, rb, vw, rfl, hP, t1⟩
    clear hp
    have hlv := slive_any w1 (HS.out.touch t1 (by simp))
    have HP : Hid _ := hP
    clear hP
    go_wp2_with fail
    refine hlv.mono ?_
    rintro e w2 ⟨rfl, t2'⟩
    have t2 : Touch w w2 [] := t1.trans t2' (by simp)
    have hP2 := HP.out.keep t2'
    have hlen : (List.replicate m (0 : Int)).length = m := by simp
    have c1 := of_any hP2.t hP2.g.pos v
    have c2 := rof_any hP2.r hP2.g.pos v
    have c3 := tstripes_any hP2.t hP2.g ao cap q (by omega) (by rw [HM.out]; exact IntRow.touch HQ.out t2)
    rw [hlen] at c1 c2 c3
    rw [HM.out] at c3
    have HP2 : Hid _ := hP2
    clear hlv t1 t2' hP2 HP
    go_wp2_with fail
    refine c1.mono ?_
    rintro e w3 ⟨rfl, rfl⟩
    go_wp2_with fail
    refine c2.mono ?_
    rintro e w3 ⟨rfl, rfl⟩
    clear c2
    go_wp2_with fail
    refine c3.mono ?_
    rintro e w3 ⟨v3, B3, rfl, ho3, _, t3⟩
    have hP3 := HP2.out.keep t3
    have c4 := rstripes_any hP3.r hP3.g ao cap q (by omega) (by rw [HM.out]; exact IntRow.touch HQ.out (t2.trans t3 (by simp)))
    rw [hlen, HM.out] at c4
    have HO3 : Hid (w3.ownsRow B3 3 1 _ _ _) := ho3
    have HT3 : Hid (Touch w w3 []) := t2.trans t3 (by simp)
    have HP3 : Hid _ := hP3
    clear c3 ho3 t2 t3 hP3 HP2 c1
    go_wp2_with fail
    refine c4.mono ?_
    rintro e w4 ⟨v4, B4, rfl, ho4, _, t4⟩
    have hP4 := HP3.out.keep t4
    have c5 := sameInts_eq B3 B4 _ _ _ (stripesP m q m) w4 (by have := stripesP_le m q m; omega) (ownsRow_touch HO3.out t4 (by simp)) ho4
    have HT4 : Hid (Touch w w4 []) := HT3.out.trans t4 (by simp)
    have HP4 : Hid _ := hP4
    clear c4 ho4 t4 hP4 HP3 HT3 HO3
    go_wp2_with fail
    refine c5.mono ?_
    rintro e w5 ⟨rfl, t5⟩
    have hP5 := HP4.out.keep t5
    have HT5 : Hid (Touch w w5 []) := HT4.out.trans t5 (by simp)
    have c6 := of_any hP5.t hP5.g.pos v
    have c7 := size_any hP5.t
    rw [hlen] at c6 c7
    clear c5 t5 hP5 HP4 HT4
    by_cases hv0 : v < 0
    · clear c6 c7
      go_wp2
      go_ret
      exact ⟨by simp, HT5.out⟩
    · by_cases hv1 : 12 ≤ v
      · have hv0' : decide (v < 0) = false := decide_eq_false hv0
        clear c6 c7
        go_wp2
        go_ret
        exact ⟨by simp, HT5.out⟩
      · have hv0' : decide (v < 0) = false := decide_eq_false hv0
        have hv1' : decide (12 ≤ v) = false := decide_eq_false hv1
        have ha : 0 ≤ ofP m v := ofP_in (by omega) (by omega) (by omega)
        have hb : ofP m v < m := ofP_lt (by omega) v
        generalize ofP m v = o at *
        go_wp2_with fail
        refine c6.mono ?_
        rintro e w6 ⟨rfl, rfl⟩
        go_wp2_with fail
        refine c6.mono ?_
        rintro e w6 ⟨rfl, rfl⟩
        clear c6
        go_wp2_with fail
        refine c7.mono ?_
        rintro e w6 ⟨rfl, rfl⟩
        clear c7
        go_wp2
        go_ret
        exact ⟨by simp, HT5.out⟩

end Go.Proofs.YtnlamhmjlgaomaaDoor
