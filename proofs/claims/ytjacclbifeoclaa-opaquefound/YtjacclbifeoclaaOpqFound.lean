/-
  package opaque: Found BY ITS CONTRACT; live.
-/
import Derived.Test.YtjacclbifeoclaaOpqFill2
namespace Go.Proofs.Ytjacclbifeoclaa
set_option linter.unusedVariables false
set_option linter.unusedSimpArgs false
open Go.RowKit Go.Maps
attribute [local go_sem] Oper.semAt_some

/-- What Found tells. -/
def FoundE (w : World) (res : Int × List Int) (e : Ending) (w' : World) : Prop :=
  Touch w w' [] ∧ ((res.1 ≠ 0 ∧ res.2 = [] ∧ e = .returned (.tuple #[.slice none 0 0, .int .i64 res.1])) ∨ (res.1 = 0 ∧ ∃ a c, e = .returned (.tuple #[.slice a res.2.length c, .int .i64 0]) ∧ intOwn w' w.heap.size (.slice a res.2.length c) res.2))

theorem foundP_one (l : List EvD) (hp com : List Int) (h : begE l hp com ≠ 0) : foundP l hp com = (begE l hp com, []) := by unfold foundP; rw [if_pos h]
theorem foundP_two (l : List EvD) (hp com : List Int) (h : begE l hp com = 0) (h6 : 6 < (attS l).length) : foundP l hp com = (4, []) := by unfold foundP; rw [if_neg (by rw [h]; simp), if_pos h6]
theorem foundP_three (l : List EvD) (hp com : List Int) (h : begE l hp com = 0) (h6 : ¬ 6 < (attS l).length) (hf : foundPl l hp com = none) : foundP l hp com = (5, []) := by unfold foundP; rw [if_neg (by rw [h]; simp), if_neg h6, hf]
theorem foundP_four (l : List EvD) (hp com : List Int) (h : begE l hp com = 0) (h6 : ¬ 6 < (attS l).length) {pl : List Nat} (hf : foundPl l hp com = some pl) : foundP l hp com = (0, pl.map fun i => (attS l).getD i 0) := by unfold foundP; rw [if_neg (by rw [h]; simp), if_neg h6, hf]

/-- What is known where begun has no error. -/
structure BegO (l : List EvD) (hp com : List Int) : Prop where
  named : ∀ e ∈ l, namedS e = true
  hpl : hp.length ≤ 12
  coml : (com ++ inS l 3).length ≤ 100000
  right : rightS l = true
  hok : heapOk hp = true
  each : eachP com (inS l 2) = true
theorem begO_of {l : List EvD} {hp com : List Int} (hl : l.length ≤ 1000) (he : begE l hp com = 0) : BegO l hp com := by
  unfold begE at he
  have hr : rightS l = true := by
    cases hq : rightS l with
    | true => rfl
    | false => rw [if_pos (.inl hq)] at he; cases he
  have hk : heapOk hp = true := by
    cases hq : heapOk hp with
    | true => rfl
    | false => rw [if_pos (.inr hq)] at he; cases he
  rw [if_neg (by rw [hr, hk]; simp)] at he
  have hc : eachP com (inS l 2) = true := by
    cases hq : eachP com (inS l 2) with
    | true => rfl
    | false => rw [if_pos hq] at he; cases he
  refine ⟨right_named hr, ?_, ?_, hr, hk, hc⟩
  · unfold heapOk at hk
    simp only [Bool.and_eq_true, decide_eq_true_eq] at hk
    exact hk.2
  · unfold eachP at hc
    simp only [decide_eq_true_eq] at hc
    have h1 := List.Nodup.length_le_of_subset hc.1 hc.2
    have h2 : (inS l 2).length ≤ (attS l).length := List.length_filter_le _ _
    have h3 : (inS l 3).length ≤ (attS l).length := List.length_filter_le _ _
    have h4 := attS_le l
    rw [List.length_append]
    omega

set_option maxRecDepth 100000 in
set_option maxHeartbeats 4000000 in
theorem found_any {w : World} {ve vh vc : Value} {l : List EvD} {hp com : List Int} (hr : EvRow w ve l) (hl : l.length ≤ 1000) (hwf : ∀ e ∈ l, e.Wf) (hh : VRow w vh hp) (hhl : hp.length ≤ 9223372036854775807) (hc : IRow w vc com) (hcl : com.length ≤ 9223372036854775807) (hcap : ∀ ao n cap, vc = .slice ao n cap → n ≤ cap) :
    Calls Try.prog 10 #[ve, vh, vc] w (FoundE w (foundP l hp com)) := by
  have hbg := begun_any hr hl hwf hh hhl hc hcl hcap
  obtain ⟨aE, cE, rfl⟩ := hr.form
  obtain ⟨aH, cH, rfl⟩ := hh.form
  obtain ⟨aC, cC, rfl⟩ := hc.form
  have HWF : Hid (∀ e ∈ l, e.Wf) := hwf
  have HL : Hid _ := hl
  obtain ⟨res, hres⟩ : ∃ r, r = foundP l hp com := ⟨_, rfl⟩
  rw [← hres]
  have HRES : Hid (res = foundP l hp com) := hres
  clear hr hh hc hcap hwf hres
  generalize l.length = N1 at hbg ⊢
  generalize hp.length = N2 at hbg hhl ⊢
  generalize com.length = N3 at hbg hcl ⊢
  go_enter Try.func10, Try.ntmps10
  go_wp2_with fail
  refine hbg.mono ?_
  intro e w1 hbe
  clear hbg
  rcases hbe with ⟨he, rfl, t1⟩ | ⟨he, rb, vc, vl, vh, rfl, hrow, hrb, t1⟩
  · have HR : Hid _ := HRES.out.trans (foundP_one l hp com he)
    have he' : (begE l hp com == 0) = false := by simpa using he
    have HE : Hid _ := he
    clear he HRES
    generalize begE l hp com = er at *
    go_wp2
    go_ret2
    refine ⟨t1, .inl ?_⟩
    rw [HR.out]
    exact ⟨HE.out, rfl, rfl⟩
  · have ho := begO_of HL.out he
    obtain ⟨aL, cL, rfl⟩ := hrow.lf.form
    obtain ⟨c0, c1, c2, c3⟩ := hrow.row.cells
    have HROW : Hid (RowO w1 rb (.slice aE N1 cE) vc (.slice aL (attS l).length cL) vh l (com ++ inS l 3) (attS l) hp) := hrow
    have HT1 : Hid (Touch w w1 []) := t1
    have HRB : Hid (w.heap.size ≤ rb) := hrb
    have HE : Hid _ := he
    have HO : Hid (BegO l hp com) := ho
    clear hrow t1 hrb he ho c0 c1 c3
    generalize hM : (attS l).length = M at HROW c2
    have HM : Hid ((attS l).length = M) := hM
    clear hM
    by_cases h6 : 6 < M
    · have h6' : (6 : Int) < M := by omega
      have HR : Hid _ := HRES.out.trans (foundP_two l hp com HE.out (by rw [HM.out]; exact h6))
      clear HRES
      go_wp2
      go_ret2
      refine ⟨HT1.out, .inl ?_⟩
      rw [HR.out]
      exact ⟨by decide, rfl, rfl⟩
    · have h6' : ¬ (6 : Int) < M := by omega
      have hfl := filled_any HROW.out HL.out HWF.out HO.out.named HO.out.coml (by rw [HM.out]; omega) HO.out.hpl
      obtain ⟨fr, hfr⟩ : ∃ fr, fr = foundPl l hp com := ⟨_, rfl⟩
      have hfl2 : Calls Try.prog 26 #[ptr rb] w1 (FillE w1 rb (attS l) fr) := by rw [hfr]; exact hfl
      have HFR : Hid _ := hfr
      clear hfl hfr
      go_wp2_with fail
      refine hfl2.mono ?_
      rintro e w2 ⟨t2, ⟨hn, rfl⟩ | ⟨pl, v, hs, rfl, hv⟩⟩
      · have HR : Hid _ := HRES.out.trans (foundP_three l hp com HE.out (by rw [HM.out]; exact h6) (HFR.out ▸ hn))
        have HT2 : Hid (Touch w w2 []) := HT1.out.trans t2 (fun x hx => .inr (by simp at hx; subst hx; exact HRB.out))
        clear HRES hfl2 hn t2
        go_wp2
        go_ret2
        refine ⟨HT2.out, .inl ?_⟩
        rw [HR.out]
        exact ⟨by decide, rfl, rfl⟩
      · have HR : Hid _ := HRES.out.trans (foundP_four l hp com HE.out (by rw [HM.out]; exact h6) (HFR.out ▸ hs))
        have HT2 : Hid (Touch w w2 []) := HT1.out.trans t2 (fun x hx => .inr (by simp at hx; subst hx; exact HRB.out))
        have HV : Hid (intOwn w2 w.heap.size v (pl.map fun i => (attS l).getD i 0)) := by
          rcases hv.2 with h | ⟨g, c, cur, e1, hB, r⟩
          · exact ⟨hv.1, .inl h⟩
          · exact ⟨hv.1, .inr ⟨g, c, cur, e1, Nat.le_trans HT1.out.size hB, r⟩⟩
        obtain ⟨a2, c2', rfl⟩ := owns_slice hv
        clear HRES hfl2 hs t2 hv
        generalize hO : (pl.map fun i => (attS l).getD i 0) = O at *
        generalize hOL : O.length = OL at *
        have HOL : Hid (O.length = OL) := hOL
        clear hO hOL
        go_wp2
        go_ret2
        refine ⟨HT2.out, .inr ?_⟩
        rw [HR.out]
        refine ⟨rfl, a2, c2', ?_, ?_⟩
        · show _ = Ending.returned (.tuple #[.slice a2 O.length c2', _])
          rw [HOL.out]
          rfl
        · show intOwn w2 w.heap.size (.slice a2 O.length c2') O
          rw [HOL.out]
          exact HV.out

/-! ### live -/
def liveEv : List EvD := [⟨1, 0, 0, 0⟩, ⟨1, 1, 0, 0⟩, ⟨2, 0, 1, 0⟩, ⟨2, 1, 1, 0⟩, ⟨3, 0, 1, 4607182418800017408⟩, ⟨3, 1, 1, 4607182418800017408⟩, ⟨7, 0, 0, 0⟩, ⟨8, 0, 0, 0⟩, ⟨7, 1, 0, 0⟩, ⟨8, 1, 0, 0⟩]
theorem live_f1 : foundP liveEv [0, 0] [] = (5, []) := by kernel_rfl
theorem live_l1 : legalP liveEv [0, 0] [0, 1] [] = (1, 9, []) := by kernel_rfl
theorem live_f2 : foundP (liveEv.take 9) [0, 0] [] = (0, [1, 0]) := by kernel_rfl

end Go.Proofs.Ytjacclbifeoclaa
