/-
  package calls: Program BY ITS CONTRACT.
-/
import Derived.Test.YtcbkafbchpjnoaaGreatDoorClProg
namespace Go.Proofs.YtcbkafbchpjnoaaGreatDoor
set_option linter.unusedVariables false
set_option linter.unusedSimpArgs false
open Go.RowKit
attribute [local go_sem] Oper.semAt_some

theorem ck_of {k n t u : Int} {l : List CaD} (ho : okO k n = true) (ha : l.all (areC k u) = true) (ht : (decide (0 ≤ t) && decide (t ≤ 12 - tvN k n)) = true) (hu : (decide (0 ≤ u) && decide (u ≤ 3)) = true) (hw : ∀ c ∈ l, c.Wf) : ∀ c ∈ l, CkOk n t c := by
  intro c hc
  have h1 := (okO_is k n).1 ho
  have h2 := List.all_eq_true.1 ha c hc
  have h3 : tvN k n = if k = 3 then n + 2 else if k = 4 then 2 else 1 := by unfold tvN; rw [ho]; rfl
  rw [h3] at ht
  unfold areC at h2
  simp only [Bool.and_eq_true, decide_eq_true_eq] at h2 ht hu
  obtain ⟨h4, h5, h6⟩ := h2
  unfold tksP at h4
  have h7 : c.k = 5 → rightB c.v = true := by
    intro h
    unfold fitC at h6
    rwa [if_pos (.inl h)] at h6
  have hwf := hw c hc
  rcases h1 with ⟨rfl, h⟩ | ⟨rfl, h⟩ | ⟨rfl, h⟩ | ⟨rfl, h⟩
  · simp at h4 ht
    exact ⟨by omega, by omega, fun _ => by omega, fun _ => by omega, fun _ => by omega, fun _ => by omega, hwf.v, h7⟩
  · simp at h4 ht
    exact ⟨by omega, by omega, fun _ => by omega, fun _ => by omega, fun _ => by omega, fun _ => by omega, hwf.v, h7⟩
  · simp at h4 ht
    exact ⟨by omega, by omega, fun _ => by omega, fun _ => by omega, fun _ => by omega, fun _ => by omega, hwf.v, h7⟩
  · simp at h4 ht
    exact ⟨by omega, by omega, fun _ => by omega, fun _ => by omega, fun _ => by omega, fun _ => by omega, hwf.v, h7⟩

theorem tv_le {k n : Int} (ho : okO k n = true) : 1 ≤ tvN k n ∧ tvN k n ≤ 6 := by
  have h1 := (okO_is k n).1 ho
  have h3 : tvN k n = if k = 3 then n + 2 else if k = 4 then 2 else 1 := by unfold tvN; rw [ho]; rfl
  rw [h3]
  split
  · omega
  · split <;> omega

theorem clbet_is {a b c : Int} {x : Bool} (h : (decide (a ≤ b) && decide (b ≤ c)) = x) (w : World) : Calls Tryz.prog 29 #[.int .i64 a, .int .i64 b, .int .i64 c] w fun e w' => e = .returned (.bool x) ∧ w = w' := by subst h; exact clbet_any a b c w

set_option maxRecDepth 100000 in
set_option maxHeartbeats 2000000 in
theorem program_any {w : World} (hw : Wds w) (k n t u : Int) {ao : Option Addr} {mm cap : Nat} {l : List CaD} (hl : CasIn w ao mm cap l) (hm : mm ≤ 100) :
    Calls Tryz.prog 8 #[.int .u8 k, .int .i64 n, .int .i64 t, .int .i64 u, .slice ao mm cap] w (LkP w (proE k n t u l) (proL n t l)) := by
  obtain ⟨E, hE⟩ : ∃ E, E = proE k n t u l := ⟨_, rfl⟩
  rw [← hE]
  unfold proE at hE
  have HE : Hid _ := hE
  have HL : Hid _ := hl
  have HW : Hid _ := hw
  have HC : HidC _ _ _ _ _ := ⟨onew_any k n w⟩
  clear hE hl hw
  cases ho : okO k n with
  | false =>
    have HE2 : Hid (E = 3) := by show _ = _; rw [HE.out, ho]; rfl
    clear HE
    go_enter Tryz.func8, Tryz.ntmps8
    go_wp2_with fail
    refine HC.out.mono ?_
    clear HC
    rintro e w1 (⟨h, b, rfl, ha, hb, t1⟩ | ⟨h, rfl, t1⟩)
    · rw [ho] at h; cases h
    · have HT : Hid _ := t1
      clear t1
      go_wp2
      exact bodyPost_ret (v := .tuple #[.slice none 0 0, .int .i64 3]) (by simp [results, Tryz.results8, go_sem]) rfl (.inr ⟨by rw [HE2.out]; decide, by rw [HE2.out], HT.out⟩)
  | true =>
    have HO : Hid _ := ho
    have hk := okO_kinds ho
    have HTV : Hid _ := tv_le ho
    have HK : Hid _ := hk
    clear ho hk
    go_enter Tryz.func8, Tryz.ntmps8
    go_wp2_with fail
    refine HC.out.mono ?_
    clear HC
    rintro e w1 (⟨h, b, rfl, ha, hb, t1⟩ | ⟨h, rfl, t1⟩)
    · have hAR := areOf_any HK.out ha u (HL.out.keep t1) hm
      have HT1 : Hid _ := t1
      clear t1 ha h hb
      go_wp2_with fail
      refine hAR.mono ?_
      clear hAR
      rintro e w2 ⟨rfl, t2⟩
      have HT2 : Hid (Touch w w2 []) := HT1.out.trans t2 (by simp)
      clear t2 HT1
      cases hA : l.all (areC k u) with
      | false =>
        have HE2 : Hid (E = 3) := by show _ = _; rw [HE.out, hA]; simp
        clear HE hA
        go_wp2
        exact bodyPost_ret (v := .tuple #[.slice none 0 0, .int .i64 3]) (by simp [results, Tryz.results8, go_sem]) rfl (.inr ⟨by rw [HE2.out]; decide, by rw [HE2.out], HT2.out⟩)
      | true =>
        have HA : Hid _ := hA
        have HTN : Hid (∀ W, HidC Tryz.prog 17 #[.int .u8 k, .int .i64 n] W fun e w' => e = .returned (.int .i64 (tvN k n)) ∧ Touch W w' []) := fun W => ⟨tvars_any k n W⟩
        have hw12 : IntKind.i64.wrap (12 - tvN k n) = 12 - tvN k n := by have := HTV.out; rw [IntKind.wrap_i64]; omega
        have HE3 : Hid (E = if (decide (0 ≤ t) && decide (t ≤ 12 - tvN k n)) && (decide (0 ≤ u) && decide (u ≤ 3)) then (if (runC n t l []).isSome then 0 else 4) else 2) := by
          show _ = _
          rw [HE.out, show okO k n = true from HO.out, show l.all (areC k u) = true from HA.out]
          simp only [Bool.and_self, if_true]
        clear HE hA
        have hck := fun hx hy => ck_of (t := t) HO.out HA.out hx hy HL.out.wf
        have HCK : Hid _ := hck
        clear hck
        generalize tvN k n = tv at *
        go_wp2_with fail
        refine (HTN.out _).out.mono ?_
        rintro e w3 ⟨rfl, t3⟩
        have HT3 : Hid (Touch w w3 []) := HT2.out.trans t3 (by simp)
        clear t3 HTN HT2
        cases hc1 : (decide (0 ≤ t) && decide (t ≤ 12 - tv)) with
        | false =>
          have HE2 : Hid (E = 2) := by show _ = _; rw [HE3.out, hc1]; rfl
          clear HE3
          have HB1 : Hid _ := hc1
          clear hc1
          go_wp2_with fail
          refine (clbet_is HB1.out _).mono ?_
          rintro e _ ⟨rfl, rfl⟩
          go_wp2
          exact bodyPost_ret (v := .tuple #[.slice none 0 0, .int .i64 2]) (by simp [results, Tryz.results8, go_sem]) rfl (.inr ⟨by rw [HE2.out]; decide, by rw [HE2.out], HT3.out⟩)
        | true =>
          cases hc2 : (decide (0 ≤ u) && decide (u ≤ 3)) with
          | false =>
            have HE2 : Hid (E = 2) := by show _ = _; rw [HE3.out, hc1, hc2]; rfl
            clear HE3
            have HB1 : Hid _ := hc1
            have HB2 : Hid _ := hc2
            clear hc1 hc2
            go_wp2_with fail
            refine (clbet_is HB1.out _).mono ?_
            rintro e _ ⟨rfl, rfl⟩
            go_wp2_with fail
            refine (clbet_is HB2.out _).mono ?_
            rintro e _ ⟨rfl, rfl⟩
            go_wp2
            exact bodyPost_ret (v := .tuple #[.slice none 0 0, .int .i64 2]) (by simp [results, Tryz.results8, go_sem]) rfl (.inr ⟨by rw [HE2.out]; decide, by rw [HE2.out], HT3.out⟩)
          | true =>
            have HE2 : Hid (E = if (runC n t l []).isSome then 0 else 4) := by show _ = _; rw [HE3.out, hc1, hc2]; rfl
            have HBU : Hid (HidC Tryz.prog 30 #[.int .i64 n, .int .i64 t, .slice ao mm cap] w3 (BuP w3 (runC n t l []))) := ⟨built_any (HW.out.touch HT3.out (by simp)) n t (HL.out.keep HT3.out) hm (HCK.out hc1 hc2)⟩
            clear HE3 HCK
            have HB1 : Hid _ := hc1
            have HB2 : Hid _ := hc2
            clear hc1 hc2
            have HPL : Hid (proL n t l = (runC n t l []).getD []) := rfl
            generalize runC n t l [] = r at *
            generalize proL n t l = PL at *
            go_wp2_with fail
            refine (clbet_is HB1.out _).mono ?_
            rintro e _ ⟨rfl, rfl⟩
            go_wp2_with fail
            refine (clbet_is HB2.out _).mono ?_
            rintro e _ ⟨rfl, rfl⟩
            go_wp2_with fail
            refine HBU.out.out.mono ?_
            clear HBU
            rintro e w4 (⟨rfl, rfl, t4⟩ | ⟨P, a4, c4, rfl, rfl, i4, t4⟩)
            · have HT4 : Hid (Touch w w4 []) := HT3.out.trans t4 (by simp)
              have HE5 : Hid (E = 4) := HE2.out
              clear t4 HE2
              go_wp2
              exact bodyPost_ret (v := .tuple #[.slice none 0 0, .int .i64 4]) (by simp [results, Tryz.results8, go_sem]) rfl (.inr ⟨by rw [HE5.out]; decide, by rw [HE5.out], HT4.out⟩)
            · have HT4 : Hid (Touch w w4 []) := HT3.out.trans t4 (by simp)
              have HE5 : Hid (E = 0) := HE2.out
              have HI : Hid (InsIn w4 a4 PL.length c4 PL) := by show InsIn _ _ _ _ _; rw [show PL = P from HPL.out]; exact i4
              have HPE : Hid (PL.length = P.length) := by show _ = _; rw [show PL = P from HPL.out]
              clear t4 HE2 i4 HPL
              generalize P.length = pn at *
              go_wp2
              exact bodyPost_ret (v := .tuple #[.slice a4 pn c4, .int .i64 0]) (by simp [results, Tryz.results8, go_sem]) rfl (.inl ⟨HE5.out, a4, c4, by rw [HPE.out], HI.out, HT4.out⟩)
    · rw [show okO k n = true from HO.out] at h; cases h

end Go.Proofs.YtcbkafbchpjnoaaGreatDoor
