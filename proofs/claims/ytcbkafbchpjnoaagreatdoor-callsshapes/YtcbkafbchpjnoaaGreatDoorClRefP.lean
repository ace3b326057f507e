/-
  The document's Program BY ITS CONTRACT. Written by mkclr3.py.
-/
import Derived.Test.YtcbkafbchpjnoaaGreatDoorClRefB
namespace Go.Proofs.YtcbkafbchpjnoaaGreatDoor
set_option linter.unusedVariables false
set_option linter.unusedSimpArgs false
open Go.RowKit
attribute [local go_sem] Oper.semAt_some

theorem rblk_any (w : World) (a : Int) (ha : 0 ≤ a ∧ a ≤ 64) (n t : Int) (c : CaD) (h : CkOk n t c) :
    Calls Tryz.prog 33 #[.int .i64 a, .int .i64 n, .int .i64 t, .agg #[.int .u8 c.k, .int .i64 c.u, .int .u64 c.v]] w (LkP w (rbE a c) (rbL n t a c)) := by
  obtain ⟨k, u, v⟩ := c
  have hk : k = 1 ∨ k = 2 ∨ k = 3 ∨ k = 4 ∨ k = 5 ∨ k = 6 ∨ k = 7 ∨ k = 8 := by have := h.hk; simp only at this; omega
  rcases hk with rfl | rfl | rfl | rfl | rfl | rfl | rfl | rfl
  · exact rblk_1 w a ha n t u v h
  · exact rblk_2 w a ha n t u v h
  · exact rblk_3 w a ha n t u v h
  · exact rblk_4 w a ha n t u v h
  · exact rblk_5 w a ha n t u v h
  · exact rblk_6 w a ha n t u v h
  · exact rblk_7 w a ha n t u v h
  · exact rblk_8 w a ha n t u v h

theorem step_is (n t : Int) (acc : List InsD) (c : CaD) : stepC n t acc c = acc ++ rbL n t (acc.length : Nat) c ++ ansC c.k := by
  unfold stepC rbL
  rw [List.length_append, ← List.append_assoc, Int.natCast_add]
theorem rbE_is (acc : List InsD) (c : CaD) : rbE (acc.length : Nat) c = if acc.length + ((ahdC c).length + lenC c.k) > 64 then 4 else 0 := by
  unfold rbE
  by_cases h : acc.length + ((ahdC c).length + lenC c.k) > 64
  · rw [if_pos h, if_pos (by omega)]
  · rw [if_neg h, if_neg (by omega)]
theorem rbL_len (n t a : Int) (c : CaD) : (rbL n t a c).length = (ahdC c).length + lenC c.k := by
  unfold rbL; rw [List.length_append, blkC_len]
theorem run_no {n t : Int} {acc : List InsD} {c : CaD} {l : List CaD} (h : (stepC n t acc c).length ≥ 64) : runC n t (c :: l) acc = none := by
  rw [runC]
  by_cases h64 : (stepC n t acc c).length > 64
  · rw [if_pos h64]
  · rw [if_neg h64]; exact runC_full n t l _ h
theorem run_go {n t : Int} {acc : List InsD} {c : CaD} {l : List CaD} (h : (stepC n t acc c).length < 64) : runC n t (c :: l) acc = runC n t l (stepC n t acc c) := by
  rw [runC, if_neg (by omega)]

set_option maxRecDepth 100000 in
set_option maxHeartbeats 1500000 in
theorem rprogram_any (k n t u : Int) {w : World} {ao : Option Addr} {mm cap : Nat} {l : List CaD} (hl : CasIn w ao mm cap l) (hm : mm ≤ 100) :
    Calls Tryz.prog 10 #[.int .u8 k, .int .i64 n, .int .i64 t, .int .i64 u, .slice ao mm cap] w (LkP w (proE k n t u l) (proL n t l)) := by
  obtain ⟨E, hE⟩ : ∃ E, E = proE k n t u l := ⟨_, rfl⟩
  rw [← hE]
  unfold proE at hE
  have HE : Hid _ := hE
  have HL : Hid _ := hl
  have HM : Hid _ := hl.len
  have HC : HidC _ _ _ _ _ := ⟨rnewC_any k n w⟩
  clear hE hl
  cases ho : okO k n with
  | false =>
    have HE2 : Hid (E = 3) := by show _ = _; rw [HE.out, ho]; rfl
    clear HE
    go_enter Tryz.func10, Tryz.ntmps10
    go_wp2_with fail
    refine HC.out.mono ?_
    clear HC
    rintro e w1 (⟨h, b, rfl, ha, hb, t1⟩ | ⟨h, rfl, t1⟩)
    · rw [ho] at h; cases h
    · have HT : Hid _ := t1
      clear t1
      go_wp2
      exact bodyPost_ret (v := .tuple #[.slice none 0 0, .int .i64 3]) (by simp [results, Tryz.results10, go_sem]) rfl (.inr ⟨by rw [HE2.out]; decide, by rw [HE2.out], HT.out⟩)
  | true =>
    have HO : Hid _ := ho
    have hk := okO_kinds ho
    have HTV : Hid _ := tv_le ho
    have HK : Hid _ := hk
    clear ho hk
    go_enter Tryz.func10, Tryz.ntmps10
    go_wp2_with fail
    refine HC.out.mono ?_
    clear HC
    rintro e w1 (⟨h, b, rfl, ha, hb, t1⟩ | ⟨h, rfl, t1⟩)
    rotate_left
    · rw [show okO k n = true from HO.out] at h; cases h
    have HT1 : Hid _ := t1
    have HRO : Hid _ := ha
    clear t1 ha h hb
    go_wp2_with fail
    go_loopw [13] (fun i wr => ∃ j : Nat, i = .int .i64 j ∧ j ≤ mm ∧ l.all (areC k u) = (l.drop j).all (areC k u) ∧ Touch w1 wr []) (fun i _ => mm - (intOf i).toNat)
    case atStart => exact ⟨0, rfl, Nat.zero_le _, rfl, Touch.refl _ _⟩
    case round =>
      obtain ⟨j, rfl, hj, hR, hT⟩ := hrel
      by_cases hlt : j < mm
      · have h1 : (j : Int) < mm := by omega
        have h0 : (0 : Int) ≤ j := by omega
        have hjl : j < l.length := by rw [← HM.out]; exact hlt
        have hjc : j < cap := Nat.lt_of_lt_of_le hlt HL.out.le
        obtain ⟨g, off, rfl, hg, x0, x1, x2⟩ := ((HL.out.keep HT1.out).keep hT).at j hjl
        have hdrop : l.drop j = l[j] :: l.drop (j + 1) := List.drop_eq_getElem_cons hjl
        rw [hdrop, List.all_cons] at hR
        have hCW := HL.out.wf l[j] (List.getElem_mem hjl)
        generalize l[j] = cc at *
        obtain ⟨c, v, x⟩ := cc
        simp only at x0 x1 x2
        have HTA : Hid (HidC Tryz.prog 31 #[.pointer (some ⟨b, 0, none⟩), .int .u8 c] wr fun e w' => e = .returned (.bool (tksP k c)) ∧ wr = w') := ⟨rtakesC_any HK.out (RoN.touch (show RoN w1 b k n from HRO.out) hT (by simp)) c⟩
        have HFI : Hid (HidC Tryz.prog 32 #[.agg #[.int .u8 c, .int .i64 v, .int .u64 x]] wr fun e w' => e = .returned (.bool (fitC ⟨c, v, x⟩)) ∧ Touch wr w' []) := ⟨rfits_any ⟨c, v, x⟩ hCW.v wr⟩
        have hfe : areC k u ⟨c, v, x⟩ = (tksP k c && (decide (v = u) && fitC ⟨c, v, x⟩)) := rfl
        rw [hfe] at hR
        have HR : Hid _ := hR
        have HTR : Hid _ := hT
        clear hR hT hdrop hCW hfe
        generalize fitC ⟨c, v, x⟩ = fb at *
        generalize tksP k c = tb at *
        go_wp2_with fail
        refine HTA.out.out.mono ?_
        clear HTA
        rintro e w2 ⟨rfl, rfl⟩
        cases tb with
        | false =>
          have HE2 : Hid (E = 3) := by show _ = _; rw [HE.out, show l.all (areC k u) = _ from HR.out]; simp
          have HTT : Hid (Touch w wr []) := HT1.out.trans HTR.out (by simp)
          clear HR HFI HE
          go_wp2
          exact bodyPost_ret (v := .tuple #[.slice none 0 0, .int .i64 3]) (by simp [results, Tryz.results10, go_sem]) rfl (.inr ⟨by rw [HE2.out]; decide, by rw [HE2.out], HTT.out⟩)
        | true =>
          by_cases hvu : v = u
          · subst hvu
            go_wp2_with fail
            refine HFI.out.out.mono ?_
            clear HFI
            rintro e w3 ⟨rfl, t3⟩
            have HTX : Hid (Touch w1 w3 []) := HTR.out.trans t3 (by simp)
            clear t3
            cases fb with
            | false =>
              have HE2 : Hid (E = 3) := by show _ = _; rw [HE.out, show l.all (areC k v) = _ from HR.out]; simp
              have HTT : Hid (Touch w w3 []) := HT1.out.trans HTX.out (by simp)
              clear HR HE
              go_wp2
              exact bodyPost_ret (v := .tuple #[.slice none 0 0, .int .i64 3]) (by simp [results, Tryz.results10, go_sem]) rfl (.inr ⟨by rw [HE2.out]; decide, by rw [HE2.out], HTT.out⟩)
            | true =>
              have HR2 : Hid (l.all (areC k v) = (l.drop (j + 1)).all (areC k v)) := by show _ = _; rw [show l.all (areC k v) = _ from HR.out]; simp
              clear HR
              go_wp2
              go_roundw
              case rel => exact ⟨j + 1, by go_num, by omega, HR2.out, HTX.out⟩
              case measure => simp [intOf]; omega
          · have HE2 : Hid (E = 3) := by show _ = _; rw [HE.out, show l.all (areC k u) = _ from HR.out]; simp [hvu]
            have HTT : Hid (Touch w wr []) := HT1.out.trans HTR.out (by simp)
            clear HR HFI HE
            go_wp2
            exact bodyPost_ret (v := .tuple #[.slice none 0 0, .int .i64 3]) (by simp [results, Tryz.results10, go_sem]) rfl (.inr ⟨by rw [HE2.out]; decide, by rw [HE2.out], HTT.out⟩)
      · have h1 : ¬ (j : Int) < mm := by omega
        have hjN : j = l.length := by rw [← HM.out]; omega
        rw [hjN, List.drop_length] at hR
        have HA : Hid (l.all (areC k u) = true) := hR
        have HT2 : Hid (Touch w wr []) := HT1.out.trans hT (by simp)
        clear hR hT HT1 HRO
        have HTN : Hid (∀ W, HidC Tryz.prog 18 #[.int .u8 k, .int .i64 n] W fun e w' => e = .returned (.int .i64 (tvN k n)) ∧ Touch W w' []) := fun W => ⟨rtvars_any k n W⟩
        have hw12 : IntKind.i64.wrap (12 - tvN k n) = 12 - tvN k n := by have := HTV.out; rw [IntKind.wrap_i64]; omega
        have HE3 : Hid (E = if (decide (0 ≤ t) && decide (t ≤ 12 - tvN k n)) && (decide (0 ≤ u) && decide (u ≤ 3)) then (if (runC n t l []).isSome then 0 else 4) else 2) := by
          show _ = _
          rw [HE.out, show okO k n = true from HO.out, show l.all (areC k u) = true from HA.out]
          simp only [Bool.and_self, if_true]
        clear HE
        have hck := fun hx hy => ck_of (t := t) HO.out HA.out hx hy HL.out.wf
        have HCK : Hid _ := hck
        clear hck
        generalize tvN k n = tv at *
        by_cases ht0 : t < 0
        · have HE2 : Hid (E = 2) := by show _ = _; rw [HE3.out, decide_eq_false (show ¬ 0 ≤ t by omega)]; rfl
          clear HE3
          go_wp2
          exact bodyPost_ret (v := .tuple #[.slice none 0 0, .int .i64 2]) (by simp [results, Tryz.results10, go_sem]) rfl (.inr ⟨by rw [HE2.out]; decide, by rw [HE2.out], HT2.out⟩)
        have ht0' : 0 ≤ t := by omega
        by_cases ht1 : t > 12 - tv
        · have HE2 : Hid (E = 2) := by show _ = _; rw [HE3.out, decide_eq_false (show ¬ t ≤ 12 - tv by omega)]; simp
          have ht1' : 12 - tv < t := ht1
          clear HE3 ht1
          go_wp2_with fail
          refine (HTN.out _).out.mono ?_
          rintro e w3 ⟨rfl, t3⟩
          have HT3 : Hid (Touch w w3 []) := HT2.out.trans t3 (by simp)
          clear t3 HTN HT2
          go_wp2
          exact bodyPost_ret (v := .tuple #[.slice none 0 0, .int .i64 2]) (by simp [results, Tryz.results10, go_sem]) rfl (.inr ⟨by rw [HE2.out]; decide, by rw [HE2.out], HT3.out⟩)
        have ht1' : ¬ 12 - tv < t := ht1
        by_cases hu0 : u < 0
        · have HE2 : Hid (E = 2) := by show _ = _; rw [HE3.out, decide_eq_false (show ¬ 0 ≤ u by omega)]; simp
          clear HE3 ht1
          go_wp2_with fail
          refine (HTN.out _).out.mono ?_
          rintro e w3 ⟨rfl, t3⟩
          have HT3 : Hid (Touch w w3 []) := HT2.out.trans t3 (by simp)
          clear t3 HTN HT2
          go_wp2
          exact bodyPost_ret (v := .tuple #[.slice none 0 0, .int .i64 2]) (by simp [results, Tryz.results10, go_sem]) rfl (.inr ⟨by rw [HE2.out]; decide, by rw [HE2.out], HT3.out⟩)
        by_cases hu1 : u ≥ 4
        · have HE2 : Hid (E = 2) := by show _ = _; rw [HE3.out, decide_eq_false (show ¬ u ≤ 3 by omega)]; simp
          have hu1' : 4 ≤ u := hu1
          clear HE3 ht1
          go_wp2_with fail
          refine (HTN.out _).out.mono ?_
          rintro e w3 ⟨rfl, t3⟩
          have HT3 : Hid (Touch w w3 []) := HT2.out.trans t3 (by simp)
          clear t3 HTN HT2
          go_wp2
          exact bodyPost_ret (v := .tuple #[.slice none 0 0, .int .i64 2]) (by simp [results, Tryz.results10, go_sem]) rfl (.inr ⟨by rw [HE2.out]; decide, by rw [HE2.out], HT3.out⟩)
        have hc1 : (decide (0 ≤ t) && decide (t ≤ 12 - tv)) = true := by rw [decide_eq_true ht0', decide_eq_true (show t ≤ 12 - tv by omega)]; rfl
        have hc2 : (decide (0 ≤ u) && decide (u ≤ 3)) = true := by rw [decide_eq_true (show 0 ≤ u by omega), decide_eq_true (show u ≤ 3 by omega)]; rfl
        have HE2 : Hid (E = if (runC n t l []).isSome then 0 else 4) := by show _ = _; rw [HE3.out, hc1, hc2]; rfl
        have hCKA := HCK.out hc1 hc2
        have HCKA : Hid _ := hCKA
        have HPL : Hid (proL n t l = (runC n t l []).getD []) := rfl
        obtain ⟨R, hR⟩ : ∃ r, r = runC n t l [] := ⟨_, rfl⟩
        have HRR : Hid _ := hR
        rw [← hR] at HE2 HPL
        generalize proL n t l = PL at *
        have hu1' : ¬ 4 ≤ u := hu1
        clear HE3 HCK hCKA ht1 hu1 hc1 hc2 hR
        go_wp2_with fail
        refine (HTN.out _).out.mono ?_
        rintro e w3 ⟨rfl, t3⟩
        have HT3 : Hid (Touch w w3 []) := HT2.out.trans t3 (by simp)
        clear t3 HTN HT2
        go_wp2_with fail
        go_loopw [14, 15] (fun vv i wr => ∃ (j : Nat) (acc : List InsD) (a : Option Addr) (c : Nat), i = .int .i64 j ∧ j ≤ mm ∧ vv = .slice a acc.length c ∧ R = runC n t (l.drop j) acc ∧ insOwn wr w.heap.size (.slice a acc.length c) acc ∧ (∀ i ∈ acc, i.Wf) ∧ acc.length < 64 ∧ Touch w wr []) (fun _ i _ => mm - (intOf i).toNat)
        case atStart => exact ⟨0, [], none, 0, rfl, Nat.zero_le _, rfl, HRR.out, World.ownsRow_nil _ _ _ _, fun i hi => by simp at hi, by simp, HT3.out⟩
        case round =>
          obtain ⟨j, acc, a, c0, rfl, hj, rfl, hR, hown, hwf, hle, hT⟩ := hrel
          by_cases hlt : j < mm
          · have h1 : (j : Int) < mm := by omega
            have h0 : (0 : Int) ≤ j := by omega
            have hjl : j < l.length := by rw [← HM.out]; exact hlt
            have hjc : j < cap := Nat.lt_of_lt_of_le hlt HL.out.le
            obtain ⟨g, off, rfl, hg, z0, z1, z2⟩ := HL.out.at j hjl
            have HCL : Hid (∀ W, Touch w W [] → W.cell? ⟨g, off + j * 3, none⟩ = some (.int .u8 l[j].k) ∧ W.cell? ⟨g, off + j * 3 + 1, none⟩ = some (.int .i64 l[j].u) ∧ W.cell? ⟨g, off + j * 3 + 2, none⟩ = some (.int .u64 l[j].v)) := fun W tW => ⟨(tW.cell (p := ⟨g, off + j * 3, none⟩) hg (by simp)).trans z0, (tW.cell (p := ⟨g, off + j * 3 + 1, none⟩) hg (by simp)).trans z1, (tW.cell (p := ⟨g, off + j * 3 + 2, none⟩) hg (by simp)).trans z2⟩
            obtain ⟨x0, x1, x2⟩ := HCL.out wr hT
            clear z0 z1 z2 hg
            have hdrop : l.drop j = l[j] :: l.drop (j + 1) := List.drop_eq_getElem_cons hjl
            rw [hdrop] at hR
            have hCK := HCKA.out l[j] (List.getElem_mem hjl)
            generalize l[j] = cc at *
            have hblk := rblk_any wr (acc.length : Nat) ⟨by omega, by omega⟩ n t cc hCK
            have hkk := hCK.hk
            have HBLK : HidC _ _ _ _ _ := ⟨hblk⟩
            have HST : Hid (stepC n t acc cc = acc ++ rbL n t (acc.length : Nat) cc ++ ansC cc.k) := step_is n t acc cc
            have HRBE : Hid (rbE (acc.length : Nat) cc = if acc.length + ((ahdC cc).length + lenC cc.k) > 64 then 4 else 0) := rbE_is acc cc
            have HML : Hid ((rbL n t (acc.length : Nat) cc).length = (ahdC cc).length + lenC cc.k) := rbL_len _ _ _ _
            have HLEN : Hid (lenC cc.k ≤ 100 ∧ (ahdC cc).length ≤ 2) := by
              refine ⟨?_, ?_⟩
              · unfold lenC; repeat' split
                all_goals omega
              · unfold ahdC; split <;> simp
            have HSTL : Hid _ := stepC_len n t acc cc
            generalize rbL n t (acc.length : Nat) cc = M at *
            generalize rbE (acc.length : Nat) cc = ER at *
            have HRD : Hid _ := hR
            have HOW : Hid (insOwn wr w.heap.size (.slice a acc.length c0) acc) := hown
            have HWA : Hid _ := hwf
            have HTW : Hid _ := hT
            obtain ⟨ck, cu, cv⟩ := cc
            simp only at x0 x1 x2 hkk
            clear hdrop hCK hblk hR hown hwf hT
            obtain ⟨q, hq⟩ : ∃ q, q = acc.length := ⟨_, rfl⟩
            have HQ : Hid _ := hq
            have hqle : q < 64 := by omega
            simp only [← hq] at HBLK ⊢
            clear hq
            go_wp2_with fail
            refine HBLK.out.mono ?_
            clear HBLK
            rintro e w4 (⟨he, ao, cp, rfl, hi, t4⟩ | ⟨he, rfl, t4⟩)
            · have hm0 : acc.length + ((ahdC ⟨ck, cu, cv⟩).length + lenC ck) ≤ 64 := by
                have := HRBE.out
                rw [he] at this
                by_cases hgt : acc.length + ((ahdC ⟨ck, cu, cv⟩).length + lenC ck) > 64
                · rw [if_pos hgt] at this; cases this
                · omega
              have ho4 : insOwn w4 w.heap.size (.slice a acc.length c0) acc := ownsRow_touch HOW.out t4 (by simp)
              have ht4 : Touch w w4 [] := HTW.out.trans t4 (by simp)
              have hml : M.length = (ahdC ⟨ck, cu, cv⟩).length + lenC ck := HML.out
              obtain ⟨a5, c5, w5, r5, o5, t5⟩ := ins_app ho4 (by omega) ht4.size hi (by omega) 25
              obtain ⟨q5, hq5⟩ : ∃ q5, q5 = acc.length + M.length := ⟨_, rfl⟩
              rw [← hq5] at r5 o5
              rw [← (show q = acc.length from HQ.out)] at r5
              have HQ5 : Hid ((acc ++ M).length = q5) := by show _ = _; rw [List.length_append, hq5]
              have hq5b : q5 ≤ 64 := by omega
              have HO5 : Hid (insOwn w5 w.heap.size (.slice a5 q5 c5) (acc ++ M)) := o5
              have HWM : Hid (∀ i ∈ M, i.Wf) := hi.wf
              have HT5 : Hid (Touch w w5 []) := ht4.trans t5 (fun x hx => .inr (World.ownsRow.lt ho4 x (by simpa using hx)).1)
              have y0 : w5.cell? ⟨g, off + j * 3, none⟩ = some (.int .u8 ck) := (HCL.out w5 HT5.out).1
              have her : ER = 0 := he
              subst her
              clear x0 x1 x2 HCL hi he t4 ho4 ht4 o5 t5 HRBE hq5 HML HSTL HLEN hml hm0 HOW HTW
              generalize M.length = ml at *
              have HNO : Hid ((stepC n t acc ⟨ck, cu, cv⟩).length ≥ 64 → R = none) := fun h => by rw [HRD.out]; exact run_no h
              have HGO : Hid ((stepC n t acc ⟨ck, cu, cv⟩).length < 64 → R = runC n t (l.drop (j + 1)) (stepC n t acc ⟨ck, cu, cv⟩)) := fun h => by rw [HRD.out]; exact run_go h
              clear HRD
              generalize stepC n t acc ⟨ck, cu, cv⟩ = SC at *
              by_cases hk2 : ck = 2 ∨ ck = 6 ∨ ck = 7
              · have HST2 : Hid (SC = acc ++ M ++ [insO 27 0]) := by show _ = _; rw [HST.out]; unfold ansC; rw [if_pos hk2]
                clear HST
                rcases hk2 with rfl | rfl | rfl
                all_goals
                    go_wp2_with (at_builtin; refine Lib.wpList_append_run _ rfl (.tmp 94) (.tmp 95) _ _ rfl _ _ rfl rfl _ _ r5 ?_)
                    refine (rO_any _ _ _).mono ?_
                    rintro e w8 ⟨rfl, s8⟩
                    have HT8 : Hid (Touch w w8 []) := HT5.out.trans s8 (by simp)
                    have HO8 : insOwn w8 w.heap.size (.slice a5 q5 c5) (acc ++ M) := ownsRow_touch HO5.out s8 (by simp)
                    clear s8
                    obtain ⟨a9, c9, w9, r9, o9, t9⟩ := flstep HO8 HT8.out [insO 27 0] #[.int .u8 27, .int .i64 0, .int .u64 0] q5 1 (q5 + 1) (HQ5.out) rfl rfl (by omega) rfl
                    have e9 : (acc ++ M) ++ [insO 27 0] = SC := by rw [HST2.out]
                    have HSL : (SC).length = q5 + 1 := by rw [← e9, List.length_append, HQ5.out]; rfl
                    rw [e9] at o9
                    have HW9 : Hid (∀ i ∈ SC, i.Wf) := by
                      intro i hi
                      rw [← e9] at hi
                      simp only [List.mem_append, List.mem_singleton] at hi
                      rcases hi with (hi | hi) | rfl
                      · exact HWA.out i hi
                      · exact HWM.out i hi
                      · exact insO_wf (by omega) (by omega) (by omega) (by omega)
                    have HO9 : Hid _ := o9
                    have HT9 : Hid _ := t9
                    clear o9 t9 HO8 HT8 e9 HO5 HT5
                    obtain ⟨q9, hq9⟩ : ∃ q, q = q5 + 1 := ⟨_, rfl⟩
                    rw [← hq9] at r9 HSL HO9
                    have hq9b : q9 ≤ 70 := by omega
                    clear hq9
                    by_cases h64 : (q9 : Int) ≥ 64
                    · have h64' : (64 : Int) ≤ q9 := h64
                      have HRN : Hid (R = none) := by show _ = _; exact HNO.out (by omega)
                      have HEN : Hid (E = 4) := by show _ = _; rw [HE2.out, HRN.out]; rfl
                      clear h64 HE2 HPL
                      go_wp2_with (at_builtin; refine Lib.wpList_append_run _ rfl (.tmp 116) (.tmp 118) _ _ rfl _ _ rfl rfl _ _ r9 ?_)
                      exact bodyPost_ret (v := .tuple #[.slice none 0 0, .int .i64 4]) (by simp [results, Tryz.results10, go_sem]) rfl (.inr ⟨by rw [HEN.out]; decide, by rw [HEN.out], HT9.out⟩)
                    · have h64' : ¬ (64 : Int) ≤ q9 := h64
                      have HRG : Hid (R = runC n t (l.drop (j + 1)) (SC)) := by show _ = _; exact HGO.out (by omega)
                      have hsl := HSL
                      have HSLH : Hid _ := HSL
                      clear HSL
                      clear h64 HST2 hsl
                      go_wp2_with (at_builtin; refine Lib.wpList_append_run _ rfl (.tmp 116) (.tmp 118) _ _ rfl _ _ rfl rfl _ _ r9 ?_)
                      refine ⟨⟨j + 1, SC, a9, c9, by go_num, by omega, by rw [HSLH.out], HRG.out, by have h := HO9.out; rw [show (Value.slice a9 SC.length c9) = .slice a9 q9 c9 by rw [HSLH.out]]; exact h, HW9.out, by rw [HSLH.out]; omega, HT9.out⟩, ?_⟩
                      simp [intOf]; omega
              · have HST2 : Hid (SC = acc ++ M ++ [insP 1, insO 27 0]) := by show _ = _; rw [HST.out]; unfold ansC; rw [if_neg hk2]
                clear HST
                have k2 : (ck != 2) = true := by simp; omega
                have k6 : (ck != 6) = true := by simp; omega
                have k7 : (ck != 7) = true := by simp; omega
                have k2n : ¬ ck = 2 := by omega
                have k6n : ¬ ck = 6 := by omega
                have k7n : ¬ ck = 7 := by omega
                clear hk2 hkk
                go_wp2_with (at_builtin; refine Lib.wpList_append_run _ rfl (.tmp 94) (.tmp 95) _ _ rfl _ _ rfl rfl _ _ r5 ?_)
                refine (rP_any 1 (by omega) (by omega) _).mono ?_
                rintro e w6 ⟨rfl, s6⟩
                have HT6 : Hid (Touch w w6 []) := HT5.out.trans s6 (by simp)
                have HO6 : insOwn w6 w.heap.size (.slice a5 q5 c5) (acc ++ M) := ownsRow_touch HO5.out s6 (by simp)
                clear s6
                obtain ⟨a7, c7, w7, r7, o7, t7⟩ := flstep HO6 HT6.out [insP 1] #[.int .u8 1, .int .i64 0, .int .u64 (numV 1)] q5 1 (q5 + 1) HQ5.out rfl rfl (by omega) rfl
                have HO7 : Hid _ := o7
                have HT7 : Hid _ := t7
                clear o7 t7 HO6 HT6 HO5 HT5
                go_wp2_with (at_builtin; refine Lib.wpList_append_run _ rfl (.tmp 112) (.tmp 114) _ _ rfl _ _ rfl rfl _ _ r7 ?_)
                refine (rO_any _ _ _).mono ?_
                rintro e w8 ⟨rfl, s8⟩
                have HT8 : Hid (Touch w w8 []) := HT7.out.trans s8 (by simp)
                have HO8 : insOwn w8 w.heap.size (.slice a7 (q5 + 1) c7) (acc ++ M ++ [insP 1]) := ownsRow_touch HO7.out s8 (by simp)
                clear s8
                obtain ⟨a9, c9, w9, r9, o9, t9⟩ := flstep HO8 HT8.out [insO 27 0] #[.int .u8 27, .int .i64 0, .int .u64 0] (q5 + 1) 1 ((q5 + 1) + 1) (by rw [List.length_append, HQ5.out]; rfl) rfl rfl (by omega) rfl
                have e9 : (acc ++ M ++ [insP 1]) ++ [insO 27 0] = SC := by rw [HST2.out]; rw [List.append_assoc]; rfl
                have HSL : (SC).length = (q5 + 1) + 1 := by rw [← e9, List.length_append, show (acc ++ M ++ [insP 1]).length = q5 + 1 by rw [List.length_append, HQ5.out]; rfl]; rfl
                rw [e9] at o9
                have HW9 : Hid (∀ i ∈ SC, i.Wf) := by
                  intro i hi
                  rw [← e9] at hi
                  simp only [List.mem_append, List.mem_singleton] at hi
                  rcases hi with ((hi | hi) | rfl) | rfl
                  · exact HWA.out i hi
                  · exact HWM.out i hi
                  · exact insP_wf (by omega)
                  · exact insO_wf (by omega) (by omega) (by omega) (by omega)
                have HO9 : Hid _ := o9
                have HT9 : Hid _ := t9
                clear o9 t9 HO8 HT8 e9 HO7 HT7
                obtain ⟨q9, hq9⟩ : ∃ q, q = (q5 + 1) + 1 := ⟨_, rfl⟩
                rw [← hq9] at r9 HSL HO9
                have hq9b : q9 ≤ 70 := by omega
                clear hq9
                by_cases h64 : (q9 : Int) ≥ 64
                · have h64' : (64 : Int) ≤ q9 := h64
                  have HRN : Hid (R = none) := by show _ = _; exact HNO.out (by omega)
                  have HEN : Hid (E = 4) := by show _ = _; rw [HE2.out, HRN.out]; rfl
                  clear h64 HE2 HPL
                  go_wp2_with (at_builtin; refine Lib.wpList_append_run _ rfl (.tmp 116) (.tmp 118) _ _ rfl _ _ rfl rfl _ _ r9 ?_)
                  exact bodyPost_ret (v := .tuple #[.slice none 0 0, .int .i64 4]) (by simp [results, Tryz.results10, go_sem]) rfl (.inr ⟨by rw [HEN.out]; decide, by rw [HEN.out], HT9.out⟩)
                · have h64' : ¬ (64 : Int) ≤ q9 := h64
                  have HRG : Hid (R = runC n t (l.drop (j + 1)) (SC)) := by show _ = _; exact HGO.out (by omega)
                  have hsl := HSL
                  have HSLH : Hid _ := HSL
                  clear HSL
                  clear h64 HST2 hsl
                  go_wp2_with (at_builtin; refine Lib.wpList_append_run _ rfl (.tmp 116) (.tmp 118) _ _ rfl _ _ rfl rfl _ _ r9 ?_)
                  refine ⟨⟨j + 1, SC, a9, c9, by go_num, by omega, by rw [HSLH.out], HRG.out, by have h := HO9.out; rw [show (Value.slice a9 SC.length c9) = .slice a9 q9 c9 by rw [HSLH.out]]; exact h, HW9.out, by rw [HSLH.out]; omega, HT9.out⟩, ?_⟩
                  simp [intOf]; omega
            · have HE4 : Hid (ER = 4 ∧ (stepC n t acc ⟨ck, cu, cv⟩).length ≥ 64) := by
                have h2 := HRBE.out
                by_cases hgt : acc.length + ((ahdC ⟨ck, cu, cv⟩).length + lenC ck) > 64
                · rw [if_pos hgt] at h2
                  refine ⟨h2, ?_⟩
                  have h3 := HSTL.out
                  rw [h3]; omega
                · rw [if_neg hgt] at h2; exact absurd h2 he
              have her : ER = 4 := HE4.out.1
              have HRN : Hid (R = none) := by show _ = _; rw [HRD.out]; exact run_no HE4.out.2
              have HEN : Hid (E = 4) := by show _ = _; rw [HE2.out, HRN.out]; rfl
              have HT4 : Hid (Touch w w4 []) := HTW.out.trans t4 (by simp)
              subst her
              clear he t4 HRBE HML HSTL HLEN HE4 HOW HTW HRD
              go_wp2
              exact bodyPost_ret (v := .tuple #[.slice none 0 0, .int .i64 4]) (by simp [results, Tryz.results10, go_sem]) rfl (.inr ⟨by rw [HEN.out]; decide, by rw [HEN.out], HT4.out⟩)
          · have h1 : ¬ (j : Int) < mm := by omega
            have hjN : j = l.length := by rw [← HM.out]; omega
            have HRS : Hid (R = some (acc ++ [insO 28 0])) := by
              show _ = _
              rw [hR, hjN, List.drop_length, runC, if_neg (by omega)]
            have HEN : Hid (E = 0) := by show _ = _; rw [HE2.out, HRS.out]; rfl
            have HPN : Hid (PL = acc ++ [insO 28 0]) := by show _ = _; rw [HPL.out, HRS.out]; rfl
            have HOW : Hid (insOwn wr w.heap.size (.slice a acc.length c0) acc) := hown
            have HWA : Hid _ := hwf
            have HTW : Hid _ := hT
            obtain ⟨q, hq⟩ : ∃ q, q = acc.length := ⟨_, rfl⟩
            have HQ : Hid _ := hq
            have hqle : q < 64 := by omega
            have HOQ : Hid (insOwn wr w.heap.size (.slice a q c0) acc) := by show insOwn _ _ _ _; rw [hq]; exact hown
            simp only [← hq]
            clear hq hR hjN hown hwf hT HOW HE2 HPL
            go_wp2_with fail
            refine (rO_any _ _ _).mono ?_
            rintro e w8 ⟨rfl, s8⟩
            have HT8 : Hid (Touch w w8 []) := HTW.out.trans s8 (by simp)
            have HO8 : insOwn w8 w.heap.size (.slice a q c0) acc := ownsRow_touch HOQ.out s8 (by simp)
            clear s8
            obtain ⟨a9, c9, w9, r9, o9, t9⟩ := flstep HO8 HT8.out [insO 28 0] #[.int .u8 28, .int .i64 0, .int .u64 0] q 1 (q + 1) (HQ.out.symm) rfl rfl (by omega) rfl
            have HPW : Hid (∀ i ∈ PL, i.Wf) := by
              intro i hi
              rw [show PL = _ from HPN.out] at hi
              simp only [List.mem_append, List.mem_singleton] at hi
              rcases hi with hi | rfl
              · exact HWA.out i hi
              · exact insO_wf (by omega) (by omega) (by omega) (by omega)
            have HPI : Hid (PL.length = q + 1 ∧ InsIn w9 a9 PL.length c9 PL) := by
              have e : PL = acc ++ [insO 28 0] := HPN.out
              have el : PL.length = q + 1 := by rw [e, List.length_append, ← (show q = acc.length from HQ.out)]; rfl
              rw [← e] at o9
              obtain ⟨a7, c7, e7, i7⟩ := insIn_of o9 HPW.out
              simp only [Value.slice.injEq] at e7
              obtain ⟨rfl, _, rfl⟩ := e7
              exact ⟨el, i7⟩
            have HT9 : Hid _ := t9
            clear o9 t9 HO8 HT8
            go_wp2_with (at_builtin; refine Lib.wpList_append_run _ rfl (.tmp 123) (.tmp 125) _ _ rfl _ _ rfl rfl _ _ r9 ?_)
            exact bodyPost_ret (v := .tuple #[.slice a9 (q + 1) c9, .int .i64 0]) (by simp [results, Tryz.results10, go_sem]) rfl (.inl ⟨HEN.out, a9, c9, by rw [HPI.out.1], HPI.out.2, HT9.out⟩)

end Go.Proofs.YtcbkafbchpjnoaaGreatDoor
